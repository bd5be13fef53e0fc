/- Texts that the proof of U stands on, in one file. -/
import Derived.Test.YtbkmapaieillmaaZU5
import Derived.Test.YtbkmapaieillmaaZU3
import Derived.Test.YtbkmapaieillmaaZU4
import Derived.Test.YtbkmapaieillmaaZU2
import Derived.Test.YtbkmapaieillmaaZU1
import Derived.Deep.RegionHeld3
import Derived.Deep.QuietTactic
import Derived.BigQuiet
import Derived.Outline
import Derived.StillTailTactics
import Derived.Deep.Fields
import Derived.ChangeSame
set_option linter.unusedVariables false
set_option linter.unusedSimpArgs false
/- TokenValid of the model. -/
namespace Go.Proofs.Ytbkmapaieillmaa
open Go.RowKit

theorem tokOk_a {t : Tok} (h : oneTok t.text t.kind = false) : tokOk t = false := by unfold tokOk; rw [h]; rfl
theorem tokOk_b {t : Tok} (h : hidOk t.hidden = false) : tokOk t = false := by unfold tokOk; rw [h, Bool.and_false]
theorem tokOk_c {t : Tok} (h : oneTok t.text t.kind = true) (h' : hidOk t.hidden = true) : tokOk t = true := by unfold tokOk; rw [h, h']; rfl

section
variable {w w1 : World} {ty : TypeId} {v0 v1 v2 v3 : Value}
theorem box0 (hB : Below (w.alloc (.cells #[v0, v1, v2, v3] ty)).heap.size (w.alloc (.cells #[v0, v1, v2, v3] ty)) w1) : w1.cell? ⟨w.heap.size, 0, none⟩ = some v0 := (hB.cell (by simp)).trans (by rw [World.cell?_alloc_at _ _ _ _ rfl]; rfl)
theorem box1 (hB : Below (w.alloc (.cells #[v0, v1, v2, v3] ty)).heap.size (w.alloc (.cells #[v0, v1, v2, v3] ty)) w1) : w1.cell? ⟨w.heap.size, 1, none⟩ = some v1 := (hB.cell (by simp)).trans (by rw [World.cell?_alloc_at _ _ _ _ rfl]; rfl)
theorem box2 (hB : Below (w.alloc (.cells #[v0, v1, v2, v3] ty)).heap.size (w.alloc (.cells #[v0, v1, v2, v3] ty)) w1) : w1.cell? ⟨w.heap.size, 2, none⟩ = some v2 := (hB.cell (by simp)).trans (by rw [World.cell?_alloc_at _ _ _ _ rfl]; rfl)
theorem box3 (hB : Below (w.alloc (.cells #[v0, v1, v2, v3] ty)).heap.size (w.alloc (.cells #[v0, v1, v2, v3] ty)) w1) : w1.cell? ⟨w.heap.size, 3, none⟩ = some v3 := (hB.cell (by simp)).trans (by rw [World.cell?_alloc_at _ _ _ _ rfl]; rfl)
end

set_option maxHeartbeats 4000000 in
theorem spec_TokenValid_no (t : Tok) (h : Value) (fp : List Nat) (w : World) (ht : okStr t.text) (H : (sSlice sStr).R w [h] t.hidden fp) (hone : oneTok t.text t.kind = false) :
    Calls Try.prog 34 #[.agg #[.int .i64 t.kind, .string t.text, .bool t.spaced, h]] w (Says (tokOk t) w) := by
  have HT : Hid (∀ W, Calls Try.prog 35 #[.string t.text] W (TokMade (tokRes t.text) W)) := fun W => spec_TokensOf t.text W ht
  have HF := Lib.hid (tokOk_a hone)
  have hb0 := alloc_below' w (.cells #[.int .i64 t.kind, .string t.text, .bool t.spaced, h] 25)
  rcases one_ways t.text t.kind with ⟨hr, HG⟩ | ⟨l, hr, hl, HG⟩ | ⟨t', hr, hk, HG⟩ | ⟨t', hr, hk, hx, HG⟩ | ⟨t', hr, hk, hx, _, HG⟩
  · rw [hr] at HT
    clear hr hone
    go_enter Try.func34, Try.ntmps34
    go_wp2_with (go_at_call 35; refine (HT.out _).mono ?_; rintro e w' ⟨v, fp, rfl, hR, hO, hB⟩)
    go_quiet (fail)
    go_wp2
    go_ret
    exact ⟨ret_bool HF.out.symm, belowN (hb0.trans (hB.mono hb0.size)) _⟩
  · rw [hr] at HT
    have hl' : ((l.length : Int) != 1) = true := by simp; omega
    clear hr hone hl
    go_enter Try.func34, Try.ntmps34
    go_wp2_with (go_at_call 35; refine (HT.out _).mono ?_; rintro e w' ⟨v, fp, rfl, hR, hO, hB⟩; obtain ⟨a, cap, rfl, _, _, _⟩ := open_rows hR)
    go_quiet (fail)
    go_wp2
    go_ret
    exact ⟨ret_bool HF.out.symm, belowN (hb0.trans (hB.mono hb0.size)) _⟩
  · rw [hr] at HT
    have hk' : (t'.kind != t.kind) = true := by simp [hk]
    clear hr hone hk
    go_enter Try.func34, Try.ntmps34
    go_wp2_with (go_at_call 35; refine (HT.out _).mono ?_; rintro e w' ⟨v, fp, rfl, hR, hO, hB⟩; obtain ⟨b, off, cap, h', rfl, hc1, hc2, hb, h0, h1, h2, h3, _, _⟩ := open_one hR; have a0 := box0 hB)
    go_quiet (fail)
    go_wp2
    go_ret
    exact ⟨ret_bool HF.out.symm, belowN (hb0.trans (hB.mono hb0.size)) _⟩
  · rw [hr] at HT
    have hk' : (t'.kind != t.kind) = false := by simp [hk]
    have hx' : (t'.text.toList == t.text.toList) = false := bytes_bne hx
    clear hr hone hk hx
    go_enter Try.func34, Try.ntmps34
    go_wp2_with (go_at_call 35; refine (HT.out _).mono ?_; rintro e w' ⟨v, fp, rfl, hR, hO, hB⟩; obtain ⟨b, off, cap, h', rfl, hc1, hc2, hb, h0, h1, h2, h3, _, _⟩ := open_one hR; have a0 := box0 hB; have a1 := box1 hB)
    go_quiet (fail)
    go_wp2
    go_ret
    exact ⟨ret_bool HF.out.symm, belowN (hb0.trans (hB.mono hb0.size)) _⟩
  · exact absurd (HG.out.symm.trans hone) (by simp)

theorem sLess_ways {a b : ByteArray} : (sLess a b = true ∧ Op.bytesLess b.toList a.toList = false ∧ (b.toList == a.toList) = false) ∨ (sLess a b = false ∧ Op.bytesLess b.toList a.toList = true) ∨ (sLess a b = false ∧ Op.bytesLess b.toList a.toList = false ∧ (b.toList == a.toList) = true) := by
  cases h : sLess a b
  · have := sLess_no h
    cases h1 : Op.bytesLess b.toList a.toList
    · rw [h1, Bool.false_or] at this; exact .inr (.inr ⟨rfl, rfl, this⟩)
    · exact .inr (.inl ⟨rfl, rfl⟩)
  · have := sLess_yes h
    rw [Bool.or_eq_false_iff] at this
    exact .inl ⟨rfl, this.1, this.2⟩

set_option maxHeartbeats 8000000 in
set_option maxRecDepth 100000 in
theorem spec_TokenValid_yes (t : Tok) (h : Value) (fp : List Nat) (w : World) (ht : okStr t.text) (H : (sSlice sStr).R w [h] t.hidden fp) (hone : oneTok t.text t.kind = true) :
    Calls Try.prog 34 #[.agg #[.int .i64 t.kind, .string t.text, .bool t.spaced, h]] w (Says (tokOk t) w) := by
  have HT : Hid (∀ W, Calls Try.prog 35 #[.string t.text] W (TokMade (tokRes t.text) W)) := fun W => spec_TokensOf t.text W ht
  have HO := Lib.hid hone
  have hb0 := alloc_below' w (.cells #[.int .i64 t.kind, .string t.text, .bool t.spaced, h] 25)
  obtain ⟨ah, caph, rfl, hch, hmh, hcell, hsz⟩ := open_strs H
  unfold maxLen at hmh
  rcases one_ways t.text t.kind with ⟨hr, HG⟩ | ⟨l, hr, hl, HG⟩ | ⟨t', hr, hk, HG⟩ | ⟨t', hr, hk, hx, HG⟩ | ⟨t', hr, hk, hx, hsp, HG⟩
  · exact absurd (HG.out.symm.trans hone) (by simp)
  · exact absurd (HG.out.symm.trans hone) (by simp)
  · exact absurd (HG.out.symm.trans hone) (by simp)
  · exact absurd (HG.out.symm.trans hone) (by simp)
  rw [hr] at HT
  have hk' : (t'.kind != t.kind) = false := by simp [hk]
  have hx' : (t'.text.toList == t.text.toList) = true := bytes_beq hx
  clear hr hone hk hx HG
  by_cases hl : 60 < t.hidden.length
  · have HF := Lib.hid (tokOk_b (t := t) (hidOk_long hl))
    go_enter Try.func34, Try.ntmps34
    go_wp2_with (go_at_call 35; refine (HT.out _).mono ?_; rintro e w' ⟨v, fp, rfl, hR, hO, hB⟩; obtain ⟨b, off, cap, h', rfl, hc1, hc2, hb, h0, h1, h2, h3, _, _⟩ := open_one hR; have a0 := box0 hB; have a1 := box1 hB; have a3 := box3 hB; rw [hsp] at h2)
    go_quiet (fail)
    go_wp2
    go_ret
    exact ⟨ret_bool HF.out.symm, belowN (hb0.trans (hB.mono hb0.size)) _⟩
  · have hl' : ¬ (60 : Int) < (t.hidden.length : Int) := by omega
    have hl2 : decide ((60 : Int) < (t.hidden.length : Int)) = false := by simpa using hl'
    go_enter Try.func34, Try.ntmps34
    go_wp2_with (go_at_call 35; refine (HT.out _).mono ?_; rintro e w' ⟨v, fp, rfl, hR, hO, hB⟩; obtain ⟨b, off, cap, h', rfl, hc1, hc2, hb, h0, h1, h2, h3, _, _⟩ := open_one hR; have a0 := box0 hB; have a1 := box1 hB; have a3 := box3 hB; rw [hsp] at h2)
    go_quiet (fail)
    go_wp2
    have hB' := belowN hB nq
    clear a0 a1 a3 h0 h1 h2 h3 hR hO hc1 hc2 hb hB
    go_loopw [5] (fun i wr => ∃ k : Nat, k ≤ t.hidden.length ∧ i = .int .i64 k ∧ HidUpto t.hidden k ∧ Below (w.alloc (.cells #[.int .i64 t.kind, .string t.text, .bool t.spaced, .slice ah t.hidden.length caph] 25)).heap.size (w.alloc (.cells #[.int .i64 t.kind, .string t.text, .bool t.spaced, .slice ah t.hidden.length caph] 25)) wr) (fun i _ => t.hidden.length - (intOf i).toNat)
    case atStart => exact ⟨0, by omega, rfl, HidUpto.zero _, hB'⟩
    case round =>
      obtain ⟨k, hk, rfl, hall, hbel⟩ := hrel
      have hbw := hb0.trans (hbel.mono hb0.size)
      have hsl : (w.alloc (.cells #[.int .i64 t.kind, .string t.text, .bool t.spaced, .slice ah t.hidden.length caph] 25)).heap.size = w.heap.size + 1 := Array.size_push _
      have hwr : w.heap.size < wr.heap.size := by have := hbel.size; omega
      have a3 := box3 hbel
      by_cases hlt : k < t.hidden.length
      · obtain ⟨b, off, rfl, hb, _, hc2⟩ := hcell (by omega)
        have hck := (hbw.cell (p := ⟨b, off + k, none⟩) hb).trans (hc2 k hlt)
        have hbr : b < wr.heap.size := Nat.lt_of_lt_of_le hb hbw.size
        have hsk := hsz k hlt
        have HT : Hid (∀ W, Calls Try.prog 35 #[.string t.hidden[k]] W (TokMade (tokRes t.hidden[k]) W)) := fun W => spec_TokensOf t.hidden[k] W hsk
        rcases one_ways t.hidden[k] 1 with ⟨hr, HG⟩ | ⟨l, hr, hl, HG⟩ | ⟨t', hr, hk, HG⟩ | ⟨t', hr, hk, hx, HG⟩ | ⟨t', hr, hk, hx, _, HG⟩
        · rw [hr] at HT
          have HF := Lib.hid (tokOk_b (t := t) (hidOk_no hlt (hidAt_name hlt HG.out)))
          clear hr HG hc2 hall hcell
          go_wp2_with (go_at_call 35; refine (HT.out _).mono ?_; rintro e w' ⟨v, fp, rfl, hR, hO, hB2⟩; have a3' := (hB2.cell (p := ⟨w.heap.size, 3, none⟩) hwr).trans a3; have hck' := (hB2.cell (p := ⟨b, off + k, none⟩) hbr).trans hck)
          go_quiet (fail)
          go_wp2
          go_ret
          exact ⟨ret_bool HF.out.symm, belowN (hbw.trans (hB2.mono hbw.size)) _⟩
        · rw [hr] at HT
          have HF := Lib.hid (tokOk_b (t := t) (hidOk_no hlt (hidAt_name hlt HG.out)))
          have hl'' : ((l.length : Int) != 1) = true := by simp; omega
          clear hr HG hc2 hall hcell
          go_wp2_with (go_at_call 35; refine (HT.out _).mono ?_; rintro e w' ⟨v, fp, rfl, hR, hO, hB2⟩; obtain ⟨a, cap, rfl, _, _, _⟩ := open_rows hR; have a3' := (hB2.cell (p := ⟨w.heap.size, 3, none⟩) hwr).trans a3; have hck' := (hB2.cell (p := ⟨b, off + k, none⟩) hbr).trans hck)
          go_quiet (fail)
          go_wp2
          go_ret
          exact ⟨ret_bool HF.out.symm, belowN (hbw.trans (hB2.mono hbw.size)) _⟩
        · rw [hr] at HT
          have HF := Lib.hid (tokOk_b (t := t) (hidOk_no hlt (hidAt_name hlt HG.out)))
          have hk'' : (t'.kind != 1) = true := by simp [hk]
          clear hr HG hc2 hall hcell
          go_wp2_with (go_at_call 35; refine (HT.out _).mono ?_; rintro e w' ⟨v, fp, rfl, hR, hO, hB2⟩; obtain ⟨b1, off1, cap1, h1, rfl, hc11, hc21, hb1, g0, g1, g2, g3, _, _⟩ := open_one hR; have a3' := (hB2.cell (p := ⟨w.heap.size, 3, none⟩) hwr).trans a3; have hck' := (hB2.cell (p := ⟨b, off + k, none⟩) hbr).trans hck)
          go_quiet (fail)
          go_wp2
          go_ret
          exact ⟨ret_bool HF.out.symm, belowN (hbw.trans (hB2.mono hbw.size)) _⟩
        · rw [hr] at HT
          have HF := Lib.hid (tokOk_b (t := t) (hidOk_no hlt (hidAt_name hlt HG.out)))
          have hk'' : (t'.kind != 1) = false := by simp [hk]
          have hx'' : (t'.text.toList == t.hidden[k].toList) = false := bytes_bne hx
          clear hr HG hc2 hall hcell
          go_wp2_with (go_at_call 35; refine (HT.out _).mono ?_; rintro e w' ⟨v, fp, rfl, hR, hO, hB2⟩; obtain ⟨b1, off1, cap1, h1, rfl, hc11, hc21, hb1, g0, g1, g2, g3, _, _⟩ := open_one hR; have a3' := (hB2.cell (p := ⟨w.heap.size, 3, none⟩) hwr).trans a3; have hck' := (hB2.cell (p := ⟨b, off + k, none⟩) hbr).trans hck)
          go_quiet (fail)
          go_wp2
          go_ret
          exact ⟨ret_bool HF.out.symm, belowN (hbw.trans (hB2.mono hbw.size)) _⟩
        · rw [hr] at HT
          have hk'' : (t'.kind != 1) = false := by simp [hk]
          have hx'' : (t'.text.toList == t.hidden[k].toList) = true := bytes_beq hx
          by_cases h0 : k = 0
          · have h0' : decide ((0 : Int) < (k : Int)) = false := by simp; omega
            have HN : Hid (HidUpto t.hidden (k + 1)) := by subst h0; exact hall.succ (hidAt_first hlt HG.out)
            have h00 : ¬ (0 : Int) < (k : Int) := by omega
            have h01 : decide (0 < k) = false := by simp; omega
            clear h0
            clear hr HG hc2 hall hcell
            go_wp2_with (go_at_call 35; refine (HT.out _).mono ?_; rintro e w' ⟨v, fp, rfl, hR, hO, hB2⟩; obtain ⟨b1, off1, cap1, h1, rfl, hc11, hc21, hb1, g0, g1, g2, g3, _, _⟩ := open_one hR; have a3' := (hB2.cell (p := ⟨w.heap.size, 3, none⟩) hwr).trans a3; have hck' := (hB2.cell (p := ⟨b, off + k, none⟩) hbr).trans hck)
            go_quiet (fail)
            go_wp2
            go_roundw
            case rel => exact ⟨k + 1, by omega, by go_num, HN.out, belowN (hbel.trans (hB2.mono hbel.size)) _⟩
            case measure => simp [intOf]; omega
          · have hcp := (hbw.cell (p := ⟨b, off + (k - 1), none⟩) hb).trans (hc2 (k - 1) (by omega))
            have h6 : ((k : Int) - 1).toNat = k - 1 := by omega
            have h0' : (0 : Int) < (k : Int) := by omega
            have h0'' : decide ((0 : Int) < (k : Int)) = true := by simpa using h0'
            have h0n : decide (0 < k) = true := by simp; omega
            have hi1 : (0 : Int) ≤ (k : Int) - 1 := by omega
            have hi2 : (k : Int) - 1 < (t.hidden.length : Int) := by omega
            rcases sLess_ways (a := t.hidden[k - 1]'(by omega)) (b := t.hidden[k]) with ⟨hw, hw1, hw2⟩ | ⟨hw, hw1⟩ | ⟨hw, hw1, hw2⟩
            · have HN := Lib.hid (hall.succ (hidAt_later hlt (by omega) HG.out hw))
              clear hr HG hc2 hall hcell hw
              go_wp2_with (go_at_call 35; refine (HT.out _).mono ?_; rintro e w' ⟨v, fp, rfl, hR, hO, hB2⟩; obtain ⟨b1, off1, cap1, h1, rfl, hc11, hc21, hb1, g0, g1, g2, g3, _, _⟩ := open_one hR; have a3' := (hB2.cell (p := ⟨w.heap.size, 3, none⟩) hwr).trans a3; have hck' := (hB2.cell (p := ⟨b, off + k, none⟩) hbr).trans hck; have hcp' := (hB2.cell (p := ⟨b, off + (k - 1), none⟩) hbr).trans hcp)
              go_quiet (fail)
              go_wp2
              go_roundw
              case rel => exact ⟨k + 1, by omega, by go_num, HN.out, belowN (hbel.trans (hB2.mono hbel.size)) _⟩
              case measure => simp [intOf]; omega
            all_goals
              have HF := Lib.hid (tokOk_b (t := t) (hidOk_no hlt (hidAt_less hlt (by omega) hw)))
              clear hr HG hc2 hall hcell hw
              go_wp2_with (go_at_call 35; refine (HT.out _).mono ?_; rintro e w' ⟨v, fp, rfl, hR, hO, hB2⟩; obtain ⟨b1, off1, cap1, h1, rfl, hc11, hc21, hb1, g0, g1, g2, g3, _, _⟩ := open_one hR; have a3' := (hB2.cell (p := ⟨w.heap.size, 3, none⟩) hwr).trans a3; have hck' := (hB2.cell (p := ⟨b, off + k, none⟩) hbr).trans hck; have hcp' := (hB2.cell (p := ⟨b, off + (k - 1), none⟩) hbr).trans hcp)
              go_quiet (fail)
              go_wp2
              go_ret
              exact ⟨ret_bool HF.out.symm, belowN (hbw.trans (hB2.mono hbw.size)) _⟩
      · have HF := Lib.hid (tokOk_c HO.out (hidOk_yes hall (by omega) (by omega)))
        clear hall
        go_wp2
        go_ret
        exact ⟨ret_bool HF.out.symm, hbw⟩

theorem spec_TokenValid_a (t : Tok) (h : Value) (fp : List Nat) (w : World) (ht : okStr t.text) (H : (sSlice sStr).R w [h] t.hidden fp) :
    Calls Try.prog 34 #[.agg #[.int .i64 t.kind, .string t.text, .bool t.spaced, h]] w (Says (tokOk t) w) := by
  cases ho : oneTok t.text t.kind
  · exact spec_TokenValid_no t h fp w ht H ho
  · exact spec_TokenValid_yes t h fp w ht H ho

theorem spec_TokenValid (cs : List Value) (x : Tok) (fp : List Nat) (w : World) (H : sTok.R w cs x fp) : Calls Try.prog 34 #[.agg cs.toArray] w (Says (tokOk x) w) := by
  obtain ⟨h, rfl, _, hok, K⟩ := H
  exact spec_TokenValid_a x h fp w hok K

end Go.Proofs.Ytbkmapaieillmaa

/- SameTexts and TokensValid of both. -/
namespace Go.Proofs.Ytbkmapaieillmaa
open Go.RowKit

/-- What SameTexts looks at. -/
def tKey (t : Tok) : Int × ByteArray := (t.kind, t.text)
def sameTx (a b : List Tok) : Bool := decide (a.map tKey = b.map tKey)
def SameUpto (a b : List Tok) (k : Nat) : Prop := ∀ j, (h : j < a.length) → (h' : j < b.length) → j < k → tKey a[j] = tKey b[j]
theorem SameUpto.zero (a b : List Tok) : SameUpto a b 0 := by intro j _ _ h; omega
theorem SameUpto.succ {a b : List Tok} {k : Nat} (h : SameUpto a b k) (h1 : k < a.length) (h2 : k < b.length) (e1 : a[k].kind = b[k].kind) (e2 : a[k].text = b[k].text) : SameUpto a b (k + 1) := by
  intro j hj hj' hjk
  by_cases e : j = k
  · subst e; unfold tKey; rw [e1, e2]
  · exact h j hj hj' (by omega)
theorem same_len {a b : List Tok} (h : a.length ≠ b.length) : sameTx a b = false := by
  unfold sameTx; rw [decide_eq_false_iff_not]; intro e
  have := congrArg List.length e
  simp only [List.length_map] at this
  exact h this
theorem same_no {a b : List Tok} {k : Nat} (h1 : k < a.length) (h2 : k < b.length) (e : ¬ (a[k].kind = b[k].kind ∧ a[k].text = b[k].text)) : sameTx a b = false := by
  unfold sameTx; rw [decide_eq_false_iff_not]; intro e'
  have := List.getElem_of_eq e' (i := k) (by simpa using h1)
  simp only [List.getElem_map, tKey, Prod.mk.injEq] at this
  exact e this
theorem same_yes {a b : List Tok} {k : Nat} (h : SameUpto a b k) (hl : a.length = b.length) (hk : a.length ≤ k) : sameTx a b = true := by
  unfold sameTx; rw [decide_eq_true_eq]
  refine List.ext_getElem (by simpa using hl) fun i h1 h2 => ?_
  simp only [List.length_map] at h1 h2
  rw [List.getElem_map, List.getElem_map]
  exact h i h1 h2 (by omega)

set_option maxHeartbeats 4000000 in
set_option maxRecDepth 100000 in
theorem impl_SameTexts (v1 v2 : Value) (l1 l2 : List Tok) (fp1 fp2 : List Nat) (w : World) (H1 : (sSlice sTok).R w [v1] l1 fp1) (H2 : (sSlice sTok).R w [v2] l2 fp2) :
    Calls Try.prog 17 #[v1, v2] w (Says (sameTx l1 l2) w) := by
  obtain ⟨a1, cap1, rfl, hc1, hm1, hrow1⟩ := open_rows H1
  obtain ⟨a2, cap2, rfl, hc2, hm2, hrow2⟩ := open_rows H2
  unfold maxLen at hm1 hm2
  clear H1 H2
  by_cases hl : l1.length = l2.length
  · have hnb : ((l1.length : Int) != (l2.length : Int)) = false := by simp [hl]
    have HL := Lib.hid hl
    clear hl
    go_enter Try.func17, Try.ntmps17
    go_wp2
    go_loopw [13] (fun i wr => ∃ k : Nat, k ≤ l1.length ∧ i = .int .i64 k ∧ SameUpto l1 l2 k ∧ Below w.heap.size w wr) (fun i _ => l1.length - (intOf i).toNat)
    case atStart => exact ⟨0, by omega, rfl, SameUpto.zero _ _, Below.refl _ _⟩
    case round =>
      obtain ⟨k, hk, rfl, hall, hb⟩ := hrel
      by_cases hlt : k < l1.length
      · have hlt2 : k < l2.length := by have := HL.out; omega
        obtain ⟨b1, off1, fps1, rfl, hb1, -, he1⟩ := hrow1 (by omega)
        obtain ⟨b2, off2, fps2, rfl, hb2, -, he2⟩ := hrow2 (by omega)
        obtain ⟨es1, hE1, hR1⟩ := he1 k hlt
        obtain ⟨es2, hE2, hR2⟩ := he2 k hlt2
        clear hrow1 hrow2 he1 he2
        obtain ⟨h1, rfl, _, _, _⟩ := hR1
        obtain ⟨h2, rfl, _, _, _⟩ := hR2
        replace hE1 := hE1.frame (hb.block b1 hb1)
        replace hE2 := hE2.frame (hb.block b2 hb2)
        have c10 : wr.cell? ⟨b1, off1 + k * 4, none⟩ = some _ := elem_cell0 hE1 (by decide) rfl
        have c11 : wr.cell? ⟨b1, off1 + k * 4 + 1, none⟩ = some _ := elem_cell (j := 1) hE1 (by decide) rfl
        have c20 : wr.cell? ⟨b2, off2 + k * 4, none⟩ = some _ := elem_cell0 hE2 (by decide) rfl
        have c21 : wr.cell? ⟨b2, off2 + k * 4 + 1, none⟩ = some _ := elem_cell (j := 1) hE2 (by decide) rfl
        clear hE1 hE2
        by_cases e1 : l1[k].kind = l2[k].kind
        · have q1 : (l1[k].kind != l2[k].kind) = false := by simp [e1]
          by_cases e2 : l1[k].text = l2[k].text
          · have q2 := bytes_beq e2
            have hn := hall.succ hlt hlt2 e1 e2
            clear e1 e2 hall
            go_wp2
            go_quiet (fail)
            go_wp2
            go_roundw
            case rel => exact ⟨k + 1, by omega, by go_num, hn, belowN hb _⟩
            case measure => simp [intOf]; omega
          · have q2 := bytes_bne e2
            have HF := Lib.hid (same_no hlt hlt2 (fun h => e2 h.2))
            clear e1 e2 hall
            go_wp2
            go_quiet (fail)
            go_wp2
            go_ret
            exact ⟨ret_bool HF.out.symm, belowN hb _⟩
        · have q1 : (l1[k].kind != l2[k].kind) = true := by simp [e1]
          have HF := Lib.hid (same_no hlt hlt2 (fun h => e1 h.1))
          clear e1 hall
          go_wp2
          go_quiet (fail)
          go_wp2
          go_ret
          exact ⟨ret_bool HF.out.symm, belowN hb _⟩
      · have HF := Lib.hid (same_yes hall HL.out (by omega))
        clear hall
        go_wp2
        go_ret
        exact ⟨ret_bool HF.out.symm, hb⟩
  · have hnb : ((l1.length : Int) != (l2.length : Int)) = true := by simp; omega
    have HF := Lib.hid (same_len hl)
    clear hl
    go_enter Try.func17, Try.ntmps17
    go_wp2
    go_ret
    exact ⟨ret_bool HF.out.symm, Below.refl _ _⟩

def toksOk (l : List Tok) : Bool := decide (l.length ≤ 60) && l.all tokOk

set_option maxHeartbeats 4000000 in
set_option maxRecDepth 100000 in
theorem spec_TokensValid (v : Value) (l : List Tok) (fp : List Nat) (w : World) (H : (sSlice sTok).R w [v] l fp) :
    Calls Try.prog 45 #[v] w (Says (toksOk l) w) := by
  obtain ⟨a, cap, rfl, hc, hm, hrow⟩ := open_rows H
  unfold maxLen at hm
  clear H
  go_enter Try.func45, Try.ntmps45
  go_wp2
  go_loopw [3] (fun i wr => ∃ k : Nat, k ≤ l.length ∧ i = .int .i64 k ∧ AllUpto tokOk l k ∧ Below w.heap.size w wr) (fun i _ => l.length - (intOf i).toNat)
  case atStart => exact ⟨0, by omega, rfl, AllUpto.zero _ _, Below.refl _ _⟩
  case round =>
    obtain ⟨k, hk, rfl, hall, hb⟩ := hrel
    by_cases hlt : k < l.length
    · obtain ⟨b1, off1, fps1, rfl, hb1, -, he1⟩ := hrow (by omega)
      obtain ⟨es1, hE1, hR1⟩ := he1 k hlt
      clear hrow he1
      have hR2 := sTok.below hR1 hb
      obtain ⟨h1, rfl, _, _, _⟩ := hR1
      have HC := Lib.hid (spec_TokenValid _ _ _ wr hR2)
      clear hR2
      replace hE1 := hE1.frame (hb.block b1 hb1)
      have c10 : wr.cell? ⟨b1, off1 + k * 4, none⟩ = some _ := elem_cell0 hE1 (by decide) rfl
      have c11 : wr.cell? ⟨b1, off1 + k * 4 + 1, none⟩ = some _ := elem_cell (j := 1) hE1 (by decide) rfl
      have c12 : wr.cell? ⟨b1, off1 + k * 4 + 2, none⟩ = some _ := elem_cell (j := 2) hE1 (by decide) rfl
      have c13 : wr.cell? ⟨b1, off1 + k * 4 + 3, none⟩ = some _ := elem_cell (j := 3) hE1 (by decide) rfl
      clear hE1
      cases hv : tokOk l[k]
      · have HF := Lib.hid (all_no (p := tokOk) hlt hv)
        rw [hv] at HC
        clear hv hall
        go_wp2_with (go_at_call 34; refine (HC.out).mono ?_; rintro e w1 ⟨rfl, hb2⟩)
        go_ret
        exact ⟨ret_bool (by unfold toksOk; rw [HF.out]; simp), hb.trans (hb2.mono hb.size)⟩
      · have HN := Lib.hid (hall.succ hlt hv)
        rw [hv] at HC
        clear hv hall
        go_wp2_with (go_at_call 34; refine (HC.out).mono ?_; rintro e w1 ⟨rfl, hb2⟩)
        go_roundw
        case rel => exact ⟨k + 1, by omega, by go_num, HN.out, hb.trans (hb2.mono hb.size)⟩
        case measure => simp [intOf]; omega
    · have HF := Lib.hid (all_yes (p := tokOk) hall (by omega))
      clear hall
      go_wp2
      go_ret
      exact ⟨ret_bool (by unfold toksOk; rw [HF.out, Bool.and_true]; exact decide_eq_decide.2 (by omega)), hb⟩

set_option maxHeartbeats 4000000 in
set_option maxRecDepth 100000 in
theorem impl_TokensValid (v : Value) (l : List Tok) (fp : List Nat) (w : World) (H : (sSlice sTok).R w [v] l fp) :
    Calls Try.prog 16 #[v] w (Says (toksOk l) w) := by
  obtain ⟨a, cap, rfl, hc, hm, hrow⟩ := open_rows H
  unfold maxLen at hm
  clear H
  by_cases hl : 60 < l.length
  · go_enter Try.func16, Try.ntmps16
    go_wp2
    go_ret
    exact ⟨ret_bool (by unfold toksOk; rw [decide_eq_false (by omega)]; rfl), Below.refl _ _⟩
  go_enter Try.func16, Try.ntmps16
  go_wp2
  go_loopw [10] (fun i wr => ∃ k : Nat, k ≤ l.length ∧ i = .int .i64 k ∧ AllUpto tokOk l k ∧ Below w.heap.size w wr) (fun i _ => l.length - (intOf i).toNat)
  case atStart => exact ⟨0, by omega, rfl, AllUpto.zero _ _, Below.refl _ _⟩
  case round =>
    obtain ⟨k, hk, rfl, hall, hb⟩ := hrel
    by_cases hlt : k < l.length
    · obtain ⟨b1, off1, fps1, rfl, hb1, -, he1⟩ := hrow (by omega)
      obtain ⟨es1, hE1, hR1⟩ := he1 k hlt
      clear hrow he1
      have hR2 := sTok.below hR1 hb
      obtain ⟨h1, rfl, _, _, K1⟩ := hR1
      obtain ⟨ah, caph, rfl, -⟩ := open_rows K1
      clear K1
      have HC : Hid (∀ W, Below wr.heap.size wr W → Calls Try.prog 12 #[.agg #[.int .i64 l[k].kind, .string l[k].text, .bool l[k].spaced, .slice ah l[k].hidden.length caph]] W (Says (tokOk l[k]) W)) := fun W hW => impl_TokenValid _ _ _ W (sTok.below hR2 hW)
      clear hR2
      replace hE1 := hE1.frame (hb.block b1 hb1)
      have c10 : wr.cell? ⟨b1, off1 + k * 4, none⟩ = some _ := elem_cell0 hE1 (by decide) rfl
      have c11 : wr.cell? ⟨b1, off1 + k * 4 + 1, none⟩ = some _ := elem_cell (j := 1) hE1 (by decide) rfl
      have c12 : wr.cell? ⟨b1, off1 + k * 4 + 2, none⟩ = some _ := elem_cell (j := 2) hE1 (by decide) rfl
      have c13 : wr.cell? ⟨b1, off1 + k * 4 + 3, none⟩ = some _ := elem_cell (j := 3) hE1 (by decide) rfl
      clear hE1
      cases hv : tokOk l[k]
      · have HF := Lib.hid (all_no (p := tokOk) hlt hv)
        rw [hv] at HC
        clear hv hall
        go_wp2_with (go_at_call 12; refine (HC.out _ (alloc_below' _ _)).mono ?_; rintro e w1 ⟨rfl, hb2⟩)
        go_ret
        have hb3 := (alloc_below' wr (.cells #[.int .i64 l[k].kind, .string l[k].text, .bool l[k].spaced, .slice ah l[k].hidden.length caph] 25))
        exact ⟨ret_bool (by unfold toksOk; rw [HF.out]; simp), hb.trans ((hb3.trans (hb2.mono hb3.size)).mono hb.size)⟩
      · have HN := Lib.hid (hall.succ hlt hv)
        rw [hv] at HC
        clear hv hall
        go_wp2_with (go_at_call 12; refine (HC.out _ (alloc_below' _ _)).mono ?_; rintro e w1 ⟨rfl, hb2⟩)
        have hb3 := (alloc_below' wr (.cells #[.int .i64 l[k].kind, .string l[k].text, .bool l[k].spaced, .slice ah l[k].hidden.length caph] 25))
        go_roundw
        case rel => exact ⟨k + 1, by omega, by go_num, HN.out, hb.trans ((hb3.trans (hb2.mono hb3.size)).mono hb.size)⟩
        case measure => simp [intOf]; omega
    · have HF := Lib.hid (all_yes (p := tokOk) hall (by omega))
      clear hall
      go_wp2
      go_ret
      exact ⟨ret_bool (by unfold toksOk; rw [HF.out, Bool.and_true]; exact (decide_eq_true (by omega)).symm), hb⟩

end Go.Proofs.Ytbkmapaieillmaa

/- Printing tokens: no program. -/
namespace Go.Proofs.Ytbkmapaieillmaa
open Go.RowKit

theorem ext_get (s : ByteArray) (i j k : Nat) (h : k < (s.extract i j).size) : (s.extract i j)[k] = s[i + k]'(by rw [ByteArray.size_extract] at h; omega) := by
  rw [ByteArray.getElem_extract]

/-- A token's kind is that of its first byte. -/
def Headed (t : Tok) : Prop := ∃ h : 0 < t.text.size, t.kind = cutKind t.text[0]
theorem toks_head (s : ByteArray) : ∀ (k : Nat) (sp : Bool) (n : Nat) (l : List Tok), toks s k sp n = some l → ∀ t ∈ l, Headed t := by
  intro k sp n
  induction k, sp, n using toks.induct (s := s) with
  | case1 k sp n hk h32 ih =>
    intro l h
    rw [toks, dif_pos hk, if_pos h32] at h
    exact ih l h
  | case2 k sp n hk h32 hb =>
    intro l h
    rw [toks, dif_pos hk, if_neg h32, if_pos hb] at h
    exact absurd h (by simp)
  | case3 k sp n hk h32 hb ih =>
    intro l h t ht
    rw [toks, dif_pos hk, if_neg h32, if_neg hb] at h
    have hr := cutEnd_room (s := s) (k := k) (by omega)
    rw [Option.map_eq_some_iff] at h
    obtain ⟨l', h1, rfl⟩ := h
    rcases List.mem_cons.1 ht with rfl | ht
    · have hz : 0 < (s.extract k (cutEnd s k).toNat).size := by rw [ByteArray.size_extract]; omega
      refine ⟨hz, ?_⟩
      show cutKind s[k] = cutKind (s.extract k (cutEnd s k).toNat)[0]
      rw [ext_get]; rfl
    · exact ih l' h1 t ht
  | case4 k sp n hk =>
    intro l h
    rw [toks, dif_neg hk] at h
    simp only [Option.some.injEq] at h
    subst h; simp
theorem tokRes_head (s : ByteArray) : ∀ t ∈ (tokRes s).1, Headed t := by
  rcases hr : tokRes s with ⟨l, ok⟩
  cases ok
  · obtain rfl := tokRes_false hr
    simp
  · exact toks_head s 0 false 0 l (tokRes_true hr).1
theorem oneTok_res {x : ByteArray} {k : Int} (h : oneTok x k = true) : ∃ t, tokRes x = ([t], true) ∧ t.kind = k ∧ t.text = x := by
  rcases one_ways x k with ⟨_, HG⟩ | ⟨l, _, _, HG⟩ | ⟨t', _, _, HG⟩ | ⟨t', _, _, _, HG⟩ | ⟨t', hr, hk, hx, _, _⟩
  · exact absurd (HG.out.symm.trans h) (by simp)
  · exact absurd (HG.out.symm.trans h) (by simp)
  · exact absurd (HG.out.symm.trans h) (by simp)
  · exact absurd (HG.out.symm.trans h) (by simp)
  · exact ⟨t', hr, hk, hx⟩
/-- What is known of a valid token. -/
theorem tokOk_facts {t : Tok} (h : tokOk t = true) : Headed t ∧ t.text.size ≤ 200 := by
  unfold tokOk at h
  rw [Bool.and_eq_true] at h
  obtain ⟨u, hr, hk, hx⟩ := oneTok_res h.1
  have h1 := tokRes_head t.text u (by rw [hr]; simp)
  have h2 := lineOk_size (tokRes_true hr).2
  refine ⟨?_, h2⟩
  obtain ⟨a, b⟩ := h1
  obtain ⟨k, x, s, hd⟩ := t
  subst hx
  exact ⟨a, (show k = u.kind from hk.symm).trans b⟩

/-- The texts of the tokens are these two. -/
def readsTwo (a b : ByteArray) : Bool := (tokRes (a ++ b)).2 && decide ((tokRes (a ++ b)).1.map (·.text) = [a, b])
/-- Two texts have // or /* where they meet. -/
def meets (a b : ByteArray) : Bool := if h : 0 < a.size ∧ 0 < b.size then decide (a[a.size - 1].toNat = 47) && (decide (b[0].toNat = 47) || decide (b[0].toNat = 42)) else false
def glued (a b : ByteArray) : Bool := !readsTwo a b || meets a b
theorem two_ways (a b : ByteArray) :
    (tokRes (a ++ b) = ([], false) ∧ Hid (glued a b = true)) ∨
    (∃ l, tokRes (a ++ b) = (l, true) ∧ l.length ≠ 2 ∧ Hid (glued a b = true)) ∨
    (∃ t1 t2, tokRes (a ++ b) = ([t1, t2], true) ∧ t1.text ≠ a ∧ Hid (glued a b = true)) ∨
    (∃ t1 t2, tokRes (a ++ b) = ([t1, t2], true) ∧ t1.text = a ∧ t2.text ≠ b ∧ Hid (glued a b = true)) ∨
    (∃ t1 t2, tokRes (a ++ b) = ([t1, t2], true) ∧ t1.text = a ∧ t2.text = b ∧ 0 < a.size ∧ 0 < b.size ∧ Hid (glued a b = meets a b)) := by
  rcases hr : tokRes (a ++ b) with ⟨l, ok⟩
  cases ok
  · obtain rfl := tokRes_false hr
    exact .inl ⟨rfl, by simp [Hid, glued, readsTwo, hr]⟩
  · by_cases h1 : l.length = 2
    · obtain ⟨t1, t2, rfl⟩ : ∃ t1 t2, l = [t1, t2] := by
        match l, h1 with
        | [t1, t2], _ => exact ⟨t1, t2, rfl⟩
      by_cases h2 : t1.text = a
      · by_cases h3 : t2.text = b
        · have e1 := tokRes_head (a ++ b) t1 (by rw [hr]; simp)
          have e2 := tokRes_head (a ++ b) t2 (by rw [hr]; simp)
          refine .inr (.inr (.inr (.inr ⟨t1, t2, rfl, h2, h3, h2 ▸ e1.1, h3 ▸ e2.1, by simp [Hid, glued, readsTwo, hr, h2, h3]⟩)))
        · exact .inr (.inr (.inr (.inl ⟨t1, t2, rfl, h2, h3, by simp [Hid, glued, readsTwo, hr, h2, h3]⟩)))
      · exact .inr (.inr (.inl ⟨t1, t2, rfl, h2, by simp [Hid, glued, readsTwo, hr, h2]⟩))
    · refine .inr (.inl ⟨l, rfl, h1, ?_⟩)
      have : (decide (l.map (·.text) = [a, b])) = false := by
        rw [decide_eq_false_iff_not]; intro e
        have := congrArg List.length e
        simp at this
        exact h1 this
      simp [Hid, glued, readsTwo, hr, this]
/-- As the program asks it, of valid tokens. -/
theorem glued_same {a b : Tok} (ha : tokOk a = true) (hb : tokOk b = true) : (!(tokRes (a.text ++ b.text)).2 || !sameTx (tokRes (a.text ++ b.text)).1 [a, b]) = !readsTwo a.text b.text := by
  obtain ⟨⟨a0, a1⟩, _⟩ := tokOk_facts ha
  obtain ⟨⟨b0, b1⟩, _⟩ := tokOk_facts hb
  unfold readsTwo
  cases hr : (tokRes (a.text ++ b.text)).2
  · rfl
  · have : sameTx (tokRes (a.text ++ b.text)).1 [a, b] = decide ((tokRes (a.text ++ b.text)).1.map (·.text) = [a.text, b.text]) := by
      have hh := tokRes_head (a.text ++ b.text)
      unfold sameTx
      refine decide_eq_decide.2 ⟨fun h => ?_, fun h => ?_⟩
      · have := congrArg (List.map Prod.snd) h
        simpa [tKey, List.map_map, Function.comp_def] using this
      · obtain ⟨t1, t2, hl⟩ : ∃ t1 t2, (tokRes (a.text ++ b.text)).1 = [t1, t2] := by
          have h2 : (tokRes (a.text ++ b.text)).1.length = 2 := by
            have := congrArg List.length h
            simpa using this
          match hl : (tokRes (a.text ++ b.text)).1, h2 with
          | [t1, t2], _ => exact ⟨t1, t2, rfl⟩
        rw [hl] at h ⊢
        · simp only [List.map_cons, List.map_nil, List.cons.injEq, and_true] at h
          obtain ⟨c0, c1⟩ := hh t1 (by rw [hl]; simp)
          obtain ⟨d0, d1⟩ := hh t2 (by rw [hl]; simp)
          have e1 : t1.kind = a.kind := by rw [c1, a1]; congr 1; simp only [h.1]
          have e2 : t2.kind = b.kind := by rw [d1, b1]; congr 1; simp only [h.2]
          simp [tKey, e1, e2, h.1, h.2]
    rw [this]; simp

/-- There is a space before the token k. -/
def gap (l : List Tok) (k : Nat) : Bool := if h : 0 < k ∧ k < l.length then l[k].spaced || glued (l[k - 1]'(by omega)).text l[k].text else false
def prTo (l : List Tok) : Nat → ByteArray
  | 0 => ⟨#[]⟩
  | k + 1 => (if gap l k = true then prTo l k ++ ⟨#[32]⟩ else prTo l k) ++ (if h : k < l.length then l[k].text else ⟨#[]⟩)
theorem prTo_yes {l : List Tok} {k : Nat} (hk : k < l.length) (h : gap l k = true) : prTo l (k + 1) = prTo l k ++ ⟨#[32]⟩ ++ l[k].text := by rw [prTo, if_pos h, dif_pos hk]
theorem prTo_no {l : List Tok} {k : Nat} (hk : k < l.length) (h : gap l k = false) : prTo l (k + 1) = prTo l k ++ l[k].text := by rw [prTo, if_neg (by simp [h]), dif_pos hk]
theorem gap_zero (l : List Tok) : gap l 0 = false := by unfold gap; rw [dif_neg (by omega)]
theorem gap_spaced {l : List Tok} {k : Nat} (h0 : 0 < k) (hk : k < l.length) (h : l[k].spaced = true) : gap l k = true := by unfold gap; rw [dif_pos ⟨h0, hk⟩, h]; rfl
theorem gap_glued {l : List Tok} {k : Nat} (h0 : 0 < k) (hk : k < l.length) (h : l[k].spaced = false) : gap l k = glued (l[k - 1]'(by omega)).text l[k].text := by unfold gap; rw [dif_pos ⟨h0, hk⟩, h]; rfl
def printRes (l : List Tok) : ByteArray × Bool := if toksOk l = true then (if 200 < (prTo l l.length).size then (⟨#[]⟩, false) else (prTo l l.length, true)) else (⟨#[]⟩, false)
theorem printRes_no {l : List Tok} (h : toksOk l = false) : printRes l = (⟨#[]⟩, false) := by unfold printRes; rw [if_neg (by simp [h])]
theorem printRes_long {l : List Tok} {k : Nat} (h : toksOk l = true) (hk : l.length = k) (h2 : 200 < (prTo l k).size) : printRes l = (⟨#[]⟩, false) := by unfold printRes; rw [if_pos h, hk, if_pos h2]
theorem printRes_yes {l : List Tok} {k : Nat} (h : toksOk l = true) (hk : l.length = k) (h2 : ¬ 200 < (prTo l k).size) : printRes l = (prTo l k, true) := by unfold printRes; rw [if_pos h, hk, if_neg h2]
theorem toksOk_facts {l : List Tok} (h : toksOk l = true) : l.length ≤ 60 ∧ ∀ k, (hk : k < l.length) → tokOk l[k] = true := by
  unfold toksOk at h
  rw [Bool.and_eq_true, decide_eq_true_eq, List.all_eq_true] at h
  exact ⟨h.1, fun k hk => h.2 _ (List.getElem_mem hk)⟩
theorem prTo_size {l : List Tok} (h : toksOk l = true) : ∀ k, k ≤ l.length → (prTo l k).size ≤ 201 * k
  | 0, _ => by show (0 : Nat) ≤ _; omega
  | k + 1, hk => by
    have ih := prTo_size h k (by omega)
    have h2 := (tokOk_facts ((toksOk_facts h).2 k (by omega))).2
    cases hg : gap l k
    · rw [prTo_no (by omega) hg, ByteArray.size_append]; omega
    · rw [prTo_yes (by omega) hg, ByteArray.size_append, ByteArray.size_append]
      have : (⟨#[32]⟩ : ByteArray).size = 1 := rfl
      omega

end Go.Proofs.Ytbkmapaieillmaa

/- What is printed is read again; tokens of a line are valid: no program. -/
namespace Go.Proofs.Ytbkmapaieillmaa
open Go.RowKit

def bAt (s : ByteArray) (j : Nat) : Option UInt8 := if h : j < s.size then some s[j] else none
theorem bAt_lt {s : ByteArray} {j : Nat} (h : j < s.size) : bAt s j = some s[j] := by unfold bAt; rw [dif_pos h]
theorem bAt_ge {s : ByteArray} {j : Nat} (h : s.size ≤ j) : bAt s j = none := by unfold bAt; rw [dif_neg (by omega)]
theorem bAt_some {s : ByteArray} {j : Nat} {c : UInt8} (h : bAt s j = some c) : ∃ hj : j < s.size, s[j] = c := by
  by_cases hj : j < s.size
  · rw [bAt_lt hj, Option.some.injEq] at h; exact ⟨hj, h⟩
  · rw [bAt_ge (by omega)] at h; exact absurd h (by simp)
theorem bAt_left {s t : ByteArray} {j : Nat} (h : j < s.size) : bAt (s ++ t) j = bAt s j := by
  rw [bAt_lt (by rw [ByteArray.size_append]; omega), bAt_lt h, ByteArray.getElem_append_left h]
theorem bAt_right {s t : ByteArray} {i j : Nat} (h : i = s.size + j) : bAt (s ++ t) i = bAt t j := by
  subst h
  by_cases hj : j < t.size
  · rw [bAt_lt (by rw [ByteArray.size_append]; omega), bAt_lt hj, ByteArray.getElem_append_right (by omega)]
    congr 2; omega
  · rw [bAt_ge (by rw [ByteArray.size_append]; omega), bAt_ge (by omega)]
theorem bAt_ext {a b : ByteArray} (h : a.size = b.size) (h2 : ∀ j, j < a.size → bAt a j = bAt b j) : a = b := by
  apply ByteArray.ext
  apply Array.ext (by exact h)
  intro i h1 h3
  have h1' : i < a.size := h1
  have := h2 i h1'
  rw [bAt_lt h1', bAt_lt (h ▸ h1'), Option.some.injEq] at this
  simpa [ByteArray.getElem_eq_getElem_data] using this
theorem bAt_sub {s : ByteArray} {i e j : Nat} (he : e ≤ s.size) (h : j < e - i) : bAt (s.extract i e) j = bAt s (i + j) := by
  have hz : (s.extract i e).size = e - i := by rw [ByteArray.size_extract]; omega
  rw [bAt_lt (by omega), bAt_lt (by omega), ext_get]

/-- A byte that makes no token before it longer. -/
def stopB (c : UInt8) : Bool := !isWord c && decide (c ≠ 61) && decide (c ≠ 38) && decide (c ≠ 124) && decide (c ≠ 35)
theorem stopB_word {c : UInt8} (h : stopB c = true) : isWord c = false := by
  unfold stopB at h
  simp only [Bool.and_eq_true] at h
  simpa using h.1.1.1.1
/-- The byte behind a token does not make it longer. -/
def Ends (s' : ByteArray) (k' : Nat) (s : ByteArray) (k : Nat) : Prop := bAt s' k' = bAt s k ∨ ∀ c, bAt s' k' = some c → stopB c = true
theorem ends_space {s' : ByteArray} {k' : Nat} {s : ByteArray} {k : Nat} (h : bAt s' k' = some 32) : Ends s' k' s k := .inr fun c hc => by
  rw [h, Option.some.injEq] at hc; subst hc; decide
theorem ends_none {s' : ByteArray} {k' : Nat} {s : ByteArray} {k : Nat} (h : bAt s' k' = none) : Ends s' k' s k := .inr fun c hc => by
  rw [h] at hc; exact absurd hc (by simp)
theorem wEnd_same {s s' : ByteArray} : ∀ (d k k' : Nat), wEnd s k = k + d → (∀ j, j < d → bAt s' (k' + j) = bAt s (k + j)) → Ends s' (k' + d) s (k + d) → wEnd s' k' = k' + d
  | 0, k, k', h, _, hE => by
    have hstop : ∀ c, bAt s k = some c → isWord c = false := fun c hc => by
      obtain ⟨hk, rfl⟩ := bAt_some hc
      cases hw : isWord s[k]
      · rfl
      · rw [wEnd_in hk hw] at h
        have := (wEnd_bounds s (k + 1)).1
        omega
    by_cases hk' : k' < s'.size
    · rcases hE with h1 | h1
      · rw [Nat.add_zero, Nat.add_zero, bAt_lt hk'] at h1
        exact wEnd_stop hk' (hstop _ h1.symm)
      · exact wEnd_stop hk' (stopB_word (h1 _ (bAt_lt hk')))
    · exact wEnd_out (by omega)
  | d + 1, k, k', h, hb, hE => by
    have hk : k < s.size := by
      apply Nat.lt_of_not_le; intro hn
      rw [wEnd_out hn] at h; omega
    have hw : isWord s[k] = true := by
      cases hw : isWord s[k]
      · rw [wEnd_stop hk hw] at h; omega
      · rfl
    rw [wEnd_in hk hw] at h
    have h0 := hb 0 (by omega)
    rw [Nat.add_zero, Nat.add_zero, bAt_lt hk] at h0
    obtain ⟨hk', he⟩ := bAt_some h0
    rw [wEnd_in hk' (by rw [he]; exact hw)]
    have e1 : k' + (d + 1) = k' + 1 + d := by omega
    have e2 : k + (d + 1) = k + 1 + d := by omega
    rw [e1]
    refine wEnd_same (s := s) (s' := s') d (k + 1) (k' + 1) (by omega) (fun j hj => ?_) (by rw [← e1, ← e2]; exact hE)
    have := hb (j + 1) (by omega)
    rwa [show k' + (j + 1) = k' + 1 + j by omega, show k + (j + 1) = k + 1 + j by omega] at this
theorem tClose_same {s s' : ByteArray} (d : Nat) : ∀ (k k' : Nat), tClose s k = some (k + d) → (∀ j, j < d → bAt s' (k' + j) = bAt s (k + j)) → tClose s' k' = some (k' + d) := by
  induction d using Nat.strongRecOn with
  | ind d ih =>
    intro k k' h hb
    have hs := tClose_some h
    have hk : k < s.size := by omega
    have h0 := hb 0 (by omega)
    rw [Nat.add_zero, Nat.add_zero, bAt_lt hk] at h0
    obtain ⟨hk', he⟩ := bAt_some h0
    by_cases h34 : s[k].toNat = 34
    · rw [tClose_quote hk h34, Option.some.injEq] at h
      rw [tClose_quote hk' (by rw [he]; exact h34)]
      congr 1; omega
    · by_cases h92 : s[k].toNat = 92
      · rw [tClose_back hk h92] at h
        have hs2 := tClose_some h
        rw [tClose_back hk' (by rw [he]; exact h92)]
        have := ih (d - 2) (by omega) (k + 2) (k' + 2) (by rw [h]; congr 1; omega) (fun j hj => by
          have := hb (j + 2) (by omega)
          rwa [show k' + (j + 2) = k' + 2 + j by omega, show k + (j + 2) = k + 2 + j by omega] at this)
        rw [this]; congr 1; omega
      · rw [tClose_else hk h34 h92] at h
        have hs2 := tClose_some h
        rw [tClose_else hk' (by rw [he]; exact h34) (by rw [he]; exact h92)]
        have := ih (d - 1) (by omega) (k + 1) (k' + 1) (by rw [h]; congr 1; omega) (fun j hj => by
          have := hb (j + 1) (by omega)
          rwa [show k' + (j + 1) = k' + 1 + j by omega, show k + (j + 1) = k + 1 + j by omega] at this)
        rw [this]; congr 1; omega
theorem two_bAt (s : ByteArray) (k : Nat) (a b : UInt8) : two s k a b = (decide (bAt s k = some a) && decide (bAt s (k + 1) = some b)) := by
  have hd : ∀ j, s.data.toList[j]? = bAt s j := fun j => by
    by_cases hj : j < s.size
    · rw [bAt_lt hj, List.getElem?_eq_getElem (by simpa using hj)]; simp [ByteArray.getElem_eq_getElem_data]
    · rw [bAt_ge (by omega), List.getElem?_eq_none (by simpa using hj)]
  have hx : ∀ L : List UInt8, [a, b].isPrefixOf L = (decide (L[0]? = some a) && decide (L[1]? = some b)) := fun L => by
    match L with
    | [] => simp [List.isPrefixOf]
    | [x] => simp [List.isPrefixOf]
    | x :: y :: L =>
      have e : ∀ u v : UInt8, (u == v) = decide (v = u) := fun u v => by
        by_cases h : v = u
        · subst h; simp
        · have h' : ¬ u = v := fun e => h e.symm
          simp [h, h']
      simp [List.isPrefixOf, e]
  unfold two
  rw [hx, List.getElem?_drop, List.getElem?_drop, hd, hd, Nat.add_zero]
theorem twoAt_same {s s' : ByteArray} {k k' : Nat} (h0 : bAt s' k' = bAt s k) (h1 : bAt s' (k' + 1) = bAt s (k + 1)) : twoAt s' k' = twoAt s k := by
  unfold twoAt; simp only [two_bAt, h0, h1]
theorem twoAt_no {s : ByteArray} {k : Nat} (h : ∀ c, bAt s (k + 1) = some c → stopB c = true) : twoAt s k = false := by
  unfold twoAt; simp only [two_bAt]
  cases hb : bAt s (k + 1) with
  | none => simp
  | some c =>
    have := h c hb
    unfold stopB at this
    simp only [Bool.and_eq_true, decide_eq_true_eq] at this
    obtain ⟨⟨⟨⟨_, h1⟩, h2⟩, h3⟩, h4⟩ := this
    simp [h1, h2, h3, h4]
theorem mLen_same {s s' : ByteArray} {k k' d : Nat} (h : mLen s k = d) (h0 : d ≠ 0) (hb : ∀ j, j < d → bAt s' (k' + j) = bAt s (k + j)) (hE : Ends s' (k' + d) s (k + d)) : mLen s' k' = d := by
  have b0 := hb 0 (by omega)
  rw [Nat.add_zero, Nat.add_zero] at b0
  cases ht : twoAt s k
  · have hk : k < s.size := by
      apply Nat.lt_of_not_le; intro hn
      unfold mLen at h; rw [if_neg (by simp [ht]), dif_neg (by omega)] at h; omega
    unfold mLen at h
    rw [if_neg (by simp [ht]), dif_pos hk] at h
    have hm : s[k] ∈ marks1 := by
      apply Classical.byContradiction; intro hn
      rw [if_neg hn] at h; omega
    rw [if_pos hm] at h
    subst h
    have ht' : twoAt s' k' = false := by
      rcases hE with h1 | h1
      · rw [twoAt_same b0 h1, ht]
      · exact twoAt_no h1
    rw [bAt_lt hk] at b0
    obtain ⟨hk', he⟩ := bAt_some b0
    unfold mLen
    rw [if_neg (by simp [ht']), dif_pos hk', if_pos (by rw [he]; exact hm)]
  · unfold mLen at h
    rw [if_pos ht] at h
    subst h
    have b1 := hb 1 (by omega)
    unfold mLen
    rw [if_pos (by rw [twoAt_same b0 b1]; exact ht)]
/-- Where a token ends depends on no byte but those of it and the next one. -/
theorem cut_same {s s' : ByteArray} {k k' d : Nat} (h : cutEnd s k = (k + d : Nat)) (hb : ∀ j, j < d → bAt s' (k' + j) = bAt s (k + j)) (hE : Ends s' (k' + d) s (k + d)) : cutEnd s' k' = (k' + d : Nat) := by
  have hr := cutEnd_room (s := s) (k := k) (by omega)
  have hk : k < s.size := hr.2.2
  have hd0 : 0 < d := by omega
  have b0 := hb 0 (by omega)
  rw [Nat.add_zero, Nat.add_zero, bAt_lt hk] at b0
  obtain ⟨hk', he⟩ := bAt_some b0
  cases hw : isWord s[k]
  · by_cases hq : s[k].toNat = 34
    · rw [cutEnd_text hk hw hq] at h
      cases hc : tClose s (k + 1) with
      | none => rw [hc] at h; simp only at h; omega
      | some e =>
        rw [hc] at h
        replace h : (e : Int) = (k + d : Nat) := h
        have := tClose_same (s := s) (s' := s') (d - 1) (k + 1) (k' + 1) (by rw [hc]; congr 1; omega) (fun j hj => by
          have := hb (j + 1) (by omega)
          rwa [show k' + (j + 1) = k' + 1 + j by omega, show k + (j + 1) = k + 1 + j by omega] at this)
        rw [cutEnd_text hk' (by rw [he]; exact hw) (by rw [he]; exact hq), this]
        simp only; omega
    · rw [cutEnd_mark hk hw hq] at h
      split at h
      · omega
      · rename_i h0
        have := mLen_same (s := s) (s' := s') (k := k) (k' := k') (d := d) (by omega) (by omega) hb hE
        rw [cutEnd_mark hk' (by rw [he]; exact hw) (by rw [he]; exact hq), this, if_neg (by omega)]
  · rw [cutEnd_word hk hw] at h
    split at h
    · omega
    · rename_i h0
      have := wEnd_same (s := s) (s' := s') d k k' (by omega) hb hE
      rw [cutEnd_word hk' (by rw [he]; exact hw), this, if_neg (by omega)]

theorem first_cut {z : ByteArray} {t : Tok} {ts : List Tok} (h : toks z 0 false 0 = some (t :: ts)) (h0 : 0 < z.size) (h32 : ¬ z[0].toNat = 32) : cutEnd z 0 = (t.text.size : Nat) := by
  rw [toks, dif_pos h0, if_neg h32] at h
  split at h
  · simp at h
  · rename_i hb
    rw [Option.map_eq_some_iff] at h
    obtain ⟨l', _, h2⟩ := h
    simp only [List.cons.injEq] at h2
    have hr := cutEnd_room (s := z) (k := 0) (by omega)
    rw [← h2.1]
    show _ = ((z.extract 0 (cutEnd z 0).toNat).size : Int)
    rw [ByteArray.size_extract]; omega
/-- A valid token's text runs to its own end. -/
theorem tokOk_cut {t : Tok} (h : tokOk t = true) : ∃ h0 : 0 < t.text.size, t.text[0].toNat ≠ 32 ∧ cutEnd t.text 0 = (t.text.size : Nat) ∧ lineOk t.text = true := by
  unfold tokOk at h
  rw [Bool.and_eq_true] at h
  obtain ⟨u, hr, _, hx⟩ := oneTok_res h.1
  obtain ⟨h1, _⟩ := tokRes_head t.text u (by rw [hr]; simp)
  obtain ⟨h2, h3⟩ := tokRes_true hr
  have h0 : 0 < t.text.size := by rw [← hx]; exact h1
  have h32 : ¬ t.text[0].toNat = 32 := by
    intro h32
    rw [toks, dif_pos h0, if_pos h32] at h2
    have := toks_fit t.text 1 true 0 _ h2 (by omega) u (by simp)
    rw [hx] at this
    omega
  refine ⟨h0, h32, ?_, h3⟩
  have := first_cut h2 h0 h32
  rw [hx] at this
  exact this
/-- .. and, if no space is needed, not into the next one's. -/
theorem glued_cut {a b : Tok} (ha : tokOk a = true) (hg : glued a.text b.text = false) : cutEnd (a.text ++ b.text) 0 = (a.text.size : Nat) := by
  obtain ⟨h0, h32, _, _⟩ := tokOk_cut ha
  unfold glued at hg
  rw [Bool.or_eq_false_iff] at hg
  have h1 : readsTwo a.text b.text = true := by simpa using hg.1
  unfold readsTwo at h1
  rw [Bool.and_eq_true, decide_eq_true_eq] at h1
  obtain ⟨h2, h3⟩ := h1
  rcases hr : tokRes (a.text ++ b.text) with ⟨l, ok⟩
  rw [hr] at h2 h3
  simp only at h2 h3
  subst h2
  match l, h3 with
  | t :: ts, h3 =>
    simp only [List.map_cons, List.cons.injEq] at h3
    have hz : 0 < (a.text ++ b.text).size := by rw [ByteArray.size_append]; omega
    have := first_cut (tokRes_true hr).1 hz (by rw [ByteArray.getElem_append_left h0]; exact h32)
    rw [h3.1] at this
    exact this

theorem prTo_mono (l : List Tok) (i : Nat) : ∀ m p, p < (prTo l i).size → bAt (prTo l (i + m)) p = bAt (prTo l i) p
  | 0, p, _ => rfl
  | m + 1, p, h => by
    have ih := prTo_mono l i m p h
    have hp : p < (prTo l (i + m)).size := by
      rw [bAt_lt h] at ih
      exact (bAt_some ih).1
    rw [← ih, ← Nat.add_assoc]
    show bAt ((if gap l (i + m) = true then prTo l (i + m) ++ ⟨#[32]⟩ else prTo l (i + m)) ++ _) p = _
    split
    · rw [bAt_left (by rw [ByteArray.size_append]; omega), bAt_left hp]
    · rw [bAt_left hp]

/-- Where the token i begins. -/
def posOf (l : List Tok) (i : Nat) : Nat := (prTo l i).size + (if gap l i = true then 1 else 0)
theorem one32 : (⟨#[32]⟩ : ByteArray).size = 1 := rfl
theorem pos_end {l : List Tok} {i : Nat} (hi : i < l.length) : (prTo l (i + 1)).size = posOf l i + l[i].text.size := by
  unfold posOf
  cases hg : gap l i
  · rw [prTo_no hi hg, ByteArray.size_append, if_neg (by simp)]; omega
  · rw [prTo_yes hi hg, ByteArray.size_append, ByteArray.size_append, one32, if_pos rfl]
theorem pos_text {l : List Tok} {i : Nat} (hi : i < l.length) {m : Nat} (hm : i + 1 ≤ m) {j : Nat} (hj : j < l[i].text.size) : bAt (prTo l m) (posOf l i + j) = bAt l[i].text j := by
  obtain ⟨r, rfl⟩ := Nat.exists_eq_add_of_le hm
  rw [prTo_mono l (i + 1) r _ (by rw [pos_end hi]; omega)]
  unfold posOf
  cases hg : gap l i
  · rw [prTo_no hi hg, if_neg (by simp)]
    exact bAt_right (by omega)
  · rw [prTo_yes hi hg, if_pos rfl]
    exact bAt_right (by rw [ByteArray.size_append, one32])
theorem pos_gap {l : List Tok} {i : Nat} (hi : i < l.length) {m : Nat} (hm : i + 1 ≤ m) (hg : gap l i = true) : bAt (prTo l m) (prTo l i).size = some 32 := by
  obtain ⟨r, rfl⟩ := Nat.exists_eq_add_of_le hm
  have hs := pos_end hi
  unfold posOf at hs
  rw [if_pos hg] at hs
  rw [prTo_mono l (i + 1) r _ (by omega), prTo_yes hi hg, bAt_left (by rw [ByteArray.size_append, one32]; omega), bAt_right (i := (prTo l i).size) (j := 0) (by omega)]
  rfl
/-- Each token is cut out of the printed line again. -/
theorem pos_cut {l : List Tok} (h : toksOk l = true) {i : Nat} (hi : i < l.length) : cutEnd (prTo l l.length) (posOf l i) = (posOf l i + l[i].text.size : Nat) := by
  obtain ⟨h0, _, hc, _⟩ := tokOk_cut ((toksOk_facts h).2 i hi)
  by_cases hn : i + 1 < l.length
  · cases hg : gap l (i + 1)
    · have hgl : glued l[i].text l[i + 1].text = false := by
        unfold gap at hg
        rw [dif_pos ⟨by omega, hn⟩, Bool.or_eq_false_iff] at hg
        exact hg.2
      have hc2 := glued_cut ((toksOk_facts h).2 i hi) hgl
      refine cut_same (s := l[i].text ++ l[i + 1].text) (k := 0) (by rw [hc2]; omega) (fun j hj => ?_) (.inl ?_)
      · rw [pos_text hi (by omega) hj, Nat.zero_add, bAt_left hj]
      · obtain ⟨h1, _⟩ := tokOk_cut ((toksOk_facts h).2 (i + 1) hn)
        have e : posOf l i + l[i].text.size = posOf l (i + 1) + 0 := by
          have := pos_end hi
          show _ = (prTo l (i + 1)).size + _ + 0
          rw [if_neg (by simp [hg]), this]
          rfl
        rw [e, pos_text hn (by omega) h1, Nat.zero_add, bAt_right (j := 0) (by omega)]
    · refine cut_same (s := l[i].text) (k := 0) (by rw [hc]; omega) (fun j hj => ?_) (ends_space ?_)
      · rw [pos_text hi (by omega) hj, Nat.zero_add]
      · rw [← pos_end hi]
        exact pos_gap hn (by omega) hg
  · refine cut_same (s := l[i].text) (k := 0) (by rw [hc]; omega) (fun j hj => ?_) (ends_none ?_)
    · rw [pos_text hi (by omega) hj, Nat.zero_add]
    · rw [← pos_end hi]
      have e : i + 1 = l.length := by omega
      rw [e]
      exact bAt_ge (Nat.le_refl _)
/-- The tokens as they are read back: a gap is a space before them. -/
def readBack (l : List Tok) : List Tok := l.mapIdx fun i t => ⟨t.kind, t.text, gap l i, []⟩
theorem readBack_len (l : List Tok) : (readBack l).length = l.length := by simp [readBack]
theorem readBack_get (l : List Tok) (i : Nat) (h : i < (readBack l).length) : (readBack l)[i] = ⟨(l[i]'(by rw [readBack_len] at h; exact h)).kind, (l[i]'(by rw [readBack_len] at h; exact h)).text, gap l i, []⟩ := by simp [readBack]
theorem readBack_keys (l : List Tok) : (readBack l).map tKey = l.map tKey := by
  refine List.ext_getElem (by simp [readBack]) fun i h1 h2 => ?_
  simp [readBack, tKey]
theorem pos_all {l : List Tok} (h : toksOk l = true) : ∀ i, i ≤ l.length → AtT (prTo l l.length) (prTo l i).size false ((readBack l).take i)
  | 0, _ => AtT.zero _
  | i + 1, hi => by
    have hA := pos_all h i (by omega)
    have hi' : i < l.length := by omega
    obtain ⟨h0, h32, hc, _⟩ := tokOk_cut ((toksOk_facts h).2 i hi')
    have hh := (tokOk_facts ((toksOk_facts h).2 i hi')).1
    have hcut := pos_cut h hi'
    have hfirst := pos_text hi' (m := l.length) (by omega) h0
    rw [Nat.add_zero, bAt_lt h0] at hfirst
    obtain ⟨hp, hpe⟩ := bAt_some hfirst
    have hA' : AtT (prTo l l.length) (posOf l i) (gap l i) ((readBack l).take i) := by
      unfold posOf
      cases hg : gap l i
      · rw [if_neg (by simp)]; exact hA
      · have hb := pos_gap hi' (m := l.length) (by omega) hg
        obtain ⟨hb1, hb2⟩ := bAt_some hb
        rw [if_pos rfl]; exact hA.space hb1 (by rw [hb2]; rfl)
    have hol : ((readBack l).take i).length = i := by rw [List.length_take, readBack_len]; omega
    have hlen := (toksOk_facts h).1
    have hT := hA'.tok hp (by rw [hpe]; exact h32) hcut (by omega)
    have hx : (prTo l l.length).extract (posOf l i) (posOf l i + l[i].text.size) = l[i].text := by
      have hr := cutEnd_room (s := prTo l l.length) (k := posOf l i) (by rw [hcut]; omega)
      rw [hcut] at hr
      have hz : ((prTo l l.length).extract (posOf l i) (posOf l i + l[i].text.size)).size = l[i].text.size := by rw [ByteArray.size_extract]; omega
      refine bAt_ext hz fun j hj => ?_
      rw [bAt_sub (by omega) (by omega)]
      exact pos_text hi' (by omega) (by omega)
    have hir : i < (readBack l).length := by rw [readBack_len]; exact hi'
    obtain ⟨_, hkind⟩ := hh
    have e : (⟨cutKind (prTo l l.length)[posOf l i], (prTo l l.length).extract (posOf l i) (posOf l i + l[i].text.size), gap l i, []⟩ : Tok) = (readBack l)[i] := by
      rw [readBack_get, hx, hpe, ← hkind]
    rw [e, ← List.take_succ_eq_append_getElem hir] at hT
    rw [pos_end hi']
    exact hT

def AllOk (s : ByteArray) : Prop := ∀ j c, bAt s j = some c → okByte c = true
theorem AllOk.app {a b : ByteArray} (ha : AllOk a) (hb : AllOk b) : AllOk (a ++ b) := fun j c h => by
  by_cases hj : j < a.size
  · rw [bAt_left hj] at h; exact ha j c h
  · rw [bAt_right (j := j - a.size) (by omega)] at h; exact hb _ c h
theorem AllOk.of {s : ByteArray} (h : lineOk s = true) : AllOk s := fun j c hc => by
  obtain ⟨hj, rfl⟩ := bAt_some hc
  unfold lineOk at h
  rw [Bool.and_eq_true, List.all_eq_true] at h
  exact h.2 _ (by simp [ByteArray.getElem_eq_getElem_data])
theorem AllOk.line {s : ByteArray} (h : AllOk s) (hs : s.size ≤ 200) : lineOk s = true := by
  rw [lineOk_yes (k := s.size) (fun j hj _ => h j _ (bAt_lt hj)) (Nat.le_refl _)]
  exact decide_eq_true hs
theorem prTo_ok {l : List Tok} (h : toksOk l = true) : ∀ k, k ≤ l.length → AllOk (prTo l k)
  | 0, _ => fun j c hc => by
    obtain ⟨hj, _⟩ := bAt_some hc
    exact absurd hj (by show ¬ j < 0; omega)
  | k + 1, hk => by
    have ih := prTo_ok h k (by omega)
    have hx := AllOk.of (tokOk_cut ((toksOk_facts h).2 k (by omega))).2.2.2
    have h32 : AllOk ⟨#[32]⟩ := fun j c hc => by
      obtain ⟨hj, rfl⟩ := bAt_some hc
      have : j = 0 := by have : j < 1 := hj; omega
      subst this
      show okByte 32 = true
      decide
    cases hg : gap l k
    · rw [prTo_no (by omega) hg]; exact ih.app hx
    · rw [prTo_yes (by omega) hg]; exact (ih.app h32).app hx
/-- What is printed is read again. -/
theorem print_back {l : List Tok} (hv : toksOk l = true) (hl : (prTo l l.length).size ≤ 200) : tokRes (prTo l l.length) = (readBack l, true) := by
  have hA := pos_all hv l.length (Nat.le_refl _)
  rw [List.take_of_length_le (by rw [readBack_len]; exact Nat.le_refl _)] at hA
  exact tokRes_some ((prTo_ok hv _ (Nat.le_refl _)).line hl) (hA.done (Nat.le_refl _))
/-- .. the same kinds and texts, in order. -/
theorem print_reads {l : List Tok} {x : ByteArray} (h : printRes l = (x, true)) : ∃ out, tokRes x = (out, true) ∧ sameTx out l = true := by
  have hv : toksOk l = true := by
    cases hv : toksOk l
    · rw [printRes_no hv] at h; simp at h
    · rfl
  by_cases hl : 200 < (prTo l l.length).size
  · rw [printRes_long hv rfl hl] at h; simp at h
  · rw [printRes_yes hv rfl hl] at h
    simp only [Prod.mk.injEq, and_true] at h
    subst h
    refine ⟨_, print_back hv (by omega), ?_⟩
    unfold sameTx
    rw [readBack_keys]; simp

/-- A token that is cut out of a line is one by itself. -/
theorem sub_tok {s : ByteArray} (hs : lineOk s = true) {k e : Nat} (hk : k < s.size) (h32 : ¬ s[k].toNat = 32) (hc : cutEnd s k = (e : Nat)) (sp : Bool) : tokOk ⟨cutKind s[k], s.extract k e, sp, []⟩ = true := by
  have hr := cutEnd_room (s := s) (k := k) (by omega)
  have hz : (s.extract k e).size = e - k := by rw [ByteArray.size_extract]; omega
  have hb : ∀ j, j < e - k → bAt (s.extract k e) (0 + j) = bAt s (k + j) := fun j hj => by rw [Nat.zero_add]; exact bAt_sub (by omega) hj
  have hcx := cut_same (s' := s.extract k e) (k' := 0) (d := e - k) (by rw [hc]; omega) hb (ends_none (bAt_ge (by omega)))
  have h0 : 0 < (s.extract k e).size := by omega
  have hf : (s.extract k e)[0] = s[k] := ext_get s k e 0 h0
  have hl : lineOk (s.extract k e) = true := by
    refine AllOk.line (fun j c hj => ?_) (by have := lineOk_size hs; omega)
    obtain ⟨h1, _⟩ := bAt_some hj
    rw [bAt_sub (by omega) (by omega)] at hj
    exact AllOk.of hs _ c hj
  have ht : toks (s.extract k e) 0 false 0 = some [⟨cutKind s[k], s.extract k e, false, []⟩] := by
    have hzz : ((s.extract k e).extract 0 (e - k)).size = (s.extract k e).size := by rw [ByteArray.size_extract]; omega
    have hx : (s.extract k e).extract 0 (e - k) = s.extract k e := bAt_ext hzz fun j hj => by
      rw [bAt_sub (by omega) (by omega), Nat.zero_add]
    rw [toks, dif_pos h0, if_neg (by rw [hf]; exact h32), hcx, if_neg (by omega), Nat.zero_add, Int.toNat_natCast, Nat.max_eq_right (by omega), toks, dif_neg (by omega), hf, hx]
    rfl
  have hr := tokRes_some hl ht
  unfold tokOk
  rw [Bool.and_eq_true]
  refine ⟨?_, by show hidOk [] = true; decide⟩
  show oneTok (s.extract k e) (cutKind s[k]) = true
  simp [oneTok, hr]
theorem toks_valid {s : ByteArray} (hs : lineOk s = true) : ∀ (k : Nat) (sp : Bool) (n : Nat) (l : List Tok), toks s k sp n = some l → ∀ t ∈ l, tokOk t = true := by
  intro k sp n
  induction k, sp, n using toks.induct (s := s) with
  | case1 k sp n hk h32 ih =>
    intro l h
    rw [toks, dif_pos hk, if_pos h32] at h
    exact ih l h
  | case2 k sp n hk h32 hb =>
    intro l h
    rw [toks, dif_pos hk, if_neg h32, if_pos hb] at h
    exact absurd h (by simp)
  | case3 k sp n hk h32 hb ih =>
    intro l h t ht
    rw [toks, dif_pos hk, if_neg h32, if_neg hb] at h
    have hr := cutEnd_room (s := s) (k := k) (by omega)
    rw [Option.map_eq_some_iff] at h
    obtain ⟨l', h1, rfl⟩ := h
    rcases List.mem_cons.1 ht with rfl | ht
    · exact sub_tok hs hk h32 (by omega) sp
    · exact ih l' h1 t ht
  | case4 k sp n hk =>
    intro l h
    rw [toks, dif_neg hk] at h
    simp only [Option.some.injEq] at h
    subst h; simp
/-- Tokens of a line are valid. -/
theorem tokRes_valid {s : ByteArray} {l : List Tok} (h : tokRes s = (l, true)) : toksOk l = true := by
  obtain ⟨h1, h2⟩ := tokRes_true h
  have h3 := (tokRes_all s).1
  rw [h] at h3
  unfold toksOk
  rw [Bool.and_eq_true, decide_eq_true_eq, List.all_eq_true]
  exact ⟨h3, fun t ht => toks_valid h2 0 false 0 l h1 t ht⟩

end Go.Proofs.Ytbkmapaieillmaa

/- Macros: their validity, their texts, and how they are read: no program. -/
namespace Go.Proofs.Ytbkmapaieillmaa
open Go.RowKit

structure DMacro where
  name : ByteArray
  function : Bool
  params : List ByteArray
  body : List Tok

def definedB : ByteArray := ⟨#[100, 101, 102, 105, 110, 101, 100]⟩
def hash1 : ByteArray := ⟨#[35]⟩
def hash2 : ByteArray := ⟨#[35, 35]⟩
def openB : ByteArray := ⟨#[40]⟩
def closeB : ByteArray := ⟨#[41]⟩
def commaB : ByteArray := ⟨#[44]⟩
/-- The number of the parameter that a token is, from k on, or -1. -/
def parFrom (ps : List ByteArray) (t : Tok) (k : Nat) : Int := if h : k < ps.length then (if t.kind = 1 ∧ ps[k] = t.text then (k : Int) else parFrom ps t (k + 1)) else -1
termination_by ps.length - k
def parOf (ps : List ByteArray) (t : Tok) : Int := parFrom ps t 0
theorem parFrom_key (ps : List ByteArray) {t u : Tok} (h1 : t.kind = u.kind) (h2 : t.text = u.text) (k : Nat) : parFrom ps t k = parFrom ps u k := by
  induction k using parFrom.induct (ps := ps) (t := t) with
  | case1 k h hc => rw [parFrom.eq_def ps t k, dif_pos h, if_pos hc, parFrom.eq_def ps u k, dif_pos h, if_pos (by rw [← h1, ← h2]; exact hc)]
  | case2 k h hc ih => rw [parFrom.eq_def ps t k, dif_pos h, if_neg hc, ih, parFrom.eq_def ps u k, dif_pos h, if_neg (by rw [← h1, ← h2]; exact hc)]
  | case3 k h => rw [parFrom.eq_def ps t k, dif_neg h, parFrom.eq_def ps u k, dif_neg h]

def macHead (m : DMacro) : Bool := oneTok m.name 1 && !decide (m.name = definedB) && decide (m.params.length ≤ 4) && (m.function || decide (m.params.length = 0)) && decide (m.body.length ≤ 20)
def parOk (ps : List ByteArray) (k : Nat) : Bool := if h : k < ps.length then oneTok ps[k] 1 && (List.range k).all (fun j => !decide (ps[j]? = some ps[k])) else true
def bodOk (m : DMacro) (k : Nat) : Bool :=
  if h : k < m.body.length then
    tokOk m.body[k] && decide (m.body[k].hidden.length = 0) && !(decide (k = 0) && m.body[k].spaced) &&
    !(decide (m.body[k].text = hash2) && (decide (k = 0) || decide (k + 1 = m.body.length) || decide ((m.body[k - 1]'(by omega)).text = hash2))) &&
    !(m.function && decide (m.body[k].text = hash1) && (if h2 : k + 1 < m.body.length then decide (parOf m.params m.body[k + 1] < 0) else true))
  else true
def macOk (m : DMacro) : Bool := macHead m && (List.range m.params.length).all (parOk m.params) && (List.range m.body.length).all (bodOk m)

/-- The head of a macro's text, up to the parameter k. -/
def hdTo (m : DMacro) : Nat → ByteArray
  | 0 => m.name ++ openB
  | k + 1 => (if 0 < k then hdTo m k ++ commaB else hdTo m k) ++ (if h : k < m.params.length then m.params[k] else ⟨#[]⟩)
def headOf (m : DMacro) : ByteArray := if m.function = true then hdTo m m.params.length ++ closeB else m.name
def macOut (m : DMacro) : ByteArray := if 0 < m.body.length then headOf m ++ ⟨#[32]⟩ ++ (printRes m.body).1 else headOf m
def macText (m : DMacro) : ByteArray × Bool := if macOk m = true then (if (printRes m.body).2 = false ∨ 200 < (macOut m).size then (⟨#[]⟩, false) else (macOut m, true)) else (⟨#[]⟩, false)

/-- The names of parameters from a place on, and where the body begins. -/
def parsAt (l : List Tok) (k : Nat) : Option (List ByteArray × Nat) :=
  if h : k + 1 < l.length then
    (if l[k].kind = 1 then (if l[k + 1].text = closeB then some ([l[k].text], k + 2) else if l[k + 1].text = commaB then (parsAt l (k + 2)).map (fun p => (l[k].text :: p.1, p.2)) else none) else none)
  else none
termination_by l.length - k
def parsOf (l : List Tok) : Option (List ByteArray × Nat) := if h : 2 < l.length then (if l[2].text = closeB ∧ l[2].kind = 4 then some ([], 3) else parsAt l 2) else none
/-- A body as it is read: nothing hidden, the first one not Spaced. -/
def bodyFrom (l : List Tok) (k : Nat) : List Tok := (l.drop k).mapIdx fun i t => ⟨t.kind, t.text, t.spaced && decide (0 < i), []⟩
def zeroMac : DMacro := ⟨⟨#[]⟩, false, [], []⟩
def macChk (m : DMacro) : DMacro × Bool := if macOk m = true then (m, true) else (zeroMac, false)
/-- Whether the second token opens parameters. -/
def opens2 (l : List Tok) : Bool := if h : 1 < l.length then decide (l[1].text = openB) && !l[1].spaced else false
def macOf (l : List Tok) : DMacro × Bool :=
  if h : toksOk l = true ∧ 0 < l.length then
    (if opens2 l = true then (match parsOf l with | some p => macChk ⟨l[0].text, true, p.1, bodyFrom l p.2⟩ | none => (zeroMac, false))
     else macChk ⟨l[0].text, false, [], bodyFrom l 1⟩)
  else (zeroMac, false)

/-! ### Valid macros -/
theorem macOk_facts {m : DMacro} (h : macOk m = true) : (oneTok m.name 1 = true ∧ m.name ≠ definedB ∧ m.params.length ≤ 4 ∧ (m.function = true ∨ m.params = []) ∧ m.body.length ≤ 20) ∧ (∀ k, (hk : k < m.params.length) → oneTok m.params[k] 1 = true) ∧ (∀ k, k < m.body.length → bodOk m k = true) := by
  unfold macOk macHead at h
  simp only [Bool.and_eq_true, Bool.not_eq_true', decide_eq_false_iff_not, decide_eq_true_eq, Bool.or_eq_true, List.all_eq_true, List.mem_range, List.length_eq_zero_iff] at h
  obtain ⟨⟨⟨⟨⟨⟨h1, h2⟩, h3⟩, h4⟩, h5⟩, h6⟩, h7⟩ := h
  refine ⟨⟨h1, h2, h3, h4, h5⟩, fun k hk => ?_, h7⟩
  have := h6 k hk
  unfold parOk at this
  rw [dif_pos hk, Bool.and_eq_true] at this
  exact this.1
theorem bodOk_facts {m : DMacro} {k : Nat} (hk : k < m.body.length) (h : bodOk m k = true) : tokOk m.body[k] = true ∧ m.body[k].hidden = [] ∧ (k = 0 → m.body[k].spaced = false) := by
  unfold bodOk at h
  rw [dif_pos hk] at h
  simp only [Bool.and_eq_true, decide_eq_true_eq, List.length_eq_zero_iff, Bool.not_eq_true', Bool.and_eq_false_iff, decide_eq_false_iff_not] at h
  obtain ⟨⟨⟨⟨h1, h2⟩, h3⟩, _⟩, _⟩ := h
  exact ⟨h1, h2, fun h => h3.resolve_left (fun h' => h' h)⟩
theorem tokOk_bare {t : Tok} (h : tokOk t = true) (sp : Bool) : tokOk ⟨t.kind, t.text, sp, []⟩ = true := by
  unfold tokOk at h ⊢
  rw [Bool.and_eq_true] at h ⊢
  exact ⟨h.1, by show hidOk [] = true; decide⟩
/-- Only the kinds and texts of a body count. -/
theorem macOk_keys {m : DMacro} {b : List Tok} (h : macOk m = true) (hl : b.length = m.body.length) (hk : ∀ k, (h1 : k < b.length) → (h2 : k < m.body.length) → b[k].kind = m.body[k].kind ∧ b[k].text = m.body[k].text ∧ b[k].hidden = [] ∧ (k = 0 → b[k].spaced = false)) :
    macOk ⟨m.name, m.function, m.params, b⟩ = true := by
  have hF := macOk_facts h
  unfold macOk at h ⊢
  rw [Bool.and_eq_true] at h ⊢
  refine ⟨?_, ?_⟩
  · have h1 := h.1
    unfold macHead at h1 ⊢
    simp only [hl] at h1 ⊢
    exact h1
  · rw [List.all_eq_true]
    intro k hkm
    rw [List.mem_range] at hkm
    have hkb : k < m.body.length := by simpa [hl] using hkm
    have hkb' : k < b.length := by omega
    have hB := hF.2.2 k hkb
    have hf := bodOk_facts hkb hB
    obtain ⟨e1, e2, e3, e4⟩ := hk k hkb' hkb
    have ht : tokOk b[k] = true := by
      have := tokOk_bare hf.1 b[k].spaced
      rw [← e1, ← e2, ← e3] at this
      exact this
    unfold bodOk at hB ⊢
    rw [dif_pos hkb] at hB
    rw [dif_pos (show k < (⟨m.name, m.function, m.params, b⟩ : DMacro).body.length from hkb')]
    simp only [ht, e2, e3, hl, List.length_nil, decide_true, Bool.true_and]
    simp only [hf.1, hf.2.1, List.length_nil, decide_true, Bool.true_and] at hB
    have e5 : (decide (k = 0) && b[k].spaced) = false := by
      by_cases h0 : k = 0
      · rw [e4 h0, Bool.and_false]
      · simp [h0]
    have e6 : (b[k - 1]'(by omega)).text = (m.body[k - 1]'(by omega)).text := (hk (k - 1) (by omega) (by omega)).2.1
    rw [e5, e6]
    rw [Bool.and_eq_true, Bool.and_eq_true] at hB
    rw [Bool.and_eq_true, Bool.and_eq_true]
    refine ⟨⟨by simp, hB.1.2⟩, ?_⟩
    have h2 := hB.2
    by_cases h3 : k + 1 < m.body.length
    · rw [dif_pos h3] at h2
      obtain ⟨g1, g2, _, _⟩ := hk (k + 1) (by omega) h3
      have e7 : parOf m.params (b[k + 1]'(by omega)) = parOf m.params m.body[k + 1] := parFrom_key _ g1 g2 0
      rw [dif_pos h3, e7]
      exact h2
    · rw [dif_neg h3] at h2 ⊢
      exact h2

end Go.Proofs.Ytbkmapaieillmaa

/- Macro: its shape, and the law's own helpers. (Made by rec.py.) -/
namespace Go.Proofs.Ytbkmapaieillmaa
open Go.RowKit Go.ChangeShapes Go.WideShapes Go.Deep

def sMacro : Shape DMacro where
  m := 4
  R w cs d fp := ∃ (h2 : Value) (h3 : Value) (fp2 : List Nat) (fp3 : List Nat), cs = [.string d.name, .bool d.function, h2, h3] ∧ okStr d.name ∧ (sSlice sStr).R w [h2] d.params fp2 ∧ (sSlice sTok).R w [h3] d.body fp3 ∧ fp = fp2 ++ fp3
  frame := by
    rintro w w' cs d fp hf ⟨h2, h3, fp2, fp3, rfl, k0, K2, K3, rfl⟩
    exact ⟨h2, h3, fp2, fp3, rfl, k0, (sSlice sStr).frame (fun b hb => hf b (by simp [hb])) K2, (sSlice sTok).frame (fun b hb => hf b (by simp [hb])) K3, rfl⟩
  lt := by
    rintro w cs d fp ⟨h2, h3, fp2, fp3, rfl, k0, K2, K3, rfl⟩ b hb
    rcases List.mem_append.1 hb with hb | hb
    · exact (sSlice sStr).lt K2 b hb
    · exact (sSlice sTok).lt K3 b hb
def mkMacro (k : Int) (x : DMacro) : DMacro := ⟨mtext (k), (k + 1) % 3 == 0, marks mtext (k + 1 + 1) x.params.length, mkTokenS (k + 1 + 1 + (x.params.length : Int)) x.body⟩
def cntMacro (x : DMacro) : Nat := 2 + x.params.length + cntTokenS x.body
def mkMacroS (k : Int) (l : List DMacro) : List DMacro := mkAll mkMacro cntMacro k l
def cntMacroS (l : List DMacro) : Nat := cntAll cntMacro l
def wtMacro (x : DMacro) : Nat := x.name.size + wtStringS x.params + wtTokenS x.body
def wtMacroS (l : List DMacro) : Nat := l.length + (l.map wtMacro).sum

section
variable {H : Type} {enc : TypeId × Value → H} {P : Program} {w : World} {base : Nat} {spare : Nat → Bool} {held : Bool}
theorem opensP_Macro {t : TypeId} {f0 f1 f2 f3 : Field} (hs : P.underlying t = some (.struct #[f0, f1, f2, f3])) (hone : oneCellFields P #[f0, f1, f2, f3] = true) (hC : P.cellsOf t = 4) (h0 : Opens enc P w base spare held f0.type sStr) (h1 : Opens enc P w base spare held f1.type sBool) (h2 : Opens enc P w base spare held f2.type (sSlice sStr)) (h3 : Opens enc P w base spare held f3.type (sSlice sTok)) : Opens enc P w base spare held t sMacro := by
  intro fuel cs x h
  obtain ⟨xs, n, _, hx, hcl, hlen, hg⟩ := DataW.trod_struct hs h
  rw [hC] at hcl
  match cs, hcl with
  | [c0, c1, c2, c3], _ =>
    obtain ⟨o0, k0⟩ := hone_of hone 0 f0 rfl
    have g0 := hg 0 f0 rfl
    rw [o0, k0] at g0
    obtain ⟨o1, k1⟩ := hone_of hone 1 f1 rfl
    have g1 := hg 1 f1 rfl
    rw [o1, k1] at g1
    obtain ⟨o2, k2⟩ := hone_of hone 2 f2 rfl
    have g2 := hg 2 f2 rfl
    rw [o2, k2] at g2
    obtain ⟨o3, k3⟩ := hone_of hone 3 f3 rfl
    have g3 := hg 3 f3 rfl
    rw [o3, k3] at g3
    match xs, hlen with
    | [y0, y1, y2, y3], _ =>
      obtain ⟨d0, p0, hc0, hok0, rfl⟩ := h0 n _ _ g0
      obtain ⟨d1, p1, hc1, hok1, rfl⟩ := h1 n _ _ g1
      obtain ⟨d2, p2, hc2⟩ := h2 n _ _ g2
      obtain ⟨d3, p3, hc3⟩ := h3 n _ _ g3
      simp at hc0 hc1 hc2 hc3
      subst hc0
      subst hc1
      exact ⟨⟨d0, d1, d2, d3⟩, p2 ++ p3, c2, c3, p2, p3, rfl, hok0, hc2, hc3, rfl⟩
end
section
variable {H : Type} {enc : TypeId × Value → H} {w : World} {base : Nat} {spare : Nat → Bool} {held : Bool}
end
abbrev zero_Macro : Value := .agg #[.string ByteArray.empty, .bool false, .slice none 0 0, .slice none 0 0]

def cntVMacro (x : DMacro) : Nat := x.params.length + cntTokenS x.body
def mkVMacro (k : Int) (x : DMacro) : DMacro := ⟨x.name, x.function, (marks mtext (k) x.params.length), (mkTokenS (k + (x.params.length : Int)) x.body)⟩
end Go.Proofs.Ytbkmapaieillmaa

/- Whether two tokens need a space between them: the program and its model. -/
namespace Go.Proofs.Ytbkmapaieillmaa
open Go.RowKit

def begins (x y : UInt8) : Bool := decide (x.toNat = 47) && (decide (y.toNat = 47) || decide (y.toNat = 42))
theorem meets_begins {a b : ByteArray} (ha : 0 < a.size) (hb : 0 < b.size) : meets a b = begins (a[a.size - 1]'(by omega)) b[0] := by
  unfold meets; rw [dif_pos ⟨ha, hb⟩]; rfl

theorem run_lastB (P : Program) (t : TypeId) (s : ByteArray) (h : P.underlying t = some .string) (h0 : 0 < s.size) (W : World) :
    (Instr.index t (.string s) (.int .i64 ((s.size : Int) - 1))).run P W = .ok (.int .u8 ((s[s.size - 1]'(by omega)).toNat : Int)) W := by
  rw [run_index_string W t s .i64 _ h, dif_pos (by omega)]
  congr 4
  congr 1
  omega

/-- A literal of structs, as a slice. -/
theorem lit_row {α : Type} {S : Shape α} {w : World} {e : TypeId} (L : List (Elem α)) (hlen : ∀ x ∈ L, x.cells.length = S.m) (hR : ∀ x ∈ L, S.R w x.cells x.d x.fp) (hn : L.length ≤ maxLen) :
    ∃ fp, (sSlice S).R (w.alloc (.cells (L.flatMap (·.cells)).toArray e)) [.slice (some ⟨w.heap.size, 0, none⟩) L.length L.length] (L.map (·.d)) fp := by
  have h := World.ownsRow_lit (base := w.heap.size) (e := e) (size := S.m) w (L.flatMap (·.cells)).toArray L.length (Nat.le_refl _) hn (by simpa using flatMap_len hlen)
  obtain ⟨fp, h1, _⟩ := slice_of_row h fun x hx => ⟨hlen x hx, S.below (hR x hx) (alloc_below' _ _)⟩
  exact ⟨fp, h1⟩

/-- What is asked of two tokens, before their texts meet. -/
def needBy (a b : Tok) (ok : Bool) (l : List Tok) : Bool := !ok || !sameTx l [a, b]
theorem need_meets {a b : Tok} (h : meets a.text b.text = true) : glued a.text b.text = true := by unfold glued; rw [h, Bool.or_true]
theorem need_no {a b : Tok} (ha : tokOk a = true) (hb : tokOk b = true) {l : List Tok} (h : meets a.text b.text = false) (hr : tokRes (a.text ++ b.text) = (l, false)) : glued a.text b.text = true := by
  have := glued_same ha hb
  rw [hr] at this
  unfold glued
  rw [← this, h]; rfl
theorem need_yes {a b : Tok} (ha : tokOk a = true) (hb : tokOk b = true) {l : List Tok} (h : meets a.text b.text = false) (hr : tokRes (a.text ++ b.text) = (l, true)) : glued a.text b.text = !sameTx l [a, b] := by
  have := glued_same ha hb
  rw [hr] at this
  unfold glued
  rw [← this, h]; simp

end Go.Proofs.Ytbkmapaieillmaa

/- Whether two texts are read otherwise together: the model. -/
namespace Go.Proofs.Ytbkmapaieillmaa
open Go.RowKit

/-- Two tokens, opened: their texts' cells. -/
theorem open_two {w : World} {v : Value} {t1 t2 : Tok} {fp : List Nat} (H : (sSlice sTok).R w [v] [t1, t2] fp) :
    ∃ b off cap, v = .slice (some ⟨b, off, none⟩) 2 cap ∧ cap ≤ maxLen ∧ 2 ≤ cap ∧ b < w.heap.size ∧ w.cell? ⟨b, off + 1, none⟩ = some (.string t1.text) ∧ w.cell? ⟨b, off + 4 + 1, none⟩ = some (.string t2.text) := by
  obtain ⟨a, cap, rfl, hc, hm, h⟩ := open_rows H
  obtain ⟨b, off, fps, rfl, hb, _, he⟩ := h (by simp)
  obtain ⟨es, ⟨h1, h2⟩, hh, rfl, _, _, _⟩ := he 0 (by simp)
  obtain ⟨es', ⟨h1', h2'⟩, hh', rfl, _, _, _⟩ := he 1 (by simp)
  refine ⟨b, off, cap, rfl, hm, by simpa using hc, hb, ?_, ?_⟩
  · simpa [sTok] using h2 1 (by decide)
  · simpa [sTok, Nat.add_assoc] using h2' 1 (by decide)

theorem meet_list {a b : ByteArray} (ha : 0 < a.size) (hb : 0 < b.size) : (a.extract (a.size - 1) a.size ++ b.extract 0 1).toList = [a[a.size - 1]'(by omega), b[0]] := by
  rw [ByteArray.toList_eq, ByteArray.data_append, Array.toList_append, ext_list, ext_list]
  have h1 : a.data.toList.drop (a.size - 1) = [a[a.size - 1]'(by omega)] := by
    rw [List.drop_eq_getElem_cons (by show a.size - 1 < a.size; omega)]
    have : a.data.toList.drop (a.size - 1 + 1) = [] := List.drop_eq_nil_iff.2 (by show a.size ≤ _; omega)
    rw [this]
    simp [ByteArray.getElem_eq_getElem_data]
  have h2 : (b.data.toList.drop 0).take (1 - 0) = [b[0]] := by
    rw [List.drop_zero]
    obtain ⟨c, l, hl⟩ : ∃ c l, b.data.toList = c :: l := by
      cases h : b.data.toList with
      | nil =>
        have : b.size = 0 := by show b.data.toList.length = 0; rw [h]; rfl
        omega
      | cons c l => exact ⟨c, l, rfl⟩
    have h3 : b[0] = c := by
      have h4 : b.data.toList[0]? = some c := by rw [hl]; rfl
      rw [ByteArray.getElem_eq_getElem_data]
      rw [List.getElem?_eq_getElem (by rw [hl]; simp)] at h4
      simpa using h4
    rw [hl, h3]; rfl
  rw [h1, h2, List.take_of_length_le (by simp; omega)]; rfl
/-- The three ways of two texts where they meet. -/
theorem meet_ways {a b : ByteArray} (ha : 0 < a.size) (hb : 0 < b.size) :
    (((a.extract (a.size - 1) a.size ++ b.extract 0 1).toList == [47, 47]) = true ∧ Hid (meets a b = true)) ∨
    (((a.extract (a.size - 1) a.size ++ b.extract 0 1).toList == [47, 47]) = false ∧ ((a.extract (a.size - 1) a.size ++ b.extract 0 1).toList == [47, 42]) = true ∧ Hid (meets a b = true)) ∨
    (((a.extract (a.size - 1) a.size ++ b.extract 0 1).toList == [47, 47]) = false ∧ ((a.extract (a.size - 1) a.size ++ b.extract 0 1).toList == [47, 42]) = false ∧ Hid (meets a b = false)) := by
  rw [meet_list ha hb, meets_begins ha hb]
  generalize a[a.size - 1]'(by omega) = x
  generalize b[0] = y
  have e47 : ∀ z : UInt8, z = 47 ↔ z.toNat = 47 := fun z => by rw [← UInt8.toNat_inj]; rfl
  have e42 : ∀ z : UInt8, z = 42 ↔ z.toNat = 42 := fun z => by rw [← UInt8.toNat_inj]; rfl
  by_cases h1 : x.toNat = 47
  · by_cases h2 : y.toNat = 47
    · exact .inl ⟨by simp [e47, h1, h2], by simp [Hid, begins, h1, h2]⟩
    · by_cases h3 : y.toNat = 42
      · exact .inr (.inl ⟨by simp [e47, h2], by simp [e47, e42, h1, h3], by simp [Hid, begins, h1, h3]⟩)
      · exact .inr (.inr ⟨by simp [e47, h2], by simp [e42, h3], by simp [Hid, begins, h2, h3]⟩)
  · exact .inr (.inr ⟨by simp [e47, h1], by simp [e47, h1], by simp [Hid, begins, h1]⟩)

end Go.Proofs.Ytbkmapaieillmaa
