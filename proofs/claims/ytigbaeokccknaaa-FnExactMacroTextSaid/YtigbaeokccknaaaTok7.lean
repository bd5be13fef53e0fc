/- TokenValid of the model. -/
import Derived.Test.YtigbaeokccknaaaTok6
namespace Go.Proofs.Ytigbaeokccknaaa
open Go.RowKit

theorem tokOk_a {t : Tok} (h : oneTok t.text t.kind = false) : tokOk t = false := by unfold tokOk; rw [h]; rfl
theorem tokOk_b {t : Tok} (h : hidOk t.hidden = false) : tokOk t = false := by unfold tokOk; rw [h, Bool.and_false]
theorem tokOk_c {t : Tok} (h : oneTok t.text t.kind = true) (h' : hidOk t.hidden = true) : tokOk t = true := by unfold tokOk; rw [h, h']; rfl

section
variable {w w1 : World} {ty : TypeId} {v0 v1 v2 v3 : Value}
theorem box0 (hB : Below (w.alloc (.cells #[v0, v1, v2, v3] ty)).heap.size (w.alloc (.cells #[v0, v1, v2, v3] ty)) w1) : w1.cell? ⟨w.heap.size, 0, none⟩ = some v0 := (hB.cell (by simp)).trans (by rw [World.cell?_alloc_at _ _ _ _ rfl]; rfl)
theorem box1 (hB : Below (w.alloc (.cells #[v0, v1, v2, v3] ty)).heap.size (w.alloc (.cells #[v0, v1, v2, v3] ty)) w1) : w1.cell? ⟨w.heap.size, 1, none⟩ = some v1 := (hB.cell (by simp)).trans (by rw [World.cell?_alloc_at _ _ _ _ rfl]; rfl)
theorem box2 (hB : Below (w.alloc (.cells #[v0, v1, v2, v3] ty)).heap.size (w.alloc (.cells #[v0, v1, v2, v3] ty)) w1) : w1.cell? ⟨w.heap.size, 2, none⟩ = some v2 := (hB.cell (by simp)).trans (by rw [World.cell?_alloc_at _ _ _ _ rfl]; rfl)
theorem box3 (hB : Below (w.alloc (.cells #[v0, v1, v2, v3] ty)).heap.size (w.alloc (.cells #[v0, v1, v2, v3] ty)) w1) : w1.cell? ⟨w.heap.size, 3, none⟩ = some v3 := (hB.cell (by simp)).trans (by rw [World.cell?_alloc_at _ _ _ _ rfl]; rfl)
end

set_option maxHeartbeats 4000000 in
theorem spec_TokenValid_no (t : Tok) (h : Value) (fp : List Nat) (w : World) (ht : okStr t.text) (H : (sSlice sStr).R w [h] t.hidden fp) (hone : oneTok t.text t.kind = false) :
    Calls Try.prog 39 #[.agg #[.int .i64 t.kind, .string t.text, .bool t.spaced, h]] w (Says (tokOk t) w) := by
  have HT : Hid (∀ W, Calls Try.prog 50 #[.string t.text] W (TokMade (tokRes t.text) W)) := fun W => spec_TokensOf t.text W ht
  have HF := Lib.hid (tokOk_a hone)
  have hb0 := alloc_below' w (.cells #[.int .i64 t.kind, .string t.text, .bool t.spaced, h] 60)
  rcases one_ways t.text t.kind with ⟨hr, HG⟩ | ⟨l, hr, hl, HG⟩ | ⟨t', hr, hk, HG⟩ | ⟨t', hr, hk, hx, HG⟩ | ⟨t', hr, hk, hx, _, HG⟩
  · rw [hr] at HT
    clear hr hone
    go_enter Try.func39, Try.ntmps39
    go_wp2_with (go_at_call 50; refine (HT.out _).mono ?_; rintro e w' ⟨v, fp, rfl, hR, hO, hB⟩)
    go_quiet (fail)
    go_wp2
    go_ret
    exact ⟨ret_bool HF.out.symm, belowN (hb0.trans (hB.mono hb0.size)) _⟩
  · rw [hr] at HT
    have hl' : ((l.length : Int) != 1) = true := by simp; omega
    clear hr hone hl
    go_enter Try.func39, Try.ntmps39
    go_wp2_with (go_at_call 50; refine (HT.out _).mono ?_; rintro e w' ⟨v, fp, rfl, hR, hO, hB⟩; obtain ⟨a, cap, rfl, _, _, _⟩ := open_rows hR)
    go_quiet (fail)
    go_wp2
    go_ret
    exact ⟨ret_bool HF.out.symm, belowN (hb0.trans (hB.mono hb0.size)) _⟩
  · rw [hr] at HT
    have hk' : (t'.kind != t.kind) = true := by simp [hk]
    clear hr hone hk
    go_enter Try.func39, Try.ntmps39
    go_wp2_with (go_at_call 50; refine (HT.out _).mono ?_; rintro e w' ⟨v, fp, rfl, hR, hO, hB⟩; obtain ⟨b, off, cap, h', rfl, hc1, hc2, hb, h0, h1, h2, h3, _, _⟩ := open_one hR; have a0 := box0 hB)
    go_quiet (fail)
    go_wp2
    go_ret
    exact ⟨ret_bool HF.out.symm, belowN (hb0.trans (hB.mono hb0.size)) _⟩
  · rw [hr] at HT
    have hk' : (t'.kind != t.kind) = false := by simp [hk]
    have hx' : (t'.text.toList == t.text.toList) = false := bytes_bne hx
    clear hr hone hk hx
    go_enter Try.func39, Try.ntmps39
    go_wp2_with (go_at_call 50; refine (HT.out _).mono ?_; rintro e w' ⟨v, fp, rfl, hR, hO, hB⟩; obtain ⟨b, off, cap, h', rfl, hc1, hc2, hb, h0, h1, h2, h3, _, _⟩ := open_one hR; have a0 := box0 hB; have a1 := box1 hB)
    go_quiet (fail)
    go_wp2
    go_ret
    exact ⟨ret_bool HF.out.symm, belowN (hb0.trans (hB.mono hb0.size)) _⟩
  · exact absurd (HG.out.symm.trans hone) (by simp)

theorem sLess_ways {a b : ByteArray} : (sLess a b = true ∧ Op.bytesLess b.toList a.toList = false ∧ (b.toList == a.toList) = false) ∨ (sLess a b = false ∧ Op.bytesLess b.toList a.toList = true) ∨ (sLess a b = false ∧ Op.bytesLess b.toList a.toList = false ∧ (b.toList == a.toList) = true) := by
  cases h : sLess a b
  · have := sLess_no h
    cases h1 : Op.bytesLess b.toList a.toList
    · rw [h1, Bool.false_or] at this; exact .inr (.inr ⟨rfl, rfl, this⟩)
    · exact .inr (.inl ⟨rfl, rfl⟩)
  · have := sLess_yes h
    rw [Bool.or_eq_false_iff] at this
    exact .inl ⟨rfl, this.1, this.2⟩

set_option maxHeartbeats 8000000 in
set_option maxRecDepth 100000 in
theorem spec_TokenValid_yes (t : Tok) (h : Value) (fp : List Nat) (w : World) (ht : okStr t.text) (H : (sSlice sStr).R w [h] t.hidden fp) (hone : oneTok t.text t.kind = true) :
    Calls Try.prog 39 #[.agg #[.int .i64 t.kind, .string t.text, .bool t.spaced, h]] w (Says (tokOk t) w) := by
  have HT : Hid (∀ W, Calls Try.prog 50 #[.string t.text] W (TokMade (tokRes t.text) W)) := fun W => spec_TokensOf t.text W ht
  have HO := Lib.hid hone
  have hb0 := alloc_below' w (.cells #[.int .i64 t.kind, .string t.text, .bool t.spaced, h] 60)
  obtain ⟨ah, caph, rfl, hch, hmh, hcell, hsz⟩ := open_strs H
  unfold maxLen at hmh
  rcases one_ways t.text t.kind with ⟨hr, HG⟩ | ⟨l, hr, hl, HG⟩ | ⟨t', hr, hk, HG⟩ | ⟨t', hr, hk, hx, HG⟩ | ⟨t', hr, hk, hx, hsp, HG⟩
  · exact absurd (HG.out.symm.trans hone) (by simp)
  · exact absurd (HG.out.symm.trans hone) (by simp)
  · exact absurd (HG.out.symm.trans hone) (by simp)
  · exact absurd (HG.out.symm.trans hone) (by simp)
  rw [hr] at HT
  have hk' : (t'.kind != t.kind) = false := by simp [hk]
  have hx' : (t'.text.toList == t.text.toList) = true := bytes_beq hx
  clear hr hone hk hx HG
  by_cases hl : 60 < t.hidden.length
  · have HF := Lib.hid (tokOk_b (t := t) (hidOk_long hl))
    go_enter Try.func39, Try.ntmps39
    go_wp2_with (go_at_call 50; refine (HT.out _).mono ?_; rintro e w' ⟨v, fp, rfl, hR, hO, hB⟩; obtain ⟨b, off, cap, h', rfl, hc1, hc2, hb, h0, h1, h2, h3, _, _⟩ := open_one hR; have a0 := box0 hB; have a1 := box1 hB; have a3 := box3 hB; rw [hsp] at h2)
    go_quiet (fail)
    go_wp2
    go_ret
    exact ⟨ret_bool HF.out.symm, belowN (hb0.trans (hB.mono hb0.size)) _⟩
  · have hl' : ¬ (60 : Int) < (t.hidden.length : Int) := by omega
    have hl2 : decide ((60 : Int) < (t.hidden.length : Int)) = false := by simpa using hl'
    go_enter Try.func39, Try.ntmps39
    go_wp2_with (go_at_call 50; refine (HT.out _).mono ?_; rintro e w' ⟨v, fp, rfl, hR, hO, hB⟩; obtain ⟨b, off, cap, h', rfl, hc1, hc2, hb, h0, h1, h2, h3, _, _⟩ := open_one hR; have a0 := box0 hB; have a1 := box1 hB; have a3 := box3 hB; rw [hsp] at h2)
    go_quiet (fail)
    go_wp2
    have hB' := belowN hB nq
    clear a0 a1 a3 h0 h1 h2 h3 hR hO hc1 hc2 hb hB
    go_loopw [5] (fun i wr => ∃ k : Nat, k ≤ t.hidden.length ∧ i = .int .i64 k ∧ HidUpto t.hidden k ∧ Below (w.alloc (.cells #[.int .i64 t.kind, .string t.text, .bool t.spaced, .slice ah t.hidden.length caph] 60)).heap.size (w.alloc (.cells #[.int .i64 t.kind, .string t.text, .bool t.spaced, .slice ah t.hidden.length caph] 60)) wr) (fun i _ => t.hidden.length - (intOf i).toNat)
    case atStart => exact ⟨0, by omega, rfl, HidUpto.zero _, hB'⟩
    case round =>
      obtain ⟨k, hk, rfl, hall, hbel⟩ := hrel
      have hbw := hb0.trans (hbel.mono hb0.size)
      have hsl : (w.alloc (.cells #[.int .i64 t.kind, .string t.text, .bool t.spaced, .slice ah t.hidden.length caph] 60)).heap.size = w.heap.size + 1 := Array.size_push _
      have hwr : w.heap.size < wr.heap.size := by have := hbel.size; omega
      have a3 := box3 hbel
      by_cases hlt : k < t.hidden.length
      · obtain ⟨b, off, rfl, hb, _, hc2⟩ := hcell (by omega)
        have hck := (hbw.cell (p := ⟨b, off + k, none⟩) hb).trans (hc2 k hlt)
        have hbr : b < wr.heap.size := Nat.lt_of_lt_of_le hb hbw.size
        have hsk := hsz k hlt
        have HT : Hid (∀ W, Calls Try.prog 50 #[.string t.hidden[k]] W (TokMade (tokRes t.hidden[k]) W)) := fun W => spec_TokensOf t.hidden[k] W hsk
        rcases one_ways t.hidden[k] 1 with ⟨hr, HG⟩ | ⟨l, hr, hl, HG⟩ | ⟨t', hr, hk, HG⟩ | ⟨t', hr, hk, hx, HG⟩ | ⟨t', hr, hk, hx, _, HG⟩
        · rw [hr] at HT
          have HF := Lib.hid (tokOk_b (t := t) (hidOk_no hlt (hidAt_name hlt HG.out)))
          clear hr HG hc2 hall hcell
          go_wp2_with (go_at_call 50; refine (HT.out _).mono ?_; rintro e w' ⟨v, fp, rfl, hR, hO, hB2⟩; have a3' := (hB2.cell (p := ⟨w.heap.size, 3, none⟩) hwr).trans a3; have hck' := (hB2.cell (p := ⟨b, off + k, none⟩) hbr).trans hck)
          go_quiet (fail)
          go_wp2
          go_ret
          exact ⟨ret_bool HF.out.symm, belowN (hbw.trans (hB2.mono hbw.size)) _⟩
        · rw [hr] at HT
          have HF := Lib.hid (tokOk_b (t := t) (hidOk_no hlt (hidAt_name hlt HG.out)))
          have hl'' : ((l.length : Int) != 1) = true := by simp; omega
          clear hr HG hc2 hall hcell
          go_wp2_with (go_at_call 50; refine (HT.out _).mono ?_; rintro e w' ⟨v, fp, rfl, hR, hO, hB2⟩; obtain ⟨a, cap, rfl, _, _, _⟩ := open_rows hR; have a3' := (hB2.cell (p := ⟨w.heap.size, 3, none⟩) hwr).trans a3; have hck' := (hB2.cell (p := ⟨b, off + k, none⟩) hbr).trans hck)
          go_quiet (fail)
          go_wp2
          go_ret
          exact ⟨ret_bool HF.out.symm, belowN (hbw.trans (hB2.mono hbw.size)) _⟩
        · rw [hr] at HT
          have HF := Lib.hid (tokOk_b (t := t) (hidOk_no hlt (hidAt_name hlt HG.out)))
          have hk'' : (t'.kind != 1) = true := by simp [hk]
          clear hr HG hc2 hall hcell
          go_wp2_with (go_at_call 50; refine (HT.out _).mono ?_; rintro e w' ⟨v, fp, rfl, hR, hO, hB2⟩; obtain ⟨b1, off1, cap1, h1, rfl, hc11, hc21, hb1, g0, g1, g2, g3, _, _⟩ := open_one hR; have a3' := (hB2.cell (p := ⟨w.heap.size, 3, none⟩) hwr).trans a3; have hck' := (hB2.cell (p := ⟨b, off + k, none⟩) hbr).trans hck)
          go_quiet (fail)
          go_wp2
          go_ret
          exact ⟨ret_bool HF.out.symm, belowN (hbw.trans (hB2.mono hbw.size)) _⟩
        · rw [hr] at HT
          have HF := Lib.hid (tokOk_b (t := t) (hidOk_no hlt (hidAt_name hlt HG.out)))
          have hk'' : (t'.kind != 1) = false := by simp [hk]
          have hx'' : (t'.text.toList == t.hidden[k].toList) = false := bytes_bne hx
          clear hr HG hc2 hall hcell
          go_wp2_with (go_at_call 50; refine (HT.out _).mono ?_; rintro e w' ⟨v, fp, rfl, hR, hO, hB2⟩; obtain ⟨b1, off1, cap1, h1, rfl, hc11, hc21, hb1, g0, g1, g2, g3, _, _⟩ := open_one hR; have a3' := (hB2.cell (p := ⟨w.heap.size, 3, none⟩) hwr).trans a3; have hck' := (hB2.cell (p := ⟨b, off + k, none⟩) hbr).trans hck)
          go_quiet (fail)
          go_wp2
          go_ret
          exact ⟨ret_bool HF.out.symm, belowN (hbw.trans (hB2.mono hbw.size)) _⟩
        · rw [hr] at HT
          have hk'' : (t'.kind != 1) = false := by simp [hk]
          have hx'' : (t'.text.toList == t.hidden[k].toList) = true := bytes_beq hx
          by_cases h0 : k = 0
          · have h0' : decide ((0 : Int) < (k : Int)) = false := by simp; omega
            have HN : Hid (HidUpto t.hidden (k + 1)) := by subst h0; exact hall.succ (hidAt_first hlt HG.out)
            have h00 : ¬ (0 : Int) < (k : Int) := by omega
            have h01 : decide (0 < k) = false := by simp; omega
            clear h0
            clear hr HG hc2 hall hcell
            go_wp2_with (go_at_call 50; refine (HT.out _).mono ?_; rintro e w' ⟨v, fp, rfl, hR, hO, hB2⟩; obtain ⟨b1, off1, cap1, h1, rfl, hc11, hc21, hb1, g0, g1, g2, g3, _, _⟩ := open_one hR; have a3' := (hB2.cell (p := ⟨w.heap.size, 3, none⟩) hwr).trans a3; have hck' := (hB2.cell (p := ⟨b, off + k, none⟩) hbr).trans hck)
            go_quiet (fail)
            go_wp2
            go_roundw
            case rel => exact ⟨k + 1, by omega, by go_num, HN.out, belowN (hbel.trans (hB2.mono hbel.size)) _⟩
            case measure => simp [intOf]; omega
          · have hcp := (hbw.cell (p := ⟨b, off + (k - 1), none⟩) hb).trans (hc2 (k - 1) (by omega))
            have h6 : ((k : Int) - 1).toNat = k - 1 := by omega
            have h0' : (0 : Int) < (k : Int) := by omega
            have h0'' : decide ((0 : Int) < (k : Int)) = true := by simpa using h0'
            have h0n : decide (0 < k) = true := by simp; omega
            have hi1 : (0 : Int) ≤ (k : Int) - 1 := by omega
            have hi2 : (k : Int) - 1 < (t.hidden.length : Int) := by omega
            rcases sLess_ways (a := t.hidden[k - 1]'(by omega)) (b := t.hidden[k]) with ⟨hw, hw1, hw2⟩ | ⟨hw, hw1⟩ | ⟨hw, hw1, hw2⟩
            · have HN := Lib.hid (hall.succ (hidAt_later hlt (by omega) HG.out hw))
              clear hr HG hc2 hall hcell hw
              go_wp2_with (go_at_call 50; refine (HT.out _).mono ?_; rintro e w' ⟨v, fp, rfl, hR, hO, hB2⟩; obtain ⟨b1, off1, cap1, h1, rfl, hc11, hc21, hb1, g0, g1, g2, g3, _, _⟩ := open_one hR; have a3' := (hB2.cell (p := ⟨w.heap.size, 3, none⟩) hwr).trans a3; have hck' := (hB2.cell (p := ⟨b, off + k, none⟩) hbr).trans hck; have hcp' := (hB2.cell (p := ⟨b, off + (k - 1), none⟩) hbr).trans hcp)
              go_quiet (fail)
              go_wp2
              go_roundw
              case rel => exact ⟨k + 1, by omega, by go_num, HN.out, belowN (hbel.trans (hB2.mono hbel.size)) _⟩
              case measure => simp [intOf]; omega
            all_goals
              have HF := Lib.hid (tokOk_b (t := t) (hidOk_no hlt (hidAt_less hlt (by omega) hw)))
              clear hr HG hc2 hall hcell hw
              go_wp2_with (go_at_call 50; refine (HT.out _).mono ?_; rintro e w' ⟨v, fp, rfl, hR, hO, hB2⟩; obtain ⟨b1, off1, cap1, h1, rfl, hc11, hc21, hb1, g0, g1, g2, g3, _, _⟩ := open_one hR; have a3' := (hB2.cell (p := ⟨w.heap.size, 3, none⟩) hwr).trans a3; have hck' := (hB2.cell (p := ⟨b, off + k, none⟩) hbr).trans hck; have hcp' := (hB2.cell (p := ⟨b, off + (k - 1), none⟩) hbr).trans hcp)
              go_quiet (fail)
              go_wp2
              go_ret
              exact ⟨ret_bool HF.out.symm, belowN (hbw.trans (hB2.mono hbw.size)) _⟩
      · have HF := Lib.hid (tokOk_c HO.out (hidOk_yes hall (by omega) (by omega)))
        clear hall
        go_wp2
        go_ret
        exact ⟨ret_bool HF.out.symm, hbw⟩

theorem spec_TokenValid_a (t : Tok) (h : Value) (fp : List Nat) (w : World) (ht : okStr t.text) (H : (sSlice sStr).R w [h] t.hidden fp) :
    Calls Try.prog 39 #[.agg #[.int .i64 t.kind, .string t.text, .bool t.spaced, h]] w (Says (tokOk t) w) := by
  cases ho : oneTok t.text t.kind
  · exact spec_TokenValid_no t h fp w ht H ho
  · exact spec_TokenValid_yes t h fp w ht H ho

theorem spec_TokenValid (cs : List Value) (x : Tok) (fp : List Nat) (w : World) (H : sTok.R w cs x fp) : Calls Try.prog 39 #[.agg cs.toArray] w (Says (tokOk x) w) := by
  obtain ⟨h, rfl, _, hok, K⟩ := H
  exact spec_TokenValid_a x h fp w hok K

end Go.Proofs.Ytigbaeokccknaaa
