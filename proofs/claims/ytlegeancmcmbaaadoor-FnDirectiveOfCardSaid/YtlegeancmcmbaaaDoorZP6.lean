/- Texts that the proof of P stands on, in one file. -/
import Derived.Test.YtlegeancmcmbaaaDoorZP5
import Derived.Test.YtlegeancmcmbaaaDoorZP3
import Derived.Test.YtlegeancmcmbaaaDoorZP4
import Derived.Test.YtlegeancmcmbaaaDoorZP2
import Derived.Deep.RegionHeld3
import Derived.Deep.QuietTactic
import Derived.BigQuiet
import Derived.Outline
import Derived.StillTailTactics
import Derived.Deep.Fields
import Derived.ChangeSame
set_option linter.unusedVariables false
set_option linter.unusedSimpArgs false
/- TokenValid of the model. -/
namespace Go.Proofs.YtlegeancmcmbaaaDoor
open Go.RowKit

theorem tokOk_a {t : Tok} (h : oneTok t.text t.kind = false) : tokOk t = false := by unfold tokOk; rw [h]; rfl
theorem tokOk_b {t : Tok} (h : hidOk t.hidden = false) : tokOk t = false := by unfold tokOk; rw [h, Bool.and_false]
theorem tokOk_c {t : Tok} (h : oneTok t.text t.kind = true) (h' : hidOk t.hidden = true) : tokOk t = true := by unfold tokOk; rw [h, h']; rfl

section
variable {w w1 : World} {ty : TypeId} {v0 v1 v2 v3 : Value}
theorem box0 (hB : Below (w.alloc (.cells #[v0, v1, v2, v3] ty)).heap.size (w.alloc (.cells #[v0, v1, v2, v3] ty)) w1) : w1.cell? ⟨w.heap.size, 0, none⟩ = some v0 := (hB.cell (by simp)).trans (by rw [World.cell?_alloc_at _ _ _ _ rfl]; rfl)
theorem box1 (hB : Below (w.alloc (.cells #[v0, v1, v2, v3] ty)).heap.size (w.alloc (.cells #[v0, v1, v2, v3] ty)) w1) : w1.cell? ⟨w.heap.size, 1, none⟩ = some v1 := (hB.cell (by simp)).trans (by rw [World.cell?_alloc_at _ _ _ _ rfl]; rfl)
theorem box3 (hB : Below (w.alloc (.cells #[v0, v1, v2, v3] ty)).heap.size (w.alloc (.cells #[v0, v1, v2, v3] ty)) w1) : w1.cell? ⟨w.heap.size, 3, none⟩ = some v3 := (hB.cell (by simp)).trans (by rw [World.cell?_alloc_at _ _ _ _ rfl]; rfl)
end

set_option maxHeartbeats 4000000 in
theorem spec_TokenValid_no (t : Tok) (h : Value) (fp : List Nat) (w : World) (ht : okStr t.text) (H : (sSlice sStr).R w [h] t.hidden fp) (hone : oneTok t.text t.kind = false) :
  Calls Tryd.prog 65 #[.agg #[.int .i64 t.kind, .string t.text, .bool t.spaced, h]] w (Says (tokOk t) w) := by
 have HT : Hid (∀ W, Calls Tryd.prog 37 #[.string t.text] W (TokMade (tokRes t.text) W)) := fun W => spec_TokensOf t.text W ht
 have HF := Lib.hid (tokOk_a hone)
 have hb0 := alloc_below' w (.cells #[.int .i64 t.kind, .string t.text, .bool t.spaced, h] 47)
 rcases one_ways t.text t.kind with ⟨hr, HG⟩ | ⟨l, hr, hl, HG⟩ | ⟨t', hr, hk, HG⟩ | ⟨t', hr, hk, hx, HG⟩ | ⟨t', hr, hk, hx, _, HG⟩
 ·rw [hr] at HT
  clear hr hone
  go_enter Tryd.func65, Tryd.ntmps65
  go_wp2_with (go_at_call 37; refine (HT.out _).mono ?_; rintro e w' ⟨v, fp, rfl, hR, hO, hB⟩)
  go_quiet (fail)
  go_wp2
  go_ret
  exact ⟨ret_bool HF.out.symm, belowN (hb0.trans (hB.mono hb0.size)) _⟩
 ·rw [hr] at HT
  have hl' : ((l.length : Int) != 1) = true := by simp; omega
  clear hr hone hl
  go_enter Tryd.func65, Tryd.ntmps65
  go_wp2_with (go_at_call 37; refine (HT.out _).mono ?_; rintro e w' ⟨v, fp, rfl, hR, hO, hB⟩; obtain ⟨a, cap, rfl, _, _, _⟩ := open_rows hR)
  go_quiet (fail)
  go_wp2
  go_ret
  exact ⟨ret_bool HF.out.symm, belowN (hb0.trans (hB.mono hb0.size)) _⟩
 ·rw [hr] at HT
  have hk' : (t'.kind != t.kind) = true := by simp [hk]
  clear hr hone hk
  go_enter Tryd.func65, Tryd.ntmps65
  go_wp2_with (go_at_call 37; refine (HT.out _).mono ?_; rintro e w' ⟨v, fp, rfl, hR, hO, hB⟩; obtain ⟨b, off, cap, h', rfl, hc1, hc2, hb, h0, h1, h2, h3, _, _⟩ := open_one hR; have a0 := box0 hB)
  go_quiet (fail)
  go_wp2
  go_ret
  exact ⟨ret_bool HF.out.symm, belowN (hb0.trans (hB.mono hb0.size)) _⟩
 ·rw [hr] at HT
  have hk' : (t'.kind != t.kind) = false := by simp [hk]
  have hx' : (t'.text.toList == t.text.toList) = false := bytes_bne hx
  clear hr hone hk hx
  go_enter Tryd.func65, Tryd.ntmps65
  go_wp2_with (go_at_call 37; refine (HT.out _).mono ?_; rintro e w' ⟨v, fp, rfl, hR, hO, hB⟩; obtain ⟨b, off, cap, h', rfl, hc1, hc2, hb, h0, h1, h2, h3, _, _⟩ := open_one hR; have a0 := box0 hB; have a1 := box1 hB)
  go_quiet (fail)
  go_wp2
  go_ret
  exact ⟨ret_bool HF.out.symm, belowN (hb0.trans (hB.mono hb0.size)) _⟩
 ·exact absurd (HG.out.symm.trans hone) (by simp)

theorem sLess_ways {a b : ByteArray} : (sLess a b = true ∧ Op.bytesLess b.toList a.toList = false ∧ (b.toList == a.toList) = false) ∨ (sLess a b = false ∧ Op.bytesLess b.toList a.toList = true) ∨ (sLess a b = false ∧ Op.bytesLess b.toList a.toList = false ∧ (b.toList == a.toList) = true) := by
 cases h : sLess a b
 ·have := sLess_no h
  cases h1 : Op.bytesLess b.toList a.toList
  ·rw [h1, Bool.false_or] at this; exact .inr (.inr ⟨rfl, rfl, this⟩)
  ·exact .inr (.inl ⟨rfl, rfl⟩)
 ·have := sLess_yes h
  rw [Bool.or_eq_false_iff] at this
  exact .inl ⟨rfl, this.1, this.2⟩

set_option maxHeartbeats 8000000 in
set_option maxRecDepth 100000 in
theorem spec_TokenValid_yes (t : Tok) (h : Value) (fp : List Nat) (w : World) (ht : okStr t.text) (H : (sSlice sStr).R w [h] t.hidden fp) (hone : oneTok t.text t.kind = true) :
  Calls Tryd.prog 65 #[.agg #[.int .i64 t.kind, .string t.text, .bool t.spaced, h]] w (Says (tokOk t) w) := by
 have HT : Hid (∀ W, Calls Tryd.prog 37 #[.string t.text] W (TokMade (tokRes t.text) W)) := fun W => spec_TokensOf t.text W ht
 have HO := Lib.hid hone
 have hb0 := alloc_below' w (.cells #[.int .i64 t.kind, .string t.text, .bool t.spaced, h] 47)
 obtain ⟨ah, caph, rfl, hch, hmh, hcell, hsz⟩ := open_strs H
 unfold maxLen at hmh
 rcases one_ways t.text t.kind with ⟨hr, HG⟩ | ⟨l, hr, hl, HG⟩ | ⟨t', hr, hk, HG⟩ | ⟨t', hr, hk, hx, HG⟩ | ⟨t', hr, hk, hx, hsp, HG⟩
 ·exact absurd (HG.out.symm.trans hone) (by simp)
 ·exact absurd (HG.out.symm.trans hone) (by simp)
 ·exact absurd (HG.out.symm.trans hone) (by simp)
 ·exact absurd (HG.out.symm.trans hone) (by simp)
 rw [hr] at HT
 have hk' : (t'.kind != t.kind) = false := by simp [hk]
 have hx' : (t'.text.toList == t.text.toList) = true := bytes_beq hx
 clear hr hone hk hx HG
 by_cases hl : 60 < t.hidden.length
 ·have HF := Lib.hid (tokOk_b (t := t) (hidOk_long hl))
  go_enter Tryd.func65, Tryd.ntmps65
  go_wp2_with (go_at_call 37; refine (HT.out _).mono ?_; rintro e w' ⟨v, fp, rfl, hR, hO, hB⟩; obtain ⟨b, off, cap, h', rfl, hc1, hc2, hb, h0, h1, h2, h3, _, _⟩ := open_one hR; have a0 := box0 hB; have a1 := box1 hB; have a3 := box3 hB; rw [hsp] at h2)
  go_quiet (fail)
  go_wp2
  go_ret
  exact ⟨ret_bool HF.out.symm, belowN (hb0.trans (hB.mono hb0.size)) _⟩
 ·have hl' : ¬ (60 : Int) < (t.hidden.length : Int) := by omega
  have hl2 : decide ((60 : Int) < (t.hidden.length : Int)) = false := by simpa using hl'
  go_enter Tryd.func65, Tryd.ntmps65
  go_wp2_with (go_at_call 37; refine (HT.out _).mono ?_; rintro e w' ⟨v, fp, rfl, hR, hO, hB⟩; obtain ⟨b, off, cap, h', rfl, hc1, hc2, hb, h0, h1, h2, h3, _, _⟩ := open_one hR; have a0 := box0 hB; have a1 := box1 hB; have a3 := box3 hB; rw [hsp] at h2)
  go_quiet (fail)
  go_wp2
  have hB' := belowN hB nq
  clear a0 a1 a3 h0 h1 h2 h3 hR hO hc1 hc2 hb hB
  go_loopw [5] (fun i wr => ∃ k : Nat, k ≤ t.hidden.length ∧ i = .int .i64 k ∧ HidUpto t.hidden k ∧ Below (w.alloc (.cells #[.int .i64 t.kind, .string t.text, .bool t.spaced, .slice ah t.hidden.length caph] 47)).heap.size (w.alloc (.cells #[.int .i64 t.kind, .string t.text, .bool t.spaced, .slice ah t.hidden.length caph] 47)) wr) (fun i _ => t.hidden.length - (intOf i).toNat)
  case atStart => exact ⟨0, by omega, rfl, HidUpto.zero _, hB'⟩
  case round =>
   obtain ⟨k, hk, rfl, hall, hbel⟩ := hrel
   have hbw := hb0.trans (hbel.mono hb0.size)
   have hsl : (w.alloc (.cells #[.int .i64 t.kind, .string t.text, .bool t.spaced, .slice ah t.hidden.length caph] 47)).heap.size = w.heap.size + 1 := Array.size_push _
   have hwr : w.heap.size < wr.heap.size := by have := hbel.size; omega
   have a3 := box3 hbel
   by_cases hlt : k < t.hidden.length
   ·obtain ⟨b, off, rfl, hb, _, hc2⟩ := hcell (by omega)
    have hck := (hbw.cell (p := ⟨b, off + k, none⟩) hb).trans (hc2 k hlt)
    have hbr : b < wr.heap.size := Nat.lt_of_lt_of_le hb hbw.size
    have hsk := hsz k hlt
    have HT : Hid (∀ W, Calls Tryd.prog 37 #[.string t.hidden[k]] W (TokMade (tokRes t.hidden[k]) W)) := fun W => spec_TokensOf t.hidden[k] W hsk
    rcases one_ways t.hidden[k] 1 with ⟨hr, HG⟩ | ⟨l, hr, hl, HG⟩ | ⟨t', hr, hk, HG⟩ | ⟨t', hr, hk, hx, HG⟩ | ⟨t', hr, hk, hx, _, HG⟩
    ·rw [hr] at HT
     have HF := Lib.hid (tokOk_b (t := t) (hidOk_no hlt (hidAt_name hlt HG.out)))
     clear hr HG hc2 hall hcell
     go_wp2_with (go_at_call 37; refine (HT.out _).mono ?_; rintro e w' ⟨v, fp, rfl, hR, hO, hB2⟩; have a3' := (hB2.cell (p := ⟨w.heap.size, 3, none⟩) hwr).trans a3; have hck' := (hB2.cell (p := ⟨b, off + k, none⟩) hbr).trans hck)
     go_quiet (fail)
     go_wp2
     go_ret
     exact ⟨ret_bool HF.out.symm, belowN (hbw.trans (hB2.mono hbw.size)) _⟩
    ·rw [hr] at HT
     have HF := Lib.hid (tokOk_b (t := t) (hidOk_no hlt (hidAt_name hlt HG.out)))
     have hl'' : ((l.length : Int) != 1) = true := by simp; omega
     clear hr HG hc2 hall hcell
     go_wp2_with (go_at_call 37; refine (HT.out _).mono ?_; rintro e w' ⟨v, fp, rfl, hR, hO, hB2⟩; obtain ⟨a, cap, rfl, _, _, _⟩ := open_rows hR; have a3' := (hB2.cell (p := ⟨w.heap.size, 3, none⟩) hwr).trans a3; have hck' := (hB2.cell (p := ⟨b, off + k, none⟩) hbr).trans hck)
     go_quiet (fail)
     go_wp2
     go_ret
     exact ⟨ret_bool HF.out.symm, belowN (hbw.trans (hB2.mono hbw.size)) _⟩
    ·rw [hr] at HT
     have HF := Lib.hid (tokOk_b (t := t) (hidOk_no hlt (hidAt_name hlt HG.out)))
     have hk'' : (t'.kind != 1) = true := by simp [hk]
     clear hr HG hc2 hall hcell
     go_wp2_with (go_at_call 37; refine (HT.out _).mono ?_; rintro e w' ⟨v, fp, rfl, hR, hO, hB2⟩; obtain ⟨b1, off1, cap1, h1, rfl, hc11, hc21, hb1, g0, g1, g2, g3, _, _⟩ := open_one hR; have a3' := (hB2.cell (p := ⟨w.heap.size, 3, none⟩) hwr).trans a3; have hck' := (hB2.cell (p := ⟨b, off + k, none⟩) hbr).trans hck)
     go_quiet (fail)
     go_wp2
     go_ret
     exact ⟨ret_bool HF.out.symm, belowN (hbw.trans (hB2.mono hbw.size)) _⟩
    ·rw [hr] at HT
     have HF := Lib.hid (tokOk_b (t := t) (hidOk_no hlt (hidAt_name hlt HG.out)))
     have hk'' : (t'.kind != 1) = false := by simp [hk]
     have hx'' : (t'.text.toList == t.hidden[k].toList) = false := bytes_bne hx
     clear hr HG hc2 hall hcell
     go_wp2_with (go_at_call 37; refine (HT.out _).mono ?_; rintro e w' ⟨v, fp, rfl, hR, hO, hB2⟩; obtain ⟨b1, off1, cap1, h1, rfl, hc11, hc21, hb1, g0, g1, g2, g3, _, _⟩ := open_one hR; have a3' := (hB2.cell (p := ⟨w.heap.size, 3, none⟩) hwr).trans a3; have hck' := (hB2.cell (p := ⟨b, off + k, none⟩) hbr).trans hck)
     go_quiet (fail)
     go_wp2
     go_ret
     exact ⟨ret_bool HF.out.symm, belowN (hbw.trans (hB2.mono hbw.size)) _⟩
    ·rw [hr] at HT
     have hk'' : (t'.kind != 1) = false := by simp [hk]
     have hx'' : (t'.text.toList == t.hidden[k].toList) = true := bytes_beq hx
     by_cases h0 : k = 0
     ·have h0' : decide ((0 : Int) < (k : Int)) = false := by simp; omega
      have HN : Hid (HidUpto t.hidden (k + 1)) := by subst h0; exact hall.succ (hidAt_first hlt HG.out)
      have h00 : ¬ (0 : Int) < (k : Int) := by omega
      have h01 : decide (0 < k) = false := by simp; omega
      clear h0
      clear hr HG hc2 hall hcell
      go_wp2_with (go_at_call 37; refine (HT.out _).mono ?_; rintro e w' ⟨v, fp, rfl, hR, hO, hB2⟩; obtain ⟨b1, off1, cap1, h1, rfl, hc11, hc21, hb1, g0, g1, g2, g3, _, _⟩ := open_one hR; have a3' := (hB2.cell (p := ⟨w.heap.size, 3, none⟩) hwr).trans a3; have hck' := (hB2.cell (p := ⟨b, off + k, none⟩) hbr).trans hck)
      go_quiet (fail)
      go_wp2
      go_roundw
      case rel => exact ⟨k + 1, by omega, by go_num, HN.out, belowN (hbel.trans (hB2.mono hbel.size)) _⟩
      case measure => simp [intOf]; omega
     ·have hcp := (hbw.cell (p := ⟨b, off + (k - 1), none⟩) hb).trans (hc2 (k - 1) (by omega))
      have h6 : ((k : Int) - 1).toNat = k - 1 := by omega
      have h0' : (0 : Int) < (k : Int) := by omega
      have h0'' : decide ((0 : Int) < (k : Int)) = true := by simpa using h0'
      have h0n : decide (0 < k) = true := by simp; omega
      have hi1 : (0 : Int) ≤ (k : Int) - 1 := by omega
      have hi2 : (k : Int) - 1 < (t.hidden.length : Int) := by omega
      rcases sLess_ways (a := t.hidden[k - 1]'(by omega)) (b := t.hidden[k]) with ⟨hw, hw1, hw2⟩ | ⟨hw, hw1⟩ | ⟨hw, hw1, hw2⟩
      ·have HN := Lib.hid (hall.succ (hidAt_later hlt (by omega) HG.out hw))
       clear hr HG hc2 hall hcell hw
       go_wp2_with (go_at_call 37; refine (HT.out _).mono ?_; rintro e w' ⟨v, fp, rfl, hR, hO, hB2⟩; obtain ⟨b1, off1, cap1, h1, rfl, hc11, hc21, hb1, g0, g1, g2, g3, _, _⟩ := open_one hR; have a3' := (hB2.cell (p := ⟨w.heap.size, 3, none⟩) hwr).trans a3; have hck' := (hB2.cell (p := ⟨b, off + k, none⟩) hbr).trans hck; have hcp' := (hB2.cell (p := ⟨b, off + (k - 1), none⟩) hbr).trans hcp)
       go_quiet (fail)
       go_wp2
       go_roundw
       case rel => exact ⟨k + 1, by omega, by go_num, HN.out, belowN (hbel.trans (hB2.mono hbel.size)) _⟩
       case measure => simp [intOf]; omega
      all_goals
       have HF := Lib.hid (tokOk_b (t := t) (hidOk_no hlt (hidAt_less hlt (by omega) hw)))
       clear hr HG hc2 hall hcell hw
       go_wp2_with (go_at_call 37; refine (HT.out _).mono ?_; rintro e w' ⟨v, fp, rfl, hR, hO, hB2⟩; obtain ⟨b1, off1, cap1, h1, rfl, hc11, hc21, hb1, g0, g1, g2, g3, _, _⟩ := open_one hR; have a3' := (hB2.cell (p := ⟨w.heap.size, 3, none⟩) hwr).trans a3; have hck' := (hB2.cell (p := ⟨b, off + k, none⟩) hbr).trans hck; have hcp' := (hB2.cell (p := ⟨b, off + (k - 1), none⟩) hbr).trans hcp)
       go_quiet (fail)
       go_wp2
       go_ret
       exact ⟨ret_bool HF.out.symm, belowN (hbw.trans (hB2.mono hbw.size)) _⟩
   ·have HF := Lib.hid (tokOk_c HO.out (hidOk_yes hall (by omega) (by omega)))
    clear hall
    go_wp2
    go_ret
    exact ⟨ret_bool HF.out.symm, hbw⟩

theorem spec_TokenValid_a (t : Tok) (h : Value) (fp : List Nat) (w : World) (ht : okStr t.text) (H : (sSlice sStr).R w [h] t.hidden fp) :
  Calls Tryd.prog 65 #[.agg #[.int .i64 t.kind, .string t.text, .bool t.spaced, h]] w (Says (tokOk t) w) := by
 cases ho : oneTok t.text t.kind
 ·exact spec_TokenValid_no t h fp w ht H ho
 ·exact spec_TokenValid_yes t h fp w ht H ho

theorem spec_TokenValid (cs : List Value) (x : Tok) (fp : List Nat) (w : World) (H : sTok.R w cs x fp) : Calls Tryd.prog 65 #[.agg cs.toArray] w (Says (tokOk x) w) := by
 obtain ⟨h, rfl, _, hok, K⟩ := H
 exact spec_TokenValid_a x h fp w hok K

end Go.Proofs.YtlegeancmcmbaaaDoor

/- SameTexts and TokensValid of both. -/
namespace Go.Proofs.YtlegeancmcmbaaaDoor
open Go.RowKit
def toksOk (l : List Tok) : Bool := decide (l.length ≤ 60) && l.all tokOk

set_option maxHeartbeats 4000000 in
set_option maxRecDepth 100000 in
theorem spec_TokensValid (v : Value) (l : List Tok) (fp : List Nat) (w : World) (H : (sSlice sTok).R w [v] l fp) :
  Calls Tryd.prog 40 #[v] w (Says (toksOk l) w) := by
 obtain ⟨a, cap, rfl, hc, hm, hrow⟩ := open_rows H
 unfold maxLen at hm
 clear H
 go_enter Tryd.func40, Tryd.ntmps40
 go_wp2
 go_loopw [3] (fun i wr => ∃ k : Nat, k ≤ l.length ∧ i = .int .i64 k ∧ AllUpto tokOk l k ∧ Below w.heap.size w wr) (fun i _ => l.length - (intOf i).toNat)
 case atStart => exact ⟨0, by omega, rfl, AllUpto.zero _ _, Below.refl _ _⟩
 case round =>
  obtain ⟨k, hk, rfl, hall, hb⟩ := hrel
  by_cases hlt : k < l.length
  ·obtain ⟨b1, off1, fps1, rfl, hb1, -, he1⟩ := hrow (by omega)
   obtain ⟨es1, hE1, hR1⟩ := he1 k hlt
   clear hrow he1
   have hR2 := sTok.below hR1 hb
   obtain ⟨h1, rfl, _, _, _⟩ := hR1
   have HC := Lib.hid (spec_TokenValid _ _ _ wr hR2)
   clear hR2
   replace hE1 := hE1.frame (hb.block b1 hb1)
   have c10 : wr.cell? ⟨b1, off1 + k * 4, none⟩ = some _ := elem_cell0 hE1 (by decide) rfl
   have c11 : wr.cell? ⟨b1, off1 + k * 4 + 1, none⟩ = some _ := elem_cell (j := 1) hE1 (by decide) rfl
   have c12 : wr.cell? ⟨b1, off1 + k * 4 + 2, none⟩ = some _ := elem_cell (j := 2) hE1 (by decide) rfl
   have c13 : wr.cell? ⟨b1, off1 + k * 4 + 3, none⟩ = some _ := elem_cell (j := 3) hE1 (by decide) rfl
   clear hE1
   cases hv : tokOk l[k]
   ·have HF := Lib.hid (all_no (p := tokOk) hlt hv)
    rw [hv] at HC
    clear hv hall
    go_wp2_with (go_at_call 65; refine (HC.out).mono ?_; rintro e w1 ⟨rfl, hb2⟩)
    go_ret
    exact ⟨ret_bool (by unfold toksOk; rw [HF.out]; simp), hb.trans (hb2.mono hb.size)⟩
   ·have HN := Lib.hid (hall.succ hlt hv)
    rw [hv] at HC
    clear hv hall
    go_wp2_with (go_at_call 65; refine (HC.out).mono ?_; rintro e w1 ⟨rfl, hb2⟩)
    go_roundw
    case rel => exact ⟨k + 1, by omega, by go_num, HN.out, hb.trans (hb2.mono hb.size)⟩
    case measure => simp [intOf]; omega
  ·have HF := Lib.hid (all_yes (p := tokOk) hall (by omega))
   clear hall
   go_wp2
   go_ret
   exact ⟨ret_bool (by unfold toksOk; rw [HF.out, Bool.and_true]; exact decide_eq_decide.2 (by omega)), hb⟩

set_option maxHeartbeats 4000000 in
set_option maxRecDepth 100000 in
theorem impl_TokensValid (v : Value) (l : List Tok) (fp : List Nat) (w : World) (H : (sSlice sTok).R w [v] l fp) :
  Calls Tryd.prog 44 #[v] w (Says (toksOk l) w) := by
 obtain ⟨a, cap, rfl, hc, hm, hrow⟩ := open_rows H
 unfold maxLen at hm
 clear H
 by_cases hl : 60 < l.length
 ·go_enter Tryd.func44, Tryd.ntmps44
  go_wp2
  go_ret
  exact ⟨ret_bool (by unfold toksOk; rw [decide_eq_false (by omega)]; rfl), Below.refl _ _⟩
 go_enter Tryd.func44, Tryd.ntmps44
 go_wp2
 go_loopw [10] (fun i wr => ∃ k : Nat, k ≤ l.length ∧ i = .int .i64 k ∧ AllUpto tokOk l k ∧ Below w.heap.size w wr) (fun i _ => l.length - (intOf i).toNat)
 case atStart => exact ⟨0, by omega, rfl, AllUpto.zero _ _, Below.refl _ _⟩
 case round =>
  obtain ⟨k, hk, rfl, hall, hb⟩ := hrel
  by_cases hlt : k < l.length
  ·obtain ⟨b1, off1, fps1, rfl, hb1, -, he1⟩ := hrow (by omega)
   obtain ⟨es1, hE1, hR1⟩ := he1 k hlt
   clear hrow he1
   have hR2 := sTok.below hR1 hb
   obtain ⟨h1, rfl, _, _, K1⟩ := hR1
   obtain ⟨ah, caph, rfl, -⟩ := open_rows K1
   clear K1
   have HC : Hid (∀ W, Below wr.heap.size wr W → Calls Tryd.prog 68 #[.agg #[.int .i64 l[k].kind, .string l[k].text, .bool l[k].spaced, .slice ah l[k].hidden.length caph]] W (Says (tokOk l[k]) W)) := fun W hW => impl_TokenValid _ _ _ W (sTok.below hR2 hW)
   clear hR2
   replace hE1 := hE1.frame (hb.block b1 hb1)
   have c10 : wr.cell? ⟨b1, off1 + k * 4, none⟩ = some _ := elem_cell0 hE1 (by decide) rfl
   have c11 : wr.cell? ⟨b1, off1 + k * 4 + 1, none⟩ = some _ := elem_cell (j := 1) hE1 (by decide) rfl
   have c12 : wr.cell? ⟨b1, off1 + k * 4 + 2, none⟩ = some _ := elem_cell (j := 2) hE1 (by decide) rfl
   have c13 : wr.cell? ⟨b1, off1 + k * 4 + 3, none⟩ = some _ := elem_cell (j := 3) hE1 (by decide) rfl
   clear hE1
   cases hv : tokOk l[k]
   ·have HF := Lib.hid (all_no (p := tokOk) hlt hv)
    rw [hv] at HC
    clear hv hall
    go_wp2_with (go_at_call 68; refine (HC.out _ (alloc_below' _ _)).mono ?_; rintro e w1 ⟨rfl, hb2⟩)
    go_ret
    have hb3 := (alloc_below' wr (.cells #[.int .i64 l[k].kind, .string l[k].text, .bool l[k].spaced, .slice ah l[k].hidden.length caph] 47))
    exact ⟨ret_bool (by unfold toksOk; rw [HF.out]; simp), hb.trans ((hb3.trans (hb2.mono hb3.size)).mono hb.size)⟩
   ·have HN := Lib.hid (hall.succ hlt hv)
    rw [hv] at HC
    clear hv hall
    go_wp2_with (go_at_call 68; refine (HC.out _ (alloc_below' _ _)).mono ?_; rintro e w1 ⟨rfl, hb2⟩)
    have hb3 := (alloc_below' wr (.cells #[.int .i64 l[k].kind, .string l[k].text, .bool l[k].spaced, .slice ah l[k].hidden.length caph] 47))
    go_roundw
    case rel => exact ⟨k + 1, by omega, by go_num, HN.out, hb.trans ((hb3.trans (hb2.mono hb3.size)).mono hb.size)⟩
    case measure => simp [intOf]; omega
  ·have HF := Lib.hid (all_yes (p := tokOk) hall (by omega))
   clear hall
   go_wp2
   go_ret
   exact ⟨ret_bool (by unfold toksOk; rw [HF.out, Bool.and_true]; exact (decide_eq_true (by omega)).symm), hb⟩

end Go.Proofs.YtlegeancmcmbaaaDoor

/- Printing tokens: no program. -/
namespace Go.Proofs.YtlegeancmcmbaaaDoor
open Go.RowKit

theorem ext_get (s : ByteArray) (i j k : Nat) (h : k < (s.extract i j).size) : (s.extract i j)[k] = s[i + k]'(by rw [ByteArray.size_extract] at h; omega) := by
 rw [ByteArray.getElem_extract]

def Headed (t : Tok) : Prop := ∃ h : 0 < t.text.size, t.kind = cutKind t.text[0]
theorem toks_head (s : ByteArray) : ∀ (k : Nat) (sp : Bool) (n : Nat) (l : List Tok), toks s k sp n = some l → ∀ t ∈ l, Headed t := by
 intro k sp n
 induction k, sp, n using toks.induct (s := s) with
 |
  case1 k sp n hk h32 ih =>
  intro l h
  rw [toks, dif_pos hk, if_pos h32] at h
  exact ih l h
 |
  case2 k sp n hk h32 hb =>
  intro l h
  rw [toks, dif_pos hk, if_neg h32, if_pos hb] at h
  exact absurd h (by simp)
 |
  case3 k sp n hk h32 hb ih =>
  intro l h t ht
  rw [toks, dif_pos hk, if_neg h32, if_neg hb] at h
  have hr := cutEnd_room (s := s) (k := k) (by omega)
  rw [Option.map_eq_some_iff] at h
  obtain ⟨l', h1, rfl⟩ := h
  rcases List.mem_cons.1 ht with rfl | ht
  ·have hz : 0 < (s.extract k (cutEnd s k).toNat).size := by rw [ByteArray.size_extract]; omega
   refine ⟨hz, ?_⟩
   show cutKind s[k] = cutKind (s.extract k (cutEnd s k).toNat)[0]
   rw [ext_get]; rfl
  ·exact ih l' h1 t ht
 |
  case4 k sp n hk =>
  intro l h
  rw [toks, dif_neg hk] at h
  simp only [Option.some.injEq] at h
  subst h; simp
theorem tokRes_head (s : ByteArray) : ∀ t ∈ (tokRes s).1, Headed t := by
 rcases hr : tokRes s with ⟨l, ok⟩
 cases ok
 ·obtain rfl := tokRes_false hr
  simp
 ·exact toks_head s 0 false 0 l (tokRes_true hr).1
theorem oneTok_res {x : ByteArray} {k : Int} (h : oneTok x k = true) : ∃ t, tokRes x = ([t], true) ∧ t.kind = k ∧ t.text = x := by
 rcases one_ways x k with ⟨_, HG⟩ | ⟨l, _, _, HG⟩ | ⟨t', _, _, HG⟩ | ⟨t', _, _, _, HG⟩ | ⟨t', hr, hk, hx, _, _⟩
 ·exact absurd (HG.out.symm.trans h) (by simp)
 ·exact absurd (HG.out.symm.trans h) (by simp)
 ·exact absurd (HG.out.symm.trans h) (by simp)
 ·exact absurd (HG.out.symm.trans h) (by simp)
 ·exact ⟨t', hr, hk, hx⟩
theorem tokOk_facts {t : Tok} (h : tokOk t = true) : Headed t ∧ t.text.size ≤ 200 := by
 unfold tokOk at h
 rw [Bool.and_eq_true] at h
 obtain ⟨u, hr, hk, hx⟩ := oneTok_res h.1
 have h1 := tokRes_head t.text u (by rw [hr]; simp)
 have h2 := lineOk_size (tokRes_true hr).2
 refine ⟨?_, h2⟩
 obtain ⟨a, b⟩ := h1
 obtain ⟨k, x, s, hd⟩ := t
 subst hx
 exact ⟨a, (show k = u.kind from hk.symm).trans b⟩

theorem toksOk_facts {l : List Tok} (h : toksOk l = true) : l.length ≤ 60 ∧ ∀ k, (hk : k < l.length) → tokOk l[k] = true := by
 unfold toksOk at h
 rw [Bool.and_eq_true, decide_eq_true_eq, List.all_eq_true] at h
 exact ⟨h.1, fun k hk => h.2 _ (List.getElem_mem hk)⟩
end Go.Proofs.YtlegeancmcmbaaaDoor

/- What is printed is read again; tokens of a line are valid: no program. -/
namespace Go.Proofs.YtlegeancmcmbaaaDoor
open Go.RowKit

def bAt (s : ByteArray) (j : Nat) : Option UInt8 := if h : j < s.size then some s[j] else none
theorem bAt_lt {s : ByteArray} {j : Nat} (h : j < s.size) : bAt s j = some s[j] := by unfold bAt; rw [dif_pos h]
theorem bAt_ge {s : ByteArray} {j : Nat} (h : s.size ≤ j) : bAt s j = none := by unfold bAt; rw [dif_neg (by omega)]
theorem bAt_some {s : ByteArray} {j : Nat} {c : UInt8} (h : bAt s j = some c) : ∃ hj : j < s.size, s[j] = c := by
 by_cases hj : j < s.size
 ·rw [bAt_lt hj, Option.some.injEq] at h; exact ⟨hj, h⟩
 ·rw [bAt_ge (by omega)] at h; exact absurd h (by simp)
theorem bAt_left {s t : ByteArray} {j : Nat} (h : j < s.size) : bAt (s ++ t) j = bAt s j := by
 rw [bAt_lt (by rw [ByteArray.size_append]; omega), bAt_lt h, ByteArray.getElem_append_left h]
theorem bAt_right {s t : ByteArray} {i j : Nat} (h : i = s.size + j) : bAt (s ++ t) i = bAt t j := by
 subst h
 by_cases hj : j < t.size
 ·rw [bAt_lt (by rw [ByteArray.size_append]; omega), bAt_lt hj, ByteArray.getElem_append_right (by omega)]
  congr 2; omega
 ·rw [bAt_ge (by rw [ByteArray.size_append]; omega), bAt_ge (by omega)]
def AllOk (s : ByteArray) : Prop := ∀ j c, bAt s j = some c → okByte c = true
theorem AllOk.app {a b : ByteArray} (ha : AllOk a) (hb : AllOk b) : AllOk (a ++ b) := fun j c h => by
 by_cases hj : j < a.size
 ·rw [bAt_left hj] at h; exact ha j c h
 ·rw [bAt_right (j := j - a.size) (by omega)] at h; exact hb _ c h
theorem AllOk.of {s : ByteArray} (h : lineOk s = true) : AllOk s := fun j c hc => by
 obtain ⟨hj, rfl⟩ := bAt_some hc
 unfold lineOk at h
 rw [Bool.and_eq_true, List.all_eq_true] at h
 exact h.2 _ (by simp [ByteArray.getElem_eq_getElem_data])
end Go.Proofs.YtlegeancmcmbaaaDoor

/- Macros: their validity, their texts, and how they are read: no program. -/
namespace Go.Proofs.YtlegeancmcmbaaaDoor
open Go.RowKit

structure DMacro where
 name : ByteArray
 function : Bool
 params : List ByteArray
 body : List Tok

def definedB : ByteArray := ⟨#[100, 101, 102, 105, 110, 101, 100]⟩
def hash1 : ByteArray := ⟨#[35]⟩
def hash2 : ByteArray := ⟨#[35, 35]⟩
def openB : ByteArray := ⟨#[40]⟩
def closeB : ByteArray := ⟨#[41]⟩
def commaB : ByteArray := ⟨#[44]⟩
def parFrom (ps : List ByteArray) (t : Tok) (k : Nat) : Int := if h : k < ps.length then (if t.kind = 1 ∧ ps[k] = t.text then (k : Int) else parFrom ps t (k + 1)) else -1
termination_by ps.length - k
def parOf (ps : List ByteArray) (t : Tok) : Int := parFrom ps t 0
def macHead (m : DMacro) : Bool := oneTok m.name 1 && !decide (m.name = definedB) && decide (m.params.length ≤ 4) && (m.function || decide (m.params.length = 0)) && decide (m.body.length ≤ 20)
def parOk (ps : List ByteArray) (k : Nat) : Bool := if h : k < ps.length then oneTok ps[k] 1 && (List.range k).all (fun j => !decide (ps[j]? = some ps[k])) else true
def bodOk (m : DMacro) (k : Nat) : Bool :=
 if h : k < m.body.length then
  tokOk m.body[k] && decide (m.body[k].hidden.length = 0) && !(decide (k = 0) && m.body[k].spaced) &&
  !(decide (m.body[k].text = hash2) && (decide (k = 0) || decide (k + 1 = m.body.length) || decide ((m.body[k - 1]'(by omega)).text = hash2))) &&
  !(m.function && decide (m.body[k].text = hash1) && (if h2 : k + 1 < m.body.length then decide (parOf m.params m.body[k + 1] < 0) else true))
 else true
def macOk (m : DMacro) : Bool := macHead m && (List.range m.params.length).all (parOk m.params) && (List.range m.body.length).all (bodOk m)

def parsAt (l : List Tok) (k : Nat) : Option (List ByteArray × Nat) :=
 if h : k + 1 < l.length then
  (if l[k].kind = 1 then (if l[k + 1].text = closeB then some ([l[k].text], k + 2) else if l[k + 1].text = commaB then (parsAt l (k + 2)).map (fun p => (l[k].text :: p.1, p.2)) else none) else none)
 else none
termination_by l.length - k
def parsOf (l : List Tok) : Option (List ByteArray × Nat) := if h : 2 < l.length then (if l[2].text = closeB ∧ l[2].kind = 4 then some ([], 3) else parsAt l 2) else none
def bodyFrom (l : List Tok) (k : Nat) : List Tok := (l.drop k).mapIdx fun i t => ⟨t.kind, t.text, t.spaced && decide (0 < i), []⟩
def zeroMac : DMacro := ⟨⟨#[]⟩, false, [], []⟩
def macChk (m : DMacro) : DMacro × Bool := if macOk m = true then (m, true) else (zeroMac, false)
def opens2 (l : List Tok) : Bool := if h : 1 < l.length then decide (l[1].text = openB) && !l[1].spaced else false
def macOf (l : List Tok) : DMacro × Bool :=
 if h : toksOk l = true ∧ 0 < l.length then
  (
  if opens2 l = true then (match parsOf l with | some p => macChk ⟨l[0].text, true, p.1, bodyFrom l p.2⟩ | none => (zeroMac, false))
  else macChk ⟨l[0].text, false, [], bodyFrom l 1⟩)
 else (zeroMac, false)

/-! ### Valid macros -/
theorem macOk_facts {m : DMacro} (h : macOk m = true) : (oneTok m.name 1 = true ∧ m.name ≠ definedB ∧ m.params.length ≤ 4 ∧ (m.function = true ∨ m.params = []) ∧ m.body.length ≤ 20) ∧ (∀ k, (hk : k < m.params.length) → oneTok m.params[k] 1 = true) ∧ (∀ k, k < m.body.length → bodOk m k = true) := by
 unfold macOk macHead at h
 simp only [Bool.and_eq_true, Bool.not_eq_true', decide_eq_false_iff_not, decide_eq_true_eq, Bool.or_eq_true, List.all_eq_true, List.mem_range, List.length_eq_zero_iff] at h
 obtain ⟨⟨⟨⟨⟨⟨h1, h2⟩, h3⟩, h4⟩, h5⟩, h6⟩, h7⟩ := h
 refine ⟨⟨h1, h2, h3, h4, h5⟩, fun k hk => ?_, h7⟩
 have := h6 k hk
 unfold parOk at this
 rw [dif_pos hk, Bool.and_eq_true] at this
 exact this.1
end Go.Proofs.YtlegeancmcmbaaaDoor

/- Macro: its shape, and the law's own helpers. (Made by rec.py.) -/
namespace Go.Proofs.YtlegeancmcmbaaaDoor
open Go.RowKit Go.ChangeShapes Go.WideShapes Go.Deep

def sMacro : Shape DMacro where
 m := 4
 R w cs d fp := ∃ (h2 : Value) (h3 : Value) (fp2 : List Nat) (fp3 : List Nat), cs = [.string d.name, .bool d.function, h2, h3] ∧ okStr d.name ∧ (sSlice sStr).R w [h2] d.params fp2 ∧ (sSlice sTok).R w [h3] d.body fp3 ∧ fp = fp2 ++ fp3
 frame := by
  rintro w w' cs d fp hf ⟨h2, h3, fp2, fp3, rfl, k0, K2, K3, rfl⟩
  exact ⟨h2, h3, fp2, fp3, rfl, k0, (sSlice sStr).frame (fun b hb => hf b (by simp [hb])) K2, (sSlice sTok).frame (fun b hb => hf b (by simp [hb])) K3, rfl⟩
 lt := by
  rintro w cs d fp ⟨h2, h3, fp2, fp3, rfl, k0, K2, K3, rfl⟩ b hb
  rcases List.mem_append.1 hb with hb | hb
  ·exact (sSlice sStr).lt K2 b hb
  ·exact (sSlice sTok).lt K3 b hb
section
variable {H : Type} {enc : TypeId × Value → H} {P : Program} {w : World} {base : Nat} {spare : Nat → Bool} {held : Bool}
end
section
variable {H : Type} {enc : TypeId × Value → H} {w : World} {base : Nat} {spare : Nat → Bool} {held : Bool}
end
end Go.Proofs.YtlegeancmcmbaaaDoor

/- Whether two tokens need a space between them: the program and its model. -/
namespace Go.Proofs.YtlegeancmcmbaaaDoor
open Go.RowKit

def begins (x y : UInt8) : Bool := decide (x.toNat = 47) && (decide (y.toNat = 47) || decide (y.toNat = 42))
end Go.Proofs.YtlegeancmcmbaaaDoor

/- Whether two texts are read otherwise together: the model. -/
namespace Go.Proofs.YtlegeancmcmbaaaDoor
open Go.RowKit
end Go.Proofs.YtlegeancmcmbaaaDoor
