/- Tokens and the law's own helpers. -/
import Derived.Test.YtkamfppefmpacaaTokS
import Derived.Test.YtkamfppefmpacaaRecK
import Derived.Test.YtkamfppefmpacaaLive
import Derived.Deep.RegionHeld3
import Derived.Deep.QuietTactic
import Derived.BigQuiet
import Derived.Outline
import Derived.StillTailTactics
namespace Go.Proofs.Ytkamfppefmpacaa
open Go.RowKit

def mkToken (k : Int) (x : Tok) : Tok := ⟨k, mtext (k + 1), (k + 1 + 1) % 3 == 0, marks mtext (k + 1 + 1 + 1) x.hidden.length⟩
def cntToken (x : Tok) : Nat := 3 + x.hidden.length
def mkTokenS (k : Int) (l : List Tok) : List Tok := mkAll mkToken cntToken k l
def cntTokenS (l : List Tok) : Nat := cntAll cntToken l

set_option maxHeartbeats 1000000 in
theorem eqToken_same (cs1 cs2 : List Value) (x : Tok) (fp1 fp2 : List Nat) (w : World) (H1 : sTok.R w cs1 x fp1) (H2 : sTok.R w cs2 x fp2) :
    Calls Try.prog 48 #[.agg cs1.toArray, .agg cs2.toArray] w fun e w' => e = .returned (.bool true) ∧ Below w.heap.size w w' := by
  obtain ⟨h1, rfl, _, _, K1⟩ := H1
  obtain ⟨h2, rfl, _, _, K2⟩ := H2
  have b0 := alloc_below' w (.cells #[.int .i64 x.kind, .string x.text, .bool x.spaced, h1] 36)
  have b1 := b0.trans ((alloc_below' (w.alloc (.cells #[.int .i64 x.kind, .string x.text, .bool x.spaced, h1] 36)) (.cells #[.int .i64 x.kind, .string x.text, .bool x.spaced, h2] 36)).mono b0.size)
  have HC : Hid (∀ W, Below w.heap.size w W → Calls Try.prog 65 #[h1, h2] W fun e w' => e = .returned (.bool true) ∧ Below W.heap.size W w') := fun W hb => eqStringS_same h1 h2 x.hidden fp1 fp2 W ((sSlice sStr).below K1 hb) ((sSlice sStr).below K2 hb)
  have e1 : (x.kind != x.kind) = false := by simp
  have e2 := bytes_beq (rfl : x.text = x.text)
  have e3 : (x.spaced != x.spaced) = false := by simp
  go_enter Try.func48, Try.ntmps48
  go_wp2_with (go_at_call 65; refine (HC.out _ b1).mono ?_; rintro e w1 ⟨rfl, hb1⟩)
  go_ret
  exact ⟨rfl, b1.trans (hb1.mono b1.size)⟩

set_option maxHeartbeats 4000000 in
set_option maxRecDepth 100000 in
theorem eqTokenS_same (v1 v2 : Value) (l : List Tok) (fp1 fp2 : List Nat) (w : World) (H1 : (sSlice sTok).R w [v1] l fp1) (H2 : (sSlice sTok).R w [v2] l fp2) :
    Calls Try.prog 26 #[v1, v2] w fun e w' => e = .returned (.bool true) ∧ Below w.heap.size w w' := by
  obtain ⟨a1, cap1, rfl, hc1, hm1, hrow1⟩ := open_rows H1
  obtain ⟨a2, cap2, rfl, hc2, hm2, hrow2⟩ := open_rows H2
  unfold maxLen at hm1 hm2
  have hnb : ((l.length : Int) != (l.length : Int)) = false := by simp
  go_enter Try.func26, Try.ntmps26
  go_wp2
  go_loopw [5] (fun i wr => ∃ k : Nat, k ≤ l.length ∧ i = .int .i64 k ∧ Below w.heap.size w wr) (fun i _ => l.length - (intOf i).toNat)
  case atStart => exact ⟨0, by omega, rfl, Below.refl _ _⟩
  case round =>
    obtain ⟨k, hk, rfl, hb⟩ := hrel
    by_cases hlt : k < l.length
    · obtain ⟨b1, off1, fps1, rfl, hb1, rfl, he1⟩ := hrow1 (by omega)
      obtain ⟨b2, off2, fps2, rfl, hb2, rfl, he2⟩ := hrow2 (by omega)
      obtain ⟨es1, hE1, hR1⟩ := he1 k hlt
      obtain ⟨es2, hE2, hR2⟩ := he2 k hlt
      clear hrow1 hrow2 he1 he2 H1 H2
      have hR1' := hR1
      have hR2' := hR2
      obtain ⟨h1, rfl, _, _, K1⟩ := hR1'
      obtain ⟨h2, rfl, _, _, K2⟩ := hR2'
      have hE1' := hE1.frame (hb.block b1 hb1)
      have hE2' := hE2.frame (hb.block b2 hb2)
      have HC : Hid (∀ W, Below wr.heap.size wr W → Calls Try.prog 48 #[.agg #[.int .i64 l[k].kind, .string l[k].text, .bool l[k].spaced, h1], .agg #[.int .i64 l[k].kind, .string l[k].text, .bool l[k].spaced, h2]] W fun e w' => e = .returned (.bool true) ∧ Below W.heap.size W w') := fun W hW => eqToken_same _ _ l[k] _ _ W (sTok.below (sTok.below hR1 hb) hW) (sTok.below (sTok.below hR2 hb) hW)
      have c10 : wr.cell? ⟨b1, off1 + k * 4, none⟩ = some _ := elem_cell0 hE1' (by decide) rfl
      have c11 : wr.cell? ⟨b1, off1 + k * 4 + 1, none⟩ = some _ := elem_cell (j := 1) hE1' (by decide) rfl
      have c12 : wr.cell? ⟨b1, off1 + k * 4 + 2, none⟩ = some _ := elem_cell (j := 2) hE1' (by decide) rfl
      have c13 : wr.cell? ⟨b1, off1 + k * 4 + 3, none⟩ = some _ := elem_cell (j := 3) hE1' (by decide) rfl
      have c20 : wr.cell? ⟨b2, off2 + k * 4, none⟩ = some _ := elem_cell0 hE2' (by decide) rfl
      have c21 : wr.cell? ⟨b2, off2 + k * 4 + 1, none⟩ = some _ := elem_cell (j := 1) hE2' (by decide) rfl
      have c22 : wr.cell? ⟨b2, off2 + k * 4 + 2, none⟩ = some _ := elem_cell (j := 2) hE2' (by decide) rfl
      have c23 : wr.cell? ⟨b2, off2 + k * 4 + 3, none⟩ = some _ := elem_cell (j := 3) hE2' (by decide) rfl
      go_wp2_with fail
      go_still_tail 8, (by kernel_rfl)
      change wpList _ _ _ _ _ wr.drew
      have hd : Below wr.heap.size wr wr.drew := belowN (Below.refl _ _) 1
      generalize wr.drew = w2 at *
      go_wp2_with (go_at_call 48; refine (HC.out _ hd).mono ?_; rintro e w3 ⟨rfl, hb3⟩)
      go_roundw
      case rel => exact ⟨k + 1, by omega, by go_num, (hb.trans (hd.mono hb.size)).trans (hb3.mono (Nat.le_trans hb.size hd.size))⟩
      case measure => simp [intOf]; omega
    · go_wp2
      go_ret
      exact ⟨rfl, hb⟩

end Go.Proofs.Ytkamfppefmpacaa
