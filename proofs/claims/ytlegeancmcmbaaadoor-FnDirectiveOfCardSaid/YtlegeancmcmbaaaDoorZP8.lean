/- Texts that the proof of P stands on, in one file. -/
import Derived.Test.YtlegeancmcmbaaaDoorZP7
import Derived.Test.YtlegeancmcmbaaaDoorZP2
import Derived.Test.YtlegeancmcmbaaaDoorZP4
import Derived.Test.YtlegeancmcmbaaaDoorZP1
import Derived.Laws.ResultCell
import Derived.Deep.Cut
import Derived.Deep.CutRange
import Derived.Test.YtlegeancmcmbaaaDoorShelf
import Derived.Lib.FrozenHead2
import Derived.Lib.OthersKept
import Derived.Lib.Builder
import Derived.Laws.Externs
set_option linter.unusedVariables false
set_option linter.unusedSimpArgs false
/- MacroValid of the program, from its parts. (Made by gen_mac5.py.) -/
namespace Go.Proofs.YtlegeancmcmbaaaDoor
open Go.RowKit

theorem bodyI_long {b : List Tok} (h : 20 < b.length) : bodyOkI b = false := by unfold bodyOkI; rw [decide_eq_false (by omega)]; rfl
theorem bodyI_toks {b : List Tok} (h : toksOk b = false) : bodyOkI b = false := by unfold bodyOkI; rw [h]; simp
theorem bodyI_no {b : List Tok} {k : Nat} (hk : k < b.length) (h : bodI b k = false) : bodyOkI b = false := by unfold bodyOkI; rw [range_no hk h, Bool.and_false]
theorem bodyI_yes {b : List Tok} (h1 : b.length ≤ 20) (h2 : toksOk b = true) (h3 : BodUpto (bodI b) b.length) : bodyOkI b = true := by unfold bodyOkI; rw [range_yes h3, decide_eq_true h1, h2]; rfl

set_option maxHeartbeats 16000000 in
set_option maxRecDepth 100000 in
theorem impl_bodyValid (v : Value) (l : List Tok) (fp : List Nat) (w : World) (H : (sSlice sTok).R w [v] l fp) :
  Calls Tryd.prog 100 #[v] w (Says (bodyOkI l) w) := by
 have HV := Lib.hid (impl_TokensValid v l fp w H)
 obtain ⟨a, cap, rfl, hc, hm, hrow⟩ := open_rows H
 unfold maxLen at hm
 clear H
 by_cases hl : 20 < l.length
 ·have HF := Lib.hid (bodyI_long hl)
  go_enter Tryd.func100, Tryd.ntmps100
  go_wp2
  go_ret
  exact ⟨ret_bool HF.out.symm, Below.refl _ _⟩
 cases hv : toksOk l
 ·rw [hv] at HV
  have HF := Lib.hid (bodyI_toks hv)
  clear hv
  go_enter Tryd.func100, Tryd.ntmps100
  go_wp2_with (go_at_call 44; refine HV.out.mono ?_; rintro e w1 ⟨rfl, hb1⟩)
  go_ret
  exact ⟨ret_bool HF.out.symm, hb1⟩
 rw [hv] at HV
 have HTV := Lib.hid hv
 clear hv
 go_enter Tryd.func100, Tryd.ntmps100
 go_wp2_with (go_at_call 44; refine HV.out.mono ?_; rintro e w1 ⟨rfl, hb1⟩)
 go_loopw [15] (fun i wr => ∃ k : Nat, k ≤ l.length ∧ i = .int .i64 k ∧ BodUpto (bodI l) k ∧ Below w.heap.size w wr) (fun i _ => l.length - (intOf i).toNat)
 case atStart => exact ⟨0, by omega, rfl, BodUpto.zero _, hb1⟩
 case round =>
  clear hb1
  obtain ⟨k, hk, rfl, hall, hb⟩ := hrel
  by_cases hlt : k < l.length
  ·obtain ⟨b1, off1, fps1, rfl, hb1', -, he1⟩ := hrow (by omega)
   obtain ⟨es1, hE1, hR1⟩ := he1 k hlt
   obtain ⟨hh, rfl, -, -, K1⟩ := hR1
   obtain ⟨ah, caph, rfl, -⟩ := open_rows K1
   replace hE1 := hE1.frame (hb.block b1 hb1')
   have c10 : wr.cell? ⟨b1, off1 + k * 4, none⟩ = some _ := elem_cell0 hE1 (by decide) rfl
   have c11 : wr.cell? ⟨b1, off1 + k * 4 + 1, none⟩ = some _ := elem_cell (j := 1) hE1 (by decide) rfl
   have c12 : wr.cell? ⟨b1, off1 + k * 4 + 2, none⟩ = some _ := elem_cell (j := 2) hE1 (by decide) rfl
   have c13 : wr.cell? ⟨b1, off1 + k * 4 + 3, none⟩ = some _ := elem_cell (j := 3) hE1 (by decide) rfl
   have hbx : Below wr.heap.size wr (wr.alloc (.cells #[.int .i64 l[k].kind, .string l[k].text, .bool l[k].spaced, .slice ah l[k].hidden.length caph] 47)) := alloc_below' _ _
   have HT := Lib.hid (heap_alloc_new wr (.cells #[.int .i64 l[k].kind, .string l[k].text, .bool l[k].spaced, .slice ah l[k].hidden.length caph] 47))
   have hbq := hb.trans (hbx.mono hb.size)
   clear K1 hE1
   have g00 : ((k : Int) == 0) = decide (k = 0) := by rw [Bool.eq_iff_iff]; simp
   have g01 : ((k : Int) == (l.length : Int) - 1) = decide (k + 1 = l.length) := by rw [Bool.eq_iff_iff]; simp; omega
   rcases bodI_ways hlt with ⟨e1, HI⟩ | ⟨e1, e2, e3, HI⟩ | ⟨e1, e2, e3, e4, HI⟩ | ⟨e1, e2, e3, e4, HI⟩ | ⟨e1, e2, e4, e5, HI⟩ | ⟨e1, e2, e4, e5, e6, HI⟩ | ⟨e1, e2, e4, e5, e6, HI⟩ | ⟨e1, e2, e4, HI⟩
   ·have HF := Lib.hid (bodyI_no hlt HI.out)
    have f0 : (0 : Int) < (l[k].hidden.length : Int) := by omega
    have f01 : 0 < l[k].hidden.length := by omega
    have f02 : decide ((0 : Int) < (l[k].hidden.length : Int)) = true := decide_eq_true f0
    clear e1
    clear hall
    go_wp2
    go_ret
    exact ⟨ret_bool HF.out.symm, hb.trans ((alloc_below' wr _).mono hb.size)⟩
   ·have HF := Lib.hid (bodyI_no hlt HI.out)
    have f0 : ¬ (0 : Int) < (l[k].hidden.length : Int) := by omega
    have f01 : ¬ 0 < l[k].hidden.length := by omega
    rw [decide_eq_true e2] at g00
    rw [e3] at c12
    clear e1 e2 e3
    clear hall
    go_wp2
    go_ret
    exact ⟨ret_bool HF.out.symm, hb.trans ((alloc_below' wr _).mono hb.size)⟩
   ·have HF := Lib.hid (bodyI_no hlt HI.out)
    have f0 : ¬ (0 : Int) < (l[k].hidden.length : Int) := by omega
    have f01 : ¬ 0 < l[k].hidden.length := by omega
    rw [decide_eq_true e2] at g00
    rw [e3] at c12
    have f4 := txt_t (l := [35, 35]) e4
    clear e4
    clear e1 e2 e3
    clear hall
    go_wp2
    go_ret
    exact ⟨ret_bool HF.out.symm, hb.trans ((alloc_below' wr _).mono hb.size)⟩
   ·have HN := Lib.hid (hall.succ HI.out)
    have f0 : ¬ (0 : Int) < (l[k].hidden.length : Int) := by omega
    have f01 : ¬ 0 < l[k].hidden.length := by omega
    rw [decide_eq_true e2] at g00
    rw [e3] at c12
    have f4 := txt_f (l := [35, 35]) e4
    clear e4
    clear e1 e2 e3
    clear hall
    go_wp2
    go_roundw
    case rel => first | exact ⟨k + 1, by omega, by go_num, HN.out, hb.trans ((alloc_below' wr _).mono hb.size)⟩ | ((repeat apply Exists.intro); exact ⟨⟨k + 1, by omega, by go_num, HN.out, hb.trans ((alloc_below' wr _).mono hb.size)⟩, rfl⟩)
    case measure => simp [intOf]; omega
   ·have HF := Lib.hid (bodyI_no hlt HI.out)
    have f0 : ¬ (0 : Int) < (l[k].hidden.length : Int) := by omega
    have f01 : ¬ 0 < l[k].hidden.length := by omega
    rw [decide_eq_false e2] at g00
    have f4 := txt_t (l := [35, 35]) e4
    clear e4
    rw [decide_eq_true e5] at g01
    clear e1 e2 e5
    clear hall
    go_wp2
    go_ret
    exact ⟨ret_bool HF.out.symm, hb.trans ((alloc_below' wr _).mono hb.size)⟩
   ·have HF := Lib.hid (bodyI_no hlt HI.out)
    have f0 : ¬ (0 : Int) < (l[k].hidden.length : Int) := by omega
    have f01 : ¬ 0 < l[k].hidden.length := by omega
    rw [decide_eq_false e2] at g00
    have f4 := txt_t (l := [35, 35]) e4
    clear e4
    rw [decide_eq_false e5] at g01
    obtain ⟨es2, hE2, hR2⟩ := he1 (k - 1) (by omega)
    obtain ⟨h9, rfl, -, -, -⟩ := hR2
    replace hE2 := hE2.frame (hbq.block b1 hb1')
    have c21 : (wr.alloc (.cells #[.int .i64 l[k].kind, .string l[k].text, .bool l[k].spaced, .slice ah l[k].hidden.length caph] 47)).cell? ⟨b1, off1 + (k - 1) * 4 + 1, none⟩ = some _ := elem_cell (j := 1) hE2 (by decide) rfl
    have h6 : ((k : Int) - 1).toNat = k - 1 := by omega
    have hwl : IntKind.i64.wrap ((k : Int) - 1) = (k : Int) - 1 := IntWalk.i64_in _ (by omega)
    have hi1 : (0 : Int) ≤ (k : Int) - 1 := by omega
    have hi2 : (k : Int) - 1 < (l.length : Int) := by omega
    clear hE2
    have f6 := txt_t (l := [35, 35]) e6
    clear e1 e2 e5 e6
    clear hall
    go_wp2
    go_ret
    exact ⟨ret_bool HF.out.symm, hb.trans ((alloc_below' wr _).mono hb.size)⟩
   ·have HN := Lib.hid (hall.succ HI.out)
    have f0 : ¬ (0 : Int) < (l[k].hidden.length : Int) := by omega
    have f01 : ¬ 0 < l[k].hidden.length := by omega
    rw [decide_eq_false e2] at g00
    have f4 := txt_t (l := [35, 35]) e4
    clear e4
    rw [decide_eq_false e5] at g01
    obtain ⟨es2, hE2, hR2⟩ := he1 (k - 1) (by omega)
    obtain ⟨h9, rfl, -, -, -⟩ := hR2
    replace hE2 := hE2.frame (hbq.block b1 hb1')
    have c21 : (wr.alloc (.cells #[.int .i64 l[k].kind, .string l[k].text, .bool l[k].spaced, .slice ah l[k].hidden.length caph] 47)).cell? ⟨b1, off1 + (k - 1) * 4 + 1, none⟩ = some _ := elem_cell (j := 1) hE2 (by decide) rfl
    have h6 : ((k : Int) - 1).toNat = k - 1 := by omega
    have hwl : IntKind.i64.wrap ((k : Int) - 1) = (k : Int) - 1 := IntWalk.i64_in _ (by omega)
    have hi1 : (0 : Int) ≤ (k : Int) - 1 := by omega
    have hi2 : (k : Int) - 1 < (l.length : Int) := by omega
    clear hE2
    have f6 := txt_f (l := [35, 35]) e6
    clear e1 e2 e5 e6
    clear hall
    go_wp2
    go_roundw
    case rel => first | exact ⟨k + 1, by omega, by go_num, HN.out, hb.trans ((alloc_below' wr _).mono hb.size)⟩ | ((repeat apply Exists.intro); exact ⟨⟨k + 1, by omega, by go_num, HN.out, hb.trans ((alloc_below' wr _).mono hb.size)⟩, rfl⟩)
    case measure => simp [intOf]; omega
   ·have HN := Lib.hid (hall.succ HI.out)
    have f0 : ¬ (0 : Int) < (l[k].hidden.length : Int) := by omega
    have f01 : ¬ 0 < l[k].hidden.length := by omega
    rw [decide_eq_false e2] at g00
    have f4 := txt_f (l := [35, 35]) e4
    clear e4
    clear e1 e2
    clear hall
    go_wp2
    go_roundw
    case rel => first | exact ⟨k + 1, by omega, by go_num, HN.out, hb.trans ((alloc_below' wr _).mono hb.size)⟩ | ((repeat apply Exists.intro); exact ⟨⟨k + 1, by omega, by go_num, HN.out, hb.trans ((alloc_below' wr _).mono hb.size)⟩, rfl⟩)
    case measure => simp [intOf]; omega
  ·have HF := Lib.hid (bodyI_yes (by omega) HTV.out (fun j hj => hall j (by omega)))
   clear hall
   go_wp2
   go_ret
   exact ⟨ret_bool HF.out.symm, hb⟩

/-! ### Number signs -/
theorem signI_other {m : DMacro} {k : Nat} (hk : k < m.body.length) (h : m.body[k].text ≠ hash1) : signI m k = true := by unfold signI; rw [dif_pos hk, decide_eq_false h]; rfl
theorem signI_last {m : DMacro} {k : Nat} (hk : k < m.body.length) (h : m.body[k].text = hash1) (hl : k + 1 = m.body.length) : signI m k = false := by unfold signI; rw [dif_pos hk, decide_eq_true h, dif_neg (by omega)]; rfl
theorem signI_in {m : DMacro} {k : Nat} (hk : k + 1 < m.body.length) (h : (m.body[k]'(by omega)).text = hash1) : signI m k = hasTx m.params m.body[k + 1].text := by unfold signI; rw [dif_pos (by omega), decide_eq_true h, dif_pos hk]; simp
theorem signs_no {m : DMacro} {k : Nat} (hk : k < m.body.length) (h : signI m k = false) : signsOk m = false := range_no hk h
theorem signs_yes {m : DMacro} (h : BodUpto (signI m) m.body.length) : signsOk m = true := range_yes h

set_option maxHeartbeats 16000000 in
set_option maxRecDepth 100000 in
theorem impl_numberSignsFit (m : DMacro) (h2 h3 : Value) (fp2 fp3 : List Nat) (w : World) (K2 : (sSlice sStr).R w [h2] m.params fp2) (K3 : (sSlice sTok).R w [h3] m.body fp3) (hl : m.body.length ≤ 1000) :
  Calls Tryd.prog 102 #[.agg #[.string m.name, .bool m.function, h2, h3]] w (Says (signsOk m) w) := by
 obtain ⟨a2, cap2, rfl, -⟩ := open_strs K2
 obtain ⟨a3, cap3, rfl, hc3, hm3, hrow⟩ := open_rows K3
 unfold maxLen at hm3
 clear K3
 have hb0 := alloc_below' w (.cells #[.string m.name, .bool m.function, .slice a2 m.params.length cap2, .slice a3 m.body.length cap3] 79)
 have HX := Lib.hid (heap_alloc_new w (.cells #[.string m.name, .bool m.function, .slice a2 m.params.length cap2, .slice a3 m.body.length cap3] 79))
 go_enter Tryd.func102, Tryd.ntmps102
 go_wp2
 generalize (w.alloc (.cells #[.string m.name, .bool m.function, .slice a2 m.params.length cap2, .slice a3 m.body.length cap3] 79)) = W1 at *
 go_loopw [8] (fun i wr => ∃ k : Nat, k ≤ m.body.length ∧ i = .int .i64 k ∧ BodUpto (signI m) k ∧ Below W1.heap.size W1 wr) (fun i _ => m.body.length - (intOf i).toNat)
 case atStart => exact ⟨0, by omega, rfl, BodUpto.zero _, Below.refl _ _⟩
 case round =>
  obtain ⟨k, hk, rfl, hall, hb⟩ := hrel
  have hbw := hb0.trans (hb.mono hb0.size)
  by_cases hlt : k < m.body.length
  ·obtain ⟨b1, off1, fps1, rfl, hb1', -, he1⟩ := hrow (by omega)
   obtain ⟨es1, hE1, hR1⟩ := he1 k hlt
   obtain ⟨hh, rfl, -, -, K1⟩ := hR1
   obtain ⟨ah, caph, rfl, -⟩ := open_rows K1
   replace hE1 := hE1.frame (hbw.block b1 hb1')
   have c10 : wr.cell? ⟨b1, off1 + k * 4, none⟩ = some _ := elem_cell0 hE1 (by decide) rfl
   have c11 : wr.cell? ⟨b1, off1 + k * 4 + 1, none⟩ = some _ := elem_cell (j := 1) hE1 (by decide) rfl
   have c12 : wr.cell? ⟨b1, off1 + k * 4 + 2, none⟩ = some _ := elem_cell (j := 2) hE1 (by decide) rfl
   have c13 : wr.cell? ⟨b1, off1 + k * 4 + 3, none⟩ = some _ := elem_cell (j := 3) hE1 (by decide) rfl
   have hbx : Below wr.heap.size wr (wr.alloc (.cells #[.int .i64 m.body[k].kind, .string m.body[k].text, .bool m.body[k].spaced, .slice ah m.body[k].hidden.length caph] 47)) := alloc_below' _ _
   have HT := Lib.hid (heap_alloc_new wr (.cells #[.int .i64 m.body[k].kind, .string m.body[k].text, .bool m.body[k].spaced, .slice ah m.body[k].hidden.length caph] 47))
   have hbq := hb.trans (hbx.mono hb.size)
   have hbw2 := hbw.trans (hbx.mono hbw.size)
   have HX2 := Lib.hid ((hbq.block _ (Array.getElem?_eq_some_iff.1 HX.out).1).trans HX.out)
   have HC := Lib.hid (fun x W (hW : Below (wr.alloc (.cells #[.int .i64 m.body[k].kind, .string m.body[k].text, .bool m.body[k].spaced, .slice ah m.body[k].hidden.length caph] 47)).heap.size (wr.alloc (.cells #[.int .i64 m.body[k].kind, .string m.body[k].text, .bool m.body[k].spaced, .slice ah m.body[k].hidden.length caph] 47)) W) => lib_Contains _ _ _ x W ((sSlice sStr).below ((sSlice sStr).below K2 hbw2) hW))
   clear K1 hE1 hbx
   by_cases e7 : m.body[k].text = hash1
   ·have f7 := txt_t (l := [35]) e7
    have E7 := Lib.hid e7
    clear e7
    go_wp2
    generalize wr.alloc (.cells #[.int .i64 m.body[k].kind, .string m.body[k].text, .bool m.body[k].spaced, .slice ah m.body[k].hidden.length caph] 47) = W2 at *
    have p1 : W2.cell? ⟨wr.heap.size, 1, none⟩ = some (.string m.body[k].text) := cell_of_row _ _ 1 _ _ _ HT.out
    clear c10 c11 c12 c13
    have q2 : W2.cell? ⟨w.heap.size, 2, none⟩ = some (.slice a2 m.params.length cap2) := cell_of_row _ _ 2 _ _ _ HX2.out
    have q3 : W2.cell? ⟨w.heap.size, 3, none⟩ = some (.slice (some ⟨b1, off1, none⟩) m.body.length cap3) := cell_of_row _ _ 3 _ _ _ HX2.out
    have g01 : ((k : Int) == (m.body.length : Int) - 1) = decide (k + 1 = m.body.length) := by rw [Bool.eq_iff_iff]; simp; omega
    have hwm : IntKind.i64.wrap ((m.body.length : Int) - 1) = (m.body.length : Int) - 1 := IntWalk.i64_in _ (by omega)
    by_cases e8 : k + 1 = m.body.length
    ·have HF := Lib.hid (signs_no hlt (signI_last hlt E7.out e8))
     rw [decide_eq_true e8] at g01
     clear e8 hall
     go_quiet (fail)
     go_wp2
     go_ret
     exact ⟨ret_bool HF.out.symm, belowN hbw2 _⟩
    ·have hk1 : k + 1 < m.body.length := by omega
     obtain ⟨es3, hE3, hR3⟩ := he1 (k + 1) hk1
     obtain ⟨h9, rfl, -, -, -⟩ := hR3
     replace hE3 := hE3.frame (hbw2.block b1 hb1')
     have c31 : W2.cell? ⟨b1, off1 + (k + 1) * 4 + 1, none⟩ = some _ := elem_cell (j := 1) hE3 (by decide) rfl
     have h6 : ((k : Int) + 1).toNat = k + 1 := by omega
     have hwl : IntKind.i64.wrap ((k : Int) + 1) = (k : Int) + 1 := IntWalk.i64_in _ (by omega)
     have hi1 : (0 : Int) ≤ (k : Int) + 1 := by omega
     have hi2 : (k : Int) + 1 < (m.body.length : Int) := by omega
     have hs := signI_in hk1 E7.out
     rw [decide_eq_false e8] at g01
     clear hE3 e8 he1 hrow
     go_still_tail 16, (by kernel_rfl)
     change wpList _ _ _ _ _ W2.drew
     have hd : Below W2.heap.size W2 W2.drew := belowN (Below.refl _ _) 1
     generalize W2.drew = w3 at *
     have hbw3 := hbw2.trans (hd.mono hbw2.size)
     have hbq3 := hbq.trans (hd.mono hbq.size)
     cases e9 : hasTx m.params m.body[k + 1].text
     ·rw [e9] at hs
      have HF := Lib.hid (signs_no hlt hs)
      clear hall hs
      go_wp2_with (go_at_call 107; refine (HC.out _ _ hd).mono ?_; rintro e w4 ⟨rfl, rfl⟩; rw [e9]; clear e9)
      go_ret
      exact ⟨ret_bool HF.out.symm, hbw3⟩
     ·rw [e9] at hs
      have HN := Lib.hid (hall.succ hs)
      clear hall hs
      go_wp2_with (go_at_call 107; refine (HC.out _ _ hd).mono ?_; rintro e w4 ⟨rfl, rfl⟩; rw [e9]; clear e9)
      go_roundw
      case rel => first | exact ⟨k + 1, by omega, by go_num, HN.out, hbq3⟩ | ((repeat apply Exists.intro); exact ⟨⟨k + 1, by omega, by go_num, HN.out, hbq3⟩, rfl⟩)
      case measure => simp [intOf]; omega
   ·have f7 := txt_f (l := [35]) e7
    have HN := Lib.hid (hall.succ (signI_other hlt e7))
    clear e7 hall
    go_wp2
    go_roundw
    case rel => first | exact ⟨k + 1, by omega, by go_num, HN.out, hbq⟩ | ((repeat apply Exists.intro); exact ⟨⟨k + 1, by omega, by go_num, HN.out, hbq⟩, rfl⟩)
    case measure => simp [intOf]; omega
  ·have HF := Lib.hid (signs_yes (fun j hj => hall j (by omega)))
   clear hall
   go_wp2
   go_ret
   exact ⟨ret_bool HF.out.symm, hbw⟩

end Go.Proofs.YtlegeancmcmbaaaDoor

/- Lists of texts and of numbers are compared by the laws. -/
namespace Go.Proofs.YtlegeancmcmbaaaDoor
open Go.RowKit

set_option maxHeartbeats 400000 in
theorem sameTexts (v1 v2 : Value) (l1 l2 : List ByteArray) (fp1 fp2 : List Nat) (w : World) (H1 : (sSlice sStr).R w [v1] l1 fp1) (H2 : (sSlice sStr).R w [v2] l2 fp2) :
  Calls Tryd.prog 53 #[v1, v2] w fun e w' => e = .returned (.bool (decide (l1 = l2))) ∧ ∃ n, w' = w.drewN n := by
 obtain ⟨a1, cap1, rfl, hc1, hm1, hcell1, hsz1⟩ := open_strs H1
 obtain ⟨a2, cap2, rfl, hc2, hm2, hcell2, hsz2⟩ := open_strs H2
 unfold maxLen at hm1 hm2
 by_cases hl : l1.length = l2.length
 ·have hnb : ((l1.length : Int) != (l2.length : Int)) = false := by simp [hl]
  have HL := Lib.hid hl; clear hl
  go_enter Tryd.func53, Tryd.ntmps53
  go_wp2
  go_loopw [5] (fun i wr => ∃ k : Nat, k ≤ l1.length ∧ i = .int .i64 k ∧ (∃ n, wr = w.drewN n) ∧ EqUpto l1 l2 k) (fun i _ => l1.length - (intOf i).toNat)
  case atStart => exact ⟨0, by omega, rfl, ⟨0, rfl⟩, by intro j h h' hj; omega⟩
  case round =>
   obtain ⟨k, hk, rfl, ⟨n, rfl⟩, hall⟩ := hrel
   by_cases hlt : k < l1.length
   ·have hlt2 : k < l2.length := by have := HL.out; omega
    obtain ⟨b1, off1, rfl, hb1, _, hd1⟩ := hcell1 (by omega)
    obtain ⟨b2, off2, rfl, hb2, _, hd2⟩ := hcell2 (by omega)
    have hck1 := hd1 k hlt
    have hck2 := hd2 k hlt2
    clear hd1 hd2
    by_cases heq : l1[k] = l2[k]
    ·have hne := bytes_beq heq
     have hn := hall.succ hlt hlt2 heq
     clear heq
     go_wp2
     go_quiet (fail)
     go_wp2
     go_roundw
     case rel => exact ⟨k + 1, by omega, by go_num, ⟨_, rfl⟩, hn⟩
     case measure => simp [intOf]; omega
    ·have hne := bytes_bne heq
     have HF := Lib.hid (eq_no hlt hlt2 heq)
     clear heq
     go_wp2
     go_quiet (fail)
     go_wp2
     go_ret
     exact ⟨ret_bool HF.out.symm, _, World.drewN_drewN _ _ _⟩
   ·have HF := Lib.hid (hall.eq HL.out (by omega))
    go_wp2
    go_ret
    exact ⟨ret_bool HF.out.symm, _, rfl⟩
 ·have hnb : ((l1.length : Int) != (l2.length : Int)) = true := by simp; omega
  have HF : Hid (decide (l1 = l2) = false) := decide_eq_false (by rintro rfl; exact hl rfl)
  clear hl
  go_enter Tryd.func53, Tryd.ntmps53
  go_wp2
  go_ret
  exact ⟨ret_bool HF.out.symm, 0, rfl⟩


end Go.Proofs.YtlegeancmcmbaaaDoor

/- Lists of tokens are compared by the laws. -/
namespace Go.Proofs.YtlegeancmcmbaaaDoor
open Go.RowKit

set_option maxHeartbeats 8000000 in
set_option maxRecDepth 100000 in
theorem sameTokens_same (v1 v2 : Value) (l : List Tok) (fp1 fp2 : List Nat) (w : World) (H1 : (sSlice sTok).R w [v1] l fp1) (H2 : (sSlice sTok).R w [v2] l fp2) :
  Calls Tryd.prog 27 #[v1, v2] w fun e w' => e = .returned (.bool true) ∧ Below w.heap.size w w' := by
 obtain ⟨a1, cap1, rfl, hc1, hm1, hrow1⟩ := open_rows H1
 obtain ⟨a2, cap2, rfl, hc2, hm2, hrow2⟩ := open_rows H2
 unfold maxLen at hm1 hm2
 clear H1 H2
 have hnb : ((l.length : Int) != (l.length : Int)) = false := by simp
 go_enter Tryd.func27, Tryd.ntmps27
 go_wp2
 go_loopw [5] (fun i wr => ∃ k : Nat, k ≤ l.length ∧ i = .int .i64 k ∧ Below w.heap.size w wr) (fun i _ => l.length - (intOf i).toNat)
 case atStart => exact ⟨0, by omega, rfl, Below.refl _ _⟩
 case round =>
  obtain ⟨k, hk, rfl, hb⟩ := hrel
  by_cases hlt : k < l.length
  ·obtain ⟨b1, off1, fps1, rfl, hb1, -, he1⟩ := hrow1 (by omega)
   obtain ⟨b2, off2, fps2, rfl, hb2, -, he2⟩ := hrow2 (by omega)
   obtain ⟨es1, hE1, hR1⟩ := he1 k hlt
   obtain ⟨es2, hE2, hR2⟩ := he2 k hlt
   clear hrow1 hrow2 he1 he2
   obtain ⟨h1, rfl, -, -, K1⟩ := hR1
   obtain ⟨h2, rfl, -, -, K2⟩ := hR2
   replace hE1 := hE1.frame (hb.block b1 hb1)
   replace hE2 := hE2.frame (hb.block b2 hb2)
   have HC : Hid (∀ n, Calls Tryd.prog 53 #[h1, h2] (wr.drewN n) fun e w' => e = .returned (.bool true) ∧ ∃ m, w' = (wr.drewN n).drewN m) := fun n =>
    (sameTexts h1 h2 _ _ _ _ (wr.drewN n) ((sSlice sStr).frame (w := wr) (fun _ _ => rfl) ((sSlice sStr).below K1 hb)) ((sSlice sStr).frame (w := wr) (fun _ _ => rfl) ((sSlice sStr).below K2 hb))).mono
     fun e w' ⟨a, m, c⟩ => ⟨by rw [a, decide_eq_true rfl], m, c⟩
   have c10 : wr.cell? ⟨b1, off1 + k * 4, none⟩ = some _ := elem_cell0 hE1 (by decide) rfl
   have c11 : wr.cell? ⟨b1, off1 + k * 4 + 1, none⟩ = some _ := elem_cell (j := 1) hE1 (by decide) rfl
   have c12 : wr.cell? ⟨b1, off1 + k * 4 + 2, none⟩ = some _ := elem_cell (j := 2) hE1 (by decide) rfl
   have c13 : wr.cell? ⟨b1, off1 + k * 4 + 3, none⟩ = some _ := elem_cell (j := 3) hE1 (by decide) rfl
   have c20 : wr.cell? ⟨b2, off2 + k * 4, none⟩ = some _ := elem_cell0 hE2 (by decide) rfl
   have c21 : wr.cell? ⟨b2, off2 + k * 4 + 1, none⟩ = some _ := elem_cell (j := 1) hE2 (by decide) rfl
   have c22 : wr.cell? ⟨b2, off2 + k * 4 + 2, none⟩ = some _ := elem_cell (j := 2) hE2 (by decide) rfl
   have c23 : wr.cell? ⟨b2, off2 + k * 4 + 3, none⟩ = some _ := elem_cell (j := 3) hE2 (by decide) rfl
   clear hE1 hE2 K1 K2
   have q1 : (l[k].kind != l[k].kind) = false := by simp
   have q2 := bytes_beq (rfl : l[k].text = l[k].text)
   have q3 : (l[k].spaced != l[k].spaced) = false := by simp
   go_wp2
   go_quiet (first | (go_at_call 53; refine Calls.quiet_of (HC.out _)))
   go_wp2
   go_roundw
   case rel => exact ⟨k + 1, by omega, by go_num, belowN hb _⟩
   case measure => simp [intOf]; omega
  ·go_wp2
   go_ret
   exact ⟨rfl, hb⟩

end Go.Proofs.YtlegeancmcmbaaaDoor

/- MacroValid of both; the laws' helpers over macros by value. -/
namespace Go.Proofs.YtlegeancmcmbaaaDoor
open Go.RowKit

theorem spec_MacroValid (cs : List Value) (m : DMacro) (fp : List Nat) (w : World) (H : sMacro.R w cs m fp) : Calls Tryd.prog 87 #[.agg cs.toArray] w (Says (macOk m) w) := by
 obtain ⟨h2, h3, fp2, fp3, rfl, k0, K2, K3, rfl⟩ := H
 cases hf : m.function
 ·have := spec_MacroValid_no m h2 h3 fp2 fp3 w k0 K2 K3 hf
  rw [hf] at this
  exact this
 ·have := spec_MacroValid_yes m h2 h3 fp2 fp3 w k0 K2 K3 hf
  rw [hf] at this
  exact this

theorem mi_name {m : DMacro} (h : oneTok m.name 1 = false) : macOk m = false := by rw [mac_impl, h]; rfl
theorem mi_def {m : DMacro} (h : m.name = definedB) : macOk m = false := by rw [mac_impl, decide_eq_true h]; simp
theorem mi_no {m : DMacro} (h1 : oneTok m.name 1 = true) (h2 : m.name ≠ definedB) (hf : m.function = false) : macOk m = (decide (m.params.length = 0) && bodyOkI m.body) := by rw [mac_impl, h1, decide_eq_false h2, hf]; rfl
theorem mi_yes {m : DMacro} (h1 : oneTok m.name 1 = true) (h2 : m.name ≠ definedB) (hf : m.function = true) : macOk m = (parsOk m.params && bodyOkI m.body && signsOk m) := by rw [mac_impl, h1, decide_eq_false h2, hf]; rfl
theorem mi_big {m : DMacro} (h : bodyOkI m.body = true) : m.body.length ≤ 20 := by unfold bodyOkI at h; rw [Bool.and_eq_true, Bool.and_eq_true] at h; simpa using h.1.1

set_option maxHeartbeats 8000000 in
set_option maxRecDepth 100000 in
theorem impl_MacroValid (cs : List Value) (m : DMacro) (fp : List Nat) (w : World) (H : sMacro.R w cs m fp) : Calls Tryd.prog 92 #[.agg cs.toArray] w (Says (macOk m) w) := by
 obtain ⟨h2, h3, fp2, fp3, rfl, k0, K2, K3, rfl⟩ := H
 obtain ⟨a2, cap2, rfl, -⟩ := open_strs K2
 obtain ⟨a3, cap3, rfl, -⟩ := open_rows K3
 have HN := Lib.hid (fun W => impl_isOneToken m.name 1 W k0)
 have HP := Lib.hid (fun W (hW : Below w.heap.size w W) => impl_paramsValid _ _ _ W ((sSlice sStr).below K2 hW))
 have HB := Lib.hid (fun W (hW : Below w.heap.size w W) => impl_bodyValid _ _ _ W ((sSlice sTok).below K3 hW))
 have HS := Lib.hid (fun W (hl : m.body.length ≤ 1000) (hW : Below w.heap.size w W) => impl_numberSignsFit m _ _ _ _ W ((sSlice sStr).below K2 hW) ((sSlice sTok).below K3 hW) hl)
 have hb0 := alloc_below' w (.cells #[.string m.name, .bool m.function, .slice a2 m.params.length cap2, .slice a3 m.body.length cap3] 79)
 have HX := Lib.hid (heap_alloc_new w (.cells #[.string m.name, .bool m.function, .slice a2 m.params.length cap2, .slice a3 m.body.length cap3] 79))
 clear K2 K3
 cases h1 : oneTok m.name 1
 ·rw [h1] at HN
  have HF := Lib.hid (mi_name h1)
  clear h1
  go_enter Tryd.func92, Tryd.ntmps92
  go_wp2_with (go_at_call 88; refine (HN.out _).mono ?_; rintro e w1 ⟨rfl, hb1⟩)
  go_ret
  exact ⟨ret_bool HF.out.symm, hb0.trans (hb1.mono hb0.size)⟩
 rw [h1] at HN
 go_enter Tryd.func92, Tryd.ntmps92
 go_wp2_with fail
 refine (HN.out _).mono ?_
 rintro e w1 ⟨rfl, hb1⟩
 have hB1 := hb0.trans (hb1.mono hb0.size)
 replace HX := Lib.hid ((hb1.block _ (Array.getElem?_eq_some_iff.1 HX.out).1).trans HX.out)
 have q0 : w1.cell? ⟨w.heap.size, 0, none⟩ = some (.string m.name) := cell_of_row _ _ 0 _ _ _ HX.out
 by_cases hd : m.name = definedB
 ·have e2 := txt_t (l := [100, 101, 102, 105, 110, 101, 100]) hd
  have HF := Lib.hid (mi_def hd)
  clear h1 hd
  go_wp2
  go_ret
  exact ⟨ret_bool HF.out.symm, hB1⟩
 have e2 := txt_f (l := [100, 101, 102, 105, 110, 101, 100]) hd
 have q1 : w1.cell? ⟨w.heap.size, 1, none⟩ = some (.bool m.function) := cell_of_row _ _ 1 _ _ _ HX.out
 have q2 : w1.cell? ⟨w.heap.size, 2, none⟩ = some (.slice a2 m.params.length cap2) := cell_of_row _ _ 2 _ _ _ HX.out
 have q3 : w1.cell? ⟨w.heap.size, 3, none⟩ = some (.slice a3 m.body.length cap3) := cell_of_row _ _ 3 _ _ _ HX.out
 cases hf : m.function
 ·have HM := Lib.hid (mi_no h1 hd hf)
  rw [hf] at q1
  clear h1 hd hf
  by_cases hz : m.params.length = 0
  ·have hz1 : ((m.params.length : Int) == 0) = true := by rw [hz]; rfl
   rw [decide_eq_true hz, Bool.true_and] at HM
   clear hz
   go_wp2_with fail
   refine (HB.out _ hB1).mono ?_
   rintro e w2 ⟨rfl, hb2⟩
   go_wp2
   go_ret
   exact ⟨ret_bool HM.out.symm, hB1.trans (hb2.mono hB1.size)⟩
  ·have hz1 : ((m.params.length : Int) == 0) = false := by simp; intro h; exact hz (by simp [h])
   rw [decide_eq_false hz, Bool.false_and] at HM
   clear hz
   go_wp2
   go_ret
   exact ⟨ret_bool HM.out.symm, hB1⟩
 ·have HM := Lib.hid (mi_yes h1 hd hf)
  have HF := Lib.hid hf
  rw [hf] at q1
  clear h1 hd hf
  go_wp2_with fail
  refine (HP.out _ hB1).mono ?_
  rintro e w2 ⟨rfl, hb2⟩
  have hB2 := hB1.trans (hb2.mono hB1.size)
  cases hp : parsOk m.params
  ·rw [hp, Bool.false_and, Bool.false_and] at HM
   clear hp q0 q1 q2 q3
   go_wp2
   go_ret
   exact ⟨ret_bool HM.out.symm, hB2⟩
  ·rw [hp, Bool.true_and] at HM
   replace HX := Lib.hid ((hb2.block _ (Array.getElem?_eq_some_iff.1 HX.out).1).trans HX.out)
   clear hp q0 q1 q2 q3
   have q3 : w2.cell? ⟨w.heap.size, 3, none⟩ = some (.slice a3 m.body.length cap3) := cell_of_row _ _ 3 _ _ _ HX.out
   go_wp2_with fail
   refine (HB.out _ hB2).mono ?_
   rintro e w3 ⟨rfl, hb3⟩
   have hB3 := hB2.trans (hb3.mono hB2.size)
   cases hb : bodyOkI m.body
   ·rw [hb, Bool.false_and] at HM
    clear hb q3
    go_wp2
    go_ret
    exact ⟨ret_bool HM.out.symm, hB3⟩
   ·have hl := mi_big hb
    rw [hb, Bool.true_and] at HM
    replace HX := Lib.hid ((hb3.block _ (Array.getElem?_eq_some_iff.1 HX.out).1).trans HX.out)
    clear hb q3
    have q0 : w3.cell? ⟨w.heap.size, 0, none⟩ = some (.string m.name) := cell_of_row _ _ 0 _ _ _ HX.out
    have q1 : w3.cell? ⟨w.heap.size, 1, none⟩ = some (.bool m.function) := cell_of_row _ _ 1 _ _ _ HX.out
    have q2 : w3.cell? ⟨w.heap.size, 2, none⟩ = some (.slice a2 m.params.length cap2) := cell_of_row _ _ 2 _ _ _ HX.out
    have q3 : w3.cell? ⟨w.heap.size, 3, none⟩ = some (.slice a3 m.body.length cap3) := cell_of_row _ _ 3 _ _ _ HX.out
    have HS' := Lib.hid (fun W hW => HS.out W (by omega) hW)
    clear hl
    go_wp2_with fail
    refine (HS'.out _ hB3).mono ?_
    rintro e w4 ⟨rfl, hb4⟩
    go_wp2
    go_ret
    exact ⟨ret_bool HM.out.symm, hB3.trans (hb4.mono hB3.size)⟩

end Go.Proofs.YtlegeancmcmbaaaDoor

/- A region that draws its order, walked by an invariant over what is done; and one in which all only reads but a literal, an append of it, and the store of the result. Over any program. -/
namespace Go.Proofs.YtlegeancmcmbaaaDoor
open Go.RowKit

theorem wp_region_inv {P : Program} {ops : Array Oper} {Q : Exit → Act → World → Prop} {id : Nat} {a : Act} {w : World} (hm : P.follows .mixedOrders = true) (hok : regionOk ops = true)
  (J : Array Bool → List Value → World → Prop)
  (hJ : J (Array.replicate ops.size false) (origs a (ops.toList.map (·.dst))) { w with drawn := w.drawn + 1 })
  (step : ∀ (i : Nat) (o : Oper), ops[i]? = some o → ∀ (L : Array Bool) (xs : List Value) (w' : World), L.size = ops.size → xs.length = ops.size → L.getD i false = false →
   (∀ e ∈ o.after, Region.binds .any e = true → L.getD e.on false = true) → J L xs w' →
   ∀ K : Act → World → Prop, (∀ v w'', J (L.setIfInBounds i true) (xs.set i v) w'' → K ((fill a (ops.toList.map (·.dst)) xs).put o.dst v) w'') → wpList P ops (Sw K) [o] (fill a (ops.toList.map (·.dst)) xs) w')
  (done : ∀ (L : Array Bool) (xs : List Value) (w' : World), xs.length = ops.size → (∀ i, i < ops.size → L.getD i false = true) → J L xs w' → Q .normal (fill a (ops.toList.map (·.dst)) xs) w') :
  (Code.region id ops true).wp P Q a w := by
 refine wp_region_any hm ?_
 have hd : apartDsts (ops.toList.map (·.dst)) = true := by unfold regionOk at hok; rw [Bool.and_eq_true] at hok; exact hok.1
 have hlist : ∀ (L : Array Bool), L.size = ops.size → Region.ready .any ops L = [] → ∀ i, i < ops.size → L.getD i false = true := by
  intro L hL hr i
  induction i using Nat.strongRecOn with
  |
   ind i ih =>
   intro hi
   cases hb : L.getD i false with
   | true => rfl
   |
    false =>
    exfalso
    have hm : i ∈ Region.ready .any ops L := by
     rw [mem_ready]
     exact ⟨getD_tf (by omega) hb, ops[i], Array.getElem?_eq_getElem hi, fun e he _ => by
      have hlt := regionOk_after hok (Array.getElem?_eq_getElem hi) e he
      exact ih e.on hlt (by omega)⟩
    rw [hr] at hm
    cases hm
 have main : ∀ (fuel : Nat) (L : Array Bool) (b : Act) (w' : World) (xs : List Value), fuel + cnt ops.size L = ops.size → L.size = ops.size → xs.length = ops.size → b = fill a (ops.toList.map (·.dst)) xs → J L xs w' → wpAny P .any ops Q fuel L b w' := by
  intro fuel
  induction fuel with
  |
   zero =>
   intro L b w' xs hf hs hx hb hI
   have hall : ∀ i, i < ops.size → L.getD i false = true := fun i hi => by
    cases hb : L.getD i false with
    | true => rfl
    | false => have := cnt_lt hi hb; omega
   refine ⟨?_, ?_⟩
   ·cases hr : Region.ready .any ops L with
    | nil => rfl
    |
     cons i r =>
     have hi : i ∈ Region.ready .any ops L := by rw [hr]; simp
     rw [mem_ready] at hi
     obtain ⟨h0, o, ho, _⟩ := hi
     have := hall i (Array.getElem?_eq_some_iff.1 ho).1
     rw [getD_ft h0] at this
     cases this
   ·rw [hb]; exact done L xs w' hx hall hI
  |
   succ fuel ih =>
   intro L b w' xs hf hs hx hb hI
   refine ⟨fun hr => ?_, fun i hi => ?_⟩
   ·rw [hb]; exact done L xs w' hx (hlist L hs hr) hI
   ·obtain ⟨h0, o, ho, hafter⟩ := mem_ready.1 hi
    have hlt := (Array.getElem?_eq_some_iff.1 ho).1
    refine sw_op ho ?_
    rw [hb]
    refine step i o ho L xs w' hs hx (getD_ft h0) hafter hI _ (fun v w'' h1 => ?_)
    have hds : (ops.toList.map (·.dst))[i]? = some o.dst := by simp [ho]
    rw [fill_put _ hd _ _ i _ _ (by simpa using hx) hds]
    have hset : cnt ops.size (L.setIfInBounds i true) = cnt ops.size L + 1 := cnt_set hlt hs h0
    exact ih _ _ _ (xs.set i v) (by omega) (by simpa using hs) (by simpa using hx) rfl h1
 refine main ops.size _ _ _ (origs a (ops.toList.map (·.dst))) ?_ (by simp) (by simp [origs]) (fill_self _ a).symm hJ
 have hz : ∀ i, (Array.replicate ops.size false).getD i false = false := by intro i; simp [Array.getD]
 have hc : cnt ops.size (Array.replicate ops.size false) = 0 := by
  unfold cnt
  rw [List.countP_eq_zero]
  intro i _; simp only [hz i]; simp
 rw [hc]; omega

structure AppJ (n ia ib ic : Nat) (vals : List (Option Value)) (va : Value) (og : List Value) (w0 w1 : World) (App Fin : Value → World → Prop) (L : Array Bool) (xs : List Value) (w : World) : Prop where
 con : ∀ i, i < n → i ≠ ia → i ≠ ib → i ≠ ic → L.getD i false = true → ∀ u, vals[i]? = some (some u) → xs[i]? = some u
 a : L.getD ia false = true → xs[ia]? = some va
 ab : L.getD ib false = true → L.getD ia false = true
 bc : L.getD ic false = true → L.getD ib false = true
 s0 : L.getD ia false = false → w = w0
 s1 : L.getD ia false = true → L.getD ib false = false → w = w1
 s2 : L.getD ib false = true → L.getD ic false = false → ∃ v, xs[ib]? = some v ∧ App v w
 s3 : L.getD ic false = true → ∃ v, xs[ib]? = some v ∧ Fin v w
 old : ∀ i, i < n → L.getD i false = false → xs[i]? = og[i]?
 fin : L.getD ic false = true → ∀ i, i < n → L.getD i false = true

theorem sw_skip {P : Program} {ops : Array Oper} {K : Act → World → Prop} {o : Oper} {a : Act} {w : World} (hw : Region.wanted o (yielded ops a.tmps) = false) (h : K (a.put o.dst undef) w) : wpList P ops (Sw K) [o] a w := by
 unfold wpList
 rw [if_neg (by simp [hw])]
 exact h
def ConOk (P : Program) (ops : Array Oper) (a : Act) (vals : List (Option Value)) (Base : World → Prop) (ia ib ic i : Nat) (o : Oper) : Prop :=
 ∀ (xs : List Value) (w' : World), xs.length = ops.size → xs[i]? = (origs a (ops.toList.map (·.dst)))[i]? → (∀ e ∈ o.after, Region.binds .any e = true → e.on ≠ ia → e.on ≠ ib → e.on ≠ ic → ∀ u, vals[e.on]? = some (some u) → xs[e.on]? = some u) → Base w' →
  ∀ K : Act → World → Prop, (∀ v, (∀ u, vals[i]? = some (some u) → v = u) → K ((fill a (ops.toList.map (·.dst)) xs).put o.dst v) w') → wpList P ops (Sw K) [o] (fill a (ops.toList.map (·.dst)) xs) w'
def ConsFrom (P : Program) (ops : Array Oper) (a : Act) (vals : List (Option Value)) (Base : World → Prop) (ia ib ic : Nat) : Nat → List Oper → Prop
 | _, [] => True
 | k, o :: os => (k = ia ∨ k = ib ∨ k = ic ∨ ConOk P ops a vals Base ia ib ic k o) ∧ ConsFrom P ops a vals Base ia ib ic (k + 1) os
theorem cons_of {P : Program} {ops : Array Oper} {a : Act} {vals : List (Option Value)} {Base : World → Prop} {ia ib ic : Nat} : ∀ (l : List Oper) (k : Nat), (∀ j, l[j]? = ops[k + j]?) → ConsFrom P ops a vals Base ia ib ic k l → ∀ i o, k ≤ i → ops[i]? = some o → i = ia ∨ i = ib ∨ i = ic ∨ ConOk P ops a vals Base ia ib ic i o := by
 intro l
 induction l with
 |
  nil =>
  intro k h _ i o hk hi
  have := h (i - k)
  rw [show k + (i - k) = i by omega, hi] at this
  simp at this
 |
  cons x l ih =>
  intro k h hs i o hk hi
  by_cases e : i = k
  ·subst e
   have h0 := h 0
   rw [Nat.add_zero, hi] at h0
   simp only [List.getElem?_cons_zero, Option.some.injEq] at h0
   subst h0
   exact hs.1
  ·exact ih (k + 1) (fun j => by have := h (j + 1); rw [List.getElem?_cons_succ] at this; rw [this]; congr 1; omega) hs.2 i o (by omega) hi
theorem cons_all {P : Program} {ops : Array Oper} {a : Act} {vals : List (Option Value)} {Base : World → Prop} {ia ib ic : Nat} (h : ConsFrom P ops a vals Base ia ib ic 0 ops.toList) :
  ∀ i o, ops[i]? = some o → i = ia ∨ i = ib ∨ i = ic ∨ ConOk P ops a vals Base ia ib ic i o := fun i o hi => cons_of ops.toList 0 (fun j => by simp) h i o (Nat.zero_le _) hi

theorem wp_region_app {P : Program} {ops : Array Oper} {Q : Exit → Act → World → Prop} {id : Nat} {a : Act} {w : World} (hm : P.follows .mixedOrders = true) (hok : regionOk ops = true)
  (ia ib ic : Nat) (hab : ((ops[ib]?).map fun o => o.after.any fun e => Region.binds .any e && e.on == ia) = some true) (hcov : ((ops[ic]?).map fun o => covers o ic ops.size) = some true)
  (hne : ia ≠ ib ∧ ib ≠ ic ∧ ia ≠ ic) (hlt : ia < ops.size ∧ ib < ops.size ∧ ic < ops.size) {oA oB oC : Oper} (hA : ops[ia]? = some oA) (hB : ops[ib]? = some oB) (hC : ops[ic]? = some oC)
  (vals : List (Option Value)) (va : Value) (w1 : World) (App Fin : Value → World → Prop) (Base : World → Prop)
  (hb0 : Base { w with drawn := w.drawn + 1 }) (hb1 : Base w1) (hb2 : ∀ v w2, App v w2 → Base w2)
  (con : ∀ (i : Nat) (o : Oper), ops[i]? = some o → i = ia ∨ i = ib ∨ i = ic ∨ ConOk P ops a vals Base ia ib ic i o)
  (stA : ∀ xs : List Value, xs.length = ops.size → (∀ e ∈ oA.after, Region.binds .any e = true → e.on ≠ ia → e.on ≠ ib → e.on ≠ ic → ∀ u, vals[e.on]? = some (some u) → xs[e.on]? = some u) →
   ∀ K : Act → World → Prop, K ((fill a (ops.toList.map (·.dst)) xs).put oA.dst va) w1 → wpList P ops (Sw K) [oA] (fill a (ops.toList.map (·.dst)) xs) { w with drawn := w.drawn + 1 })
  (stB : ∀ xs : List Value, xs.length = ops.size → (∀ e ∈ oB.after, Region.binds .any e = true → e.on ≠ ia → e.on ≠ ib → e.on ≠ ic → ∀ u, vals[e.on]? = some (some u) → xs[e.on]? = some u) → xs[ia]? = some va →
   ∀ K : Act → World → Prop, (∀ v w2, App v w2 → K ((fill a (ops.toList.map (·.dst)) xs).put oB.dst v) w2) → wpList P ops (Sw K) [oB] (fill a (ops.toList.map (·.dst)) xs) w1)
  (stC : ∀ (xs : List Value) (v : Value) (w2 : World), xs.length = ops.size → (∀ e ∈ oC.after, Region.binds .any e = true → e.on ≠ ia → e.on ≠ ib → e.on ≠ ic → ∀ u, vals[e.on]? = some (some u) → xs[e.on]? = some u) → xs[ib]? = some v → App v w2 →
   ∀ K : Act → World → Prop, (∀ u w3, Fin v w3 → K ((fill a (ops.toList.map (·.dst)) xs).put oC.dst u) w3) → wpList P ops (Sw K) [oC] (fill a (ops.toList.map (·.dst)) xs) w2)
  (done : ∀ (xs : List Value) (v : Value) (w' : World), xs.length = ops.size → (∀ i, i < ops.size → i ≠ ia → i ≠ ib → i ≠ ic → ∀ u, vals[i]? = some (some u) → xs[i]? = some u) → xs[ia]? = some va → xs[ib]? = some v → Fin v w' → Q .normal (fill a (ops.toList.map (·.dst)) xs) w') :
  (Code.region id ops true).wp P Q a w := by
 obtain ⟨n1, n2, n3⟩ := hne
 obtain ⟨l1, l2, l3⟩ := hlt
 refine wp_region_inv hm hok (AppJ ops.size ia ib ic vals va (origs a (ops.toList.map (·.dst))) { w with drawn := w.drawn + 1 } w1 App Fin) ?_ ?_ ?_
 ·have hz : ∀ i, (Array.replicate ops.size false).getD i false = false := by intro i; simp [Array.getD]
  have hf : ∀ i, (Array.replicate ops.size false).getD i false = true → False := fun i h => by rw [hz] at h; cases h
  exact ⟨fun i _ _ _ _ h => (hf i h).elim, fun h => (hf _ h).elim, fun h => (hf _ h).elim, fun h => (hf _ h).elim, fun _ => rfl, fun h _ => (hf _ h).elim, fun h _ => (hf _ h).elim, fun h => (hf _ h).elim, fun _ _ _ => rfl, fun h => (hf _ h).elim⟩
 ·intro i o ho L xs w' hs hx hL hafter hJ K hK
  have hi := (Array.getElem?_eq_some_iff.1 ho).1
  have hdep : ∀ e ∈ o.after, Region.binds .any e = true → e.on ≠ ia → e.on ≠ ib → e.on ≠ ic → ∀ u, vals[e.on]? = some (some u) → xs[e.on]? = some u := fun e he hb h1 h2 h3 => by
   have hdone := hafter e he hb
   have hsz : e.on < ops.size := by
    have := regionOk_after hok ho e he
    omega
   exact hJ.con e.on hsz h1 h2 h3 hdone
  have hp : ∀ j, (L.setIfInBounds i true).getD j false = (decide (j = i) || L.getD j false) := fun j => getD_put (by rw [hs]; exact hi)
  have hxs : ∀ (v : Value) (j : Nat), j ≠ i → (xs.set i v)[j]? = xs[j]? := fun v j hj => List.getElem?_set_ne (fun h => hj h.symm)
  have hxi : ∀ (v : Value), (xs.set i v)[i]? = some v := fun v => List.getElem?_set_self (by omega)
  have hold : ∀ (v : Value) (j : Nat), j < ops.size → (L.setIfInBounds i true).getD j false = false → (xs.set i v)[j]? = (origs a (ops.toList.map (·.dst)))[j]? := fun v j hj hf => by
   rw [hp, Bool.or_eq_false_iff, decide_eq_false_iff_not] at hf
   rw [hxs v j hf.1]
   exact hJ.old j hj hf.2
  by_cases ea : i = ia
  ·subst ea
   have hA' := hA
   have hbf : L.getD ib false = false := by
    cases h : L.getD ib false
    ·rfl
    ·rw [hJ.ab h] at hL; cases hL
   have hcf : L.getD ic false = false := by
    cases h : L.getD ic false
    ·rfl
    ·rw [hJ.bc h] at hbf; cases hbf
   obtain rfl := hJ.s0 hL
   rw [hA] at ho; cases ho
   refine stA xs hx hdep K (hK va w1 ⟨?_, fun _ => hxi va, fun _ => by rw [hp]; simp, fun h => ?_, fun h => ?_, fun _ _ => rfl, fun h => ?_, fun h => ?_, hold va, fun h => ?_⟩)
   ·intro j hj h1 h2 h3 hd u hu
    rw [hp, Bool.or_eq_true, decide_eq_true_eq] at hd
    rw [hxs _ _ h1]
    exact hJ.con j hj h1 h2 h3 (hd.resolve_left h1) u hu
   ·rw [hp, hcf] at h; simp at h; exact absurd h.symm n3
   ·rw [hp] at h; simp at h
   ·rw [hp, hbf] at h; simp at h; exact absurd h.symm n1
   ·rw [hp, hcf] at h; simp at h; exact absurd h.symm n3
   ·rw [hp, hcf] at h; simp at h; exact absurd h.symm n3
  ·by_cases eb : i = ib
   ·subst eb
    obtain ⟨e, he, hbd, hon⟩ : ∃ e ∈ o.after, Region.binds .any e = true ∧ e.on = ia := by
     rw [ho, Option.map_some, Option.some.injEq, Array.any_eq_true'] at hab
     obtain ⟨e, h1, h2⟩ := hab
     rw [Bool.and_eq_true, beq_iff_eq] at h2
     exact ⟨e, h1, h2.1, h2.2⟩
    have hat : L.getD ia false = true := hon ▸ hafter e he hbd
    have hcf : L.getD ic false = false := by
     cases h : L.getD ic false
     ·rfl
     ·rw [hJ.bc h] at hL; cases hL
    obtain rfl := hJ.s1 hat hL
    rw [hB] at ho; cases ho
    refine stB xs hx hdep (hJ.a hat) K (fun v w2 hApp => hK v w2 ⟨?_, fun _ => ?_, fun _ => ?_, fun h => ?_, fun h => ?_, fun _ h => ?_, fun _ _ => ⟨v, hxi v, hApp⟩, fun h => ?_, hold v, fun h => ?_⟩)
    ·intro j hj h1 h2 h3 hd u hu
     rw [hp, Bool.or_eq_true, decide_eq_true_eq] at hd
     rw [hxs _ _ h2]
     exact hJ.con j hj h1 h2 h3 (hd.resolve_left h2) u hu
    ·rw [hxs _ _ n1]; exact hJ.a hat
    ·rw [hp, hat]; simp
    ·rw [hp, hcf] at h; simp at h; exact absurd h.symm n2
    ·rw [hp, hat] at h; simp at h
    ·rw [hp] at h; simp at h
    ·rw [hp, hcf] at h; simp at h; exact absurd h.symm n2
    ·rw [hp, hcf] at h; simp at h; exact absurd h.symm n2
   ·by_cases ec : i = ic
    ·subst ec
     have hall : ∀ j, j < ops.size → j ≠ i → L.getD j false = true := fun j hj hji => by
      have hc := hcov
      rw [ho, Option.map_some, Option.some.injEq] at hc
      unfold covers at hc
      rw [List.all_eq_true] at hc
      have := hc j (by simpa using hj)
      rw [Bool.or_eq_true, beq_iff_eq] at this
      rcases this with h | h
      ·exact absurd h hji
      ·rw [Array.any_eq_true'] at h
       obtain ⟨d, hd1, hd2⟩ := h
       rw [Bool.and_eq_true, beq_iff_eq] at hd2
       rw [← hd2.2]; exact hafter d hd1 hd2.1
     have hbt : L.getD ib false = true := hall ib l2 n2
     have hat := hJ.ab hbt
     obtain ⟨v, hv, hApp⟩ := hJ.s2 hbt hL
     rw [hC] at ho; cases ho
     refine stC xs v w' hx hdep hv hApp K (fun u w3 hF => hK u w3 ⟨?_, fun _ => ?_, fun _ => ?_, fun _ => ?_, fun h => ?_, fun _ h => ?_, fun _ h => ?_, fun _ => ⟨v, ?_, hF⟩, hold u, fun _ j hj => ?_⟩)
     ·intro j hj h1 h2 h3 hd u hu
      rw [hp, Bool.or_eq_true, decide_eq_true_eq] at hd
      rw [hxs _ _ h3]
      exact hJ.con j hj h1 h2 h3 (hd.resolve_left h3) u hu
     ·rw [hxs _ _ n3]; exact hJ.a hat
     ·rw [hp, hat]; simp
     ·rw [hp, hbt]; simp
     ·rw [hp, hat] at h; simp at h
     ·rw [hp, hbt] at h; simp at h
     ·rw [hp] at h; simp at h
     ·rw [hxs _ _ n2]; exact hv
     ·rw [hp, Bool.or_eq_true, decide_eq_true_eq]
      by_cases e : j = i
      ·exact .inl e
      ·exact .inr (hall j hj e)
    ·have hbase : Base w' := by
      cases hA : L.getD ia false
      ·rw [hJ.s0 hA]; exact hb0
      ·cases hB : L.getD ib false
       ·rw [hJ.s1 hA hB]; exact hb1
       ·cases hC : L.getD ic false
        ·obtain ⟨v, _, h⟩ := hJ.s2 hB hC; exact hb2 v _ h
        ·rw [hJ.fin hC i hi] at hL; cases hL
     have hpa : (L.setIfInBounds i true).getD ia false = L.getD ia false := by rw [hp, decide_eq_false (fun h => ea h.symm), Bool.false_or]
     have hpb : (L.setIfInBounds i true).getD ib false = L.getD ib false := by rw [hp, decide_eq_false (fun h => eb h.symm), Bool.false_or]
     have hpc : (L.setIfInBounds i true).getD ic false = L.getD ic false := by rw [hp, decide_eq_false (fun h => ec h.symm), Bool.false_or]
     refine ((((con i o ho).resolve_left ea).resolve_left eb).resolve_left ec) xs w' hx (hJ.old i hi hL) hdep hbase K (fun v hv => hK v w' ⟨?_, fun h => ?_, fun h => ?_, fun h => ?_, fun h => ?_, fun h1 h2 => ?_, fun h1 h2 => ?_, fun h => ?_, hold v, fun h => ?_⟩)
     ·intro j hj h1 h2 h3 hd u hu
      by_cases ej : j = i
      ·subst ej; rw [hxi, hv u hu]
      ·rw [hp, Bool.or_eq_true, decide_eq_true_eq] at hd
       rw [hxs _ _ ej]
       exact hJ.con j hj h1 h2 h3 (hd.resolve_left ej) u hu
     ·rw [hpa] at h; rw [hxs _ _ (fun h => ea h.symm)]; exact hJ.a h
     ·rw [hpb] at h; rw [hpa]; exact hJ.ab h
     ·rw [hpc] at h; rw [hpb]; exact hJ.bc h
     ·rw [hpa] at h; exact hJ.s0 h
     ·rw [hpa] at h1; rw [hpb] at h2; exact hJ.s1 h1 h2
     ·rw [hpb] at h1; rw [hpc] at h2; rw [hxs _ _ (fun h => eb h.symm)]; exact hJ.s2 h1 h2
     ·rw [hpc] at h; rw [hxs _ _ (fun h => eb h.symm)]; exact hJ.s3 h
     ·rw [hpc] at h; rw [hJ.fin h i hi] at hL; cases hL
 ·intro L xs w' hx hall hJ
  obtain ⟨v, hv, hF⟩ := hJ.s3 (hall ic l3)
  exact done xs v w' hx (fun i hi h1 h2 h3 => hJ.con i hi h1 h2 h3 (hall i hi)) (hJ.a (hall ia l1)) hv hF

end Go.Proofs.YtlegeancmcmbaaaDoor

/- What a function with a struct and another result hands back; boxes. Over any program. -/
namespace Go.Proofs.YtlegeancmcmbaaaDoor
open Go.RowKit

theorem results_cell2 {P : Program} {fn : Func} {p u : Tmp} {ty : TypeId} (h : fn.results = #[.cell p ty, .tmp u]) (tmps : Array Value) (w : World) (g : Nat) (t : TypeId) (cs : Array Value) (fr : Nat × Nat) (d : TypeDesc)
  (hp : tmps.getD p undef = .pointer (some ⟨g, 0, none⟩)) (hg : w.heap[g]? = some (.cells cs t fr))
  (hu : P.underlying ty = some d) (hd : (match d with | .struct _ | .array _ _ => true | _ => false) = true) (hi : (P.info? ty).map (·.size) = some cs.size) :
  (results fn tmps).run P w = .ok (.tuple #[.agg cs, tmps.getD u undef]) w := by
 have hp' : tmps[p]?.getD undef = .pointer (some ⟨g, 0, none⟩) := by simpa using hp
 rw [results_cell_tmp h]
 simp [hp', asAddr, run_loadVar_row w g t ty cs fr d hg hu hd hi, Result.andThen]

theorem mbox {w : World} {g : Nat} {arr : Array Value} {ty : TypeId} (h : w.heap[g]? = some (.cells arr ty (0, 0))) {w' : World} (hb : Below w.heap.size w w') : w'.heap[g]? = some (.cells arr ty (0, 0)) :=
 (hb.block g (Array.getElem?_eq_some_iff.1 h).1).trans h
theorem mlt {w : World} {g : Nat} {o : Obj} (h : w.heap[g]? = some o) : g < w.heap.size := (Array.getElem?_eq_some_iff.1 h).1

end Go.Proofs.YtlegeancmcmbaaaDoor

/- MacroOf of the model. (Made by gen_mac10.py.) -/
namespace Go.Proofs.YtlegeancmcmbaaaDoor
open Go.RowKit

/-! ### The model's theorem, way by way -/
theorem of_no {l : List Tok} (h : toksOk l = false) : macOf l = (zeroMac, false) := by unfold macOf; rw [dif_neg (fun x => by rw [h] at x; exact absurd x.1 (by simp))]
theorem of_nil {l : List Tok} (h : ¬ 0 < l.length) : macOf l = (zeroMac, false) := by unfold macOf; rw [dif_neg (fun x => h x.2)]
theorem of_plain {l : List Tok} (h : toksOk l = true) (h0 : 0 < l.length) (ho : opens2 l = false) : macOf l = macChk ⟨l[0].text, false, [], bodyFrom l 1⟩ := by unfold macOf; rw [dif_pos ⟨h, h0⟩, if_neg (by simp [ho])]
theorem of_pno {l : List Tok} (h : toksOk l = true) (h0 : 0 < l.length) (ho : opens2 l = true) (hp : parsOf l = none) : macOf l = (zeroMac, false) := by unfold macOf; rw [dif_pos ⟨h, h0⟩, if_pos ho, hp]
theorem of_pars {l : List Tok} (h : toksOk l = true) (h0 : 0 < l.length) (ho : opens2 l = true) {p : List ByteArray × Nat} (hp : parsOf l = some p) : macOf l = macChk ⟨l[0].text, true, p.1, bodyFrom l p.2⟩ := by unfold macOf; rw [dif_pos ⟨h, h0⟩, if_pos ho, hp]
theorem chk_no {m : DMacro} (h : macOk m = false) : macChk m = (zeroMac, false) := by unfold macChk; rw [if_neg (by simp [h])]
theorem chk_yes {m : DMacro} (h : macOk m = true) : macChk m = (m, true) := by unfold macChk; rw [if_pos h]
theorem pat_le (l : List Tok) (k : Nat) : ∀ p, parsAt l k = some p → p.2 ≤ l.length := by
 induction k using parsAt.induct (l := l) with
 | case1 k h h1 h2 => intro p hp; rw [pa_close h h1 h2] at hp; cases hp; show k + 2 ≤ _; omega
 |
  case2 k h h1 h2 h3 ih =>
  intro p hp
  rw [pa_comma h h1 h2 h3, Option.map_eq_some_iff] at hp
  obtain ⟨q, hq, rfl⟩ := hp
  exact ih q hq
 | case3 k h h1 h2 h3 => intro p hp; rw [pa_other h h1 h2 h3] at hp; cases hp
 | case4 k h h1 => intro p hp; rw [pa_kind h h1] at hp; cases hp
 | case5 k h => intro p hp; rw [pa_end h] at hp; cases hp
theorem pars_le {l : List Tok} {p : List ByteArray × Nat} (h : parsOf l = some p) : p.2 ≤ l.length := by
 unfold parsOf at h
 split at h
 ·split at h
  ·cases h; show 3 ≤ _; omega
  ·exact pat_le l 2 p h
 ·cases h
theorem op_short {l : List Tok} (h : ¬ 1 < l.length) : opens2 l = false := by unfold opens2; rw [dif_neg h]
theorem op_other {l : List Tok} (h : 1 < l.length) (h1 : l[1].text ≠ openB) : opens2 l = false := by unfold opens2; rw [dif_pos h, decide_eq_false h1]; rfl
theorem op_spaced {l : List Tok} (h : 1 < l.length) (h1 : l[1].spaced = true) : opens2 l = false := by unfold opens2; rw [dif_pos h, h1]; simp
theorem op_yes {l : List Tok} (h : 1 < l.length) (h1 : l[1].text = openB) (h2 : l[1].spaced = false) : opens2 l = true := by unfold opens2; rw [dif_pos h, decide_eq_true h1, h2]; rfl
theorem body_take {l : List Tok} {n k : Nat} (h1 : n ≤ k) (h2 : k < l.length) : (bodyFrom l n).take (k + 1 - n) = (bodyFrom l n).take (k - n) ++ [⟨l[k].kind, l[k].text, l[k].spaced && decide (n < k), []⟩] := by
 have hl : (bodyFrom l n).length = l.length - n := bodyFrom_len l n
 have hk : k - n < (bodyFrom l n).length := by omega
 rw [show k + 1 - n = k - n + 1 by omega, List.take_succ_eq_append_getElem hk, bodyFrom_get]
 have e : n + (k - n) = k := by omega
 simp only [e]
 have e2 : decide (0 < k - n) = decide (n < k) := decide_eq_decide.2 (by omega)
 rw [e2]

def MOf (l : List Tok) (w : World) (e : Ending) (w' : World) : Prop :=
 ∃ (cs : List Value) (fp : List Nat), e = .returned (.tuple #[.agg cs.toArray, .bool (macOf l).2]) ∧ sMacro.R w' cs (macOf l).1 fp ∧ Own w' w.heap.size fp ∧ Below w.heap.size w w'
theorem mof_no {l : List Tok} {w w' : World} (h : macOf l = (zeroMac, false)) (hb : Below w.heap.size w w') : MOf l w (.returned (.tuple #[.agg #[.string ⟨#[]⟩, .bool false, .slice none 0 0, .slice none 0 0], .bool false])) w' :=
 ⟨[.string ⟨#[]⟩, .bool false, .slice none 0 0, .slice none 0 0], [], by rw [h], by rw [h]; exact ⟨_, _, [], [], rfl, by show (0 : Nat) ≤ _; simp [maxLen], slice_empty sStr _ _ _ (by simp), slice_empty sTok _ _ _ (by simp), rfl⟩, Own.nil _ _, hb⟩
theorem mof_yes {l : List Tok} {m : DMacro} {w w' : World} {cs : List Value} {fp : List Nat} (h : macOf l = (m, true)) (hR : sMacro.R w' cs m fp) (ho : Own w' w.heap.size fp) (hb : Below w.heap.size w w') : MOf l w (.returned (.tuple #[.agg cs.toArray, .bool true])) w' :=
 ⟨cs, fp, by rw [h], by rw [h]; exact hR, ho, hb⟩
theorem rowE_own {α : Type} {S : Shape α} {base : Nat} {e : TypeId} {v : Value} {L : List (Elem α)} {w : World} (h : RowE S base e v L w) (hf : ∀ x ∈ L, x.fp = []) : ∃ fp, (sSlice S).R w [v] (L.map (·.d)) fp ∧ Own w base fp := by
 obtain ⟨fp, h1, _, h3⟩ := slice_of_row h.row fun x hx => ⟨h.len x hx, h.el x hx⟩
 have e0 : L.flatMap (·.fp) = [] := by rw [List.flatMap_eq_nil_iff]; exact hf
 rw [e0] at h3
 exact ⟨fp, h1, h3 (Own.nil _ _) (by simp)⟩

set_option maxHeartbeats 32000000 in
set_option maxRecDepth 100000 in
theorem spec_MacroOf (v : Value) (l : List Tok) (fp : List Nat) (w : World) (hl : l.length ≤ 1048576) (hx : ∀ k, (hk : k < l.length) → l[k].hidden.length ≤ 2000000) (H : (sSlice sTok).R w [v] l fp) :
  Calls Tryd.prog 66 #[v] w (MOf l w) := by
 have hz0 := alloc_below' w (.cells #[.string ⟨#[]⟩, .bool false, .slice none 0 0, .slice none 0 0] 79)
 have HZ := Lib.hid (heap_alloc_new w (.cells #[.string ⟨#[]⟩, .bool false, .slice none 0 0, .slice none 0 0] 79))
 have HCP := Lib.hid (spec_l1OwnTokenList v l fp _ hl hx ((sSlice sTok).below H hz0))
 clear H hx
 go_enter Tryd.func66, Tryd.ntmps66
 go_wp2_with fail
 refine HCP.out.mono ?_
 rintro e w1 ⟨v1, fp1, rfl, HL, hb1⟩
 have hB1 := hz0.trans (hb1.mono hz0.size)
 replace HZ := Lib.hid (mbox HZ.out hb1)
 clear hb1 hz0 HCP
 have HV := Lib.hid (spec_TokensValid v1 l fp1 w1 HL)
 obtain ⟨a, cap, rfl, hc, hm, hrow⟩ := open_rows HL
 unfold maxLen at hm
 go_wp2_with fail
 refine HV.out.mono ?_
 rintro e w2 ⟨rfl, hb2⟩
 have hB2 := hB1.trans (hb2.mono hB1.size)
 replace HZ := Lib.hid (mbox HZ.out hb2)
 have HLL := Lib.hid ((sSlice sTok).below HL hb2)
 clear HL HV
 cases hv : toksOk l
 ·have HF := Lib.hid (of_no hv)
  clear hv
  have z0 : w2.cell? ⟨w.heap.size, 0, none⟩ = some (.string ⟨#[]⟩) := cell_of_row _ _ 0 _ _ _ HZ.out
  have zf0 : w2.frozen? ⟨w.heap.size, 0, none⟩ = false := frozen_of_row _ _ 0 _ _ HZ.out
  have z1 : w2.cell? ⟨w.heap.size, 1, none⟩ = some (.bool false) := cell_of_row _ _ 1 _ _ _ HZ.out
  have zf1 : w2.frozen? ⟨w.heap.size, 1, none⟩ = false := frozen_of_row _ _ 1 _ _ HZ.out
  have z2 : w2.cell? ⟨w.heap.size, 2, none⟩ = some (.slice none 0 0) := cell_of_row _ _ 2 _ _ _ HZ.out
  have zf2 : w2.frozen? ⟨w.heap.size, 2, none⟩ = false := frozen_of_row _ _ 2 _ _ HZ.out
  have z3 : w2.cell? ⟨w.heap.size, 3, none⟩ = some (.slice none 0 0) := cell_of_row _ _ 3 _ _ _ HZ.out
  have zf3 : w2.frozen? ⟨w.heap.size, 3, none⟩ = false := frozen_of_row _ _ 3 _ _ HZ.out
  have HS := Lib.hid (blk_set (blk_set (blk_set (blk_set HZ.out 0 (.string ⟨#[]⟩)) 1 (.bool false)) 2 (.slice none 0 0)) 3 (.slice none 0 0))
  have HBF := Lib.hid ((((hB2.setCell (p := ⟨w.heap.size, 0, none⟩) (Nat.le_refl _) (.string ⟨#[]⟩)).setCell (p := ⟨w.heap.size, 1, none⟩) (Nat.le_refl _) (.bool false)).setCell (p := ⟨w.heap.size, 2, none⟩) (Nat.le_refl _) (.slice none 0 0)).setCell (p := ⟨w.heap.size, 3, none⟩) (Nat.le_refl _) (.slice none 0 0))
  go_wp2
  refine bodyPost_ret (results_cell2 rfl _ _ w.heap.size _ _ _ _ rfl HS.out Tryd.underlying79 rfl (by kernel_rfl)) rfl ?_
  exact mof_no HF.out HBF.out
 by_cases h0 : 0 < l.length
 rotate_left
 ·have HF := Lib.hid (of_nil h0)
  have hz : l.length = 0 := by omega
  have hz1 : ((l.length : Int) == 0) = true := by simp [List.length_eq_zero_iff.1 hz]
  clear hv
  have z0 : w2.cell? ⟨w.heap.size, 0, none⟩ = some (.string ⟨#[]⟩) := cell_of_row _ _ 0 _ _ _ HZ.out
  have zf0 : w2.frozen? ⟨w.heap.size, 0, none⟩ = false := frozen_of_row _ _ 0 _ _ HZ.out
  have z1 : w2.cell? ⟨w.heap.size, 1, none⟩ = some (.bool false) := cell_of_row _ _ 1 _ _ _ HZ.out
  have zf1 : w2.frozen? ⟨w.heap.size, 1, none⟩ = false := frozen_of_row _ _ 1 _ _ HZ.out
  have z2 : w2.cell? ⟨w.heap.size, 2, none⟩ = some (.slice none 0 0) := cell_of_row _ _ 2 _ _ _ HZ.out
  have zf2 : w2.frozen? ⟨w.heap.size, 2, none⟩ = false := frozen_of_row _ _ 2 _ _ HZ.out
  have z3 : w2.cell? ⟨w.heap.size, 3, none⟩ = some (.slice none 0 0) := cell_of_row _ _ 3 _ _ _ HZ.out
  have zf3 : w2.frozen? ⟨w.heap.size, 3, none⟩ = false := frozen_of_row _ _ 3 _ _ HZ.out
  have HS := Lib.hid (blk_set (blk_set (blk_set (blk_set HZ.out 0 (.string ⟨#[]⟩)) 1 (.bool false)) 2 (.slice none 0 0)) 3 (.slice none 0 0))
  have HBF := Lib.hid ((((hB2.setCell (p := ⟨w.heap.size, 0, none⟩) (Nat.le_refl _) (.string ⟨#[]⟩)).setCell (p := ⟨w.heap.size, 1, none⟩) (Nat.le_refl _) (.bool false)).setCell (p := ⟨w.heap.size, 2, none⟩) (Nat.le_refl _) (.slice none 0 0)).setCell (p := ⟨w.heap.size, 3, none⟩) (Nat.le_refl _) (.slice none 0 0))
  go_wp2
  refine bodyPost_ret (results_cell2 rfl _ _ w.heap.size _ _ _ _ rfl HS.out Tryd.underlying79 rfl (by kernel_rfl)) rfl ?_
  exact mof_no HF.out HBF.out
 have hl60 := (toksOk_facts hv).1
 have hz1 : ((l.length : Int) == 0) = false := by simp; intro h; rw [h] at h0; exact absurd h0 (by simp)
 have hz2 : (0 : Int) < (l.length : Int) := by omega
 obtain ⟨b1, off1, fps1, rfl, hb1w, -, he1⟩ := hrow h0
 obtain ⟨nm, HNM⟩ : ∃ s : ByteArray, Hid (s = (l[0]'h0).text) := ⟨_, rfl⟩
 have HEL : Hid (∀ i, (hi : i < l.length) → ∃ hh, ElemAt w2 b1 off1 4 i [.int .i64 l[i].kind, .string l[i].text, .bool l[i].spaced, hh] ∧ okInt l[i].kind ∧ okStr l[i].text) := fun i hi => by
  obtain ⟨es, hE, hR⟩ := he1 i hi
  obtain ⟨hh, rfl, k1, k2, -⟩ := hR
  exact ⟨hh, hE.frame (hb2.block b1 hb1w), k1, k2⟩
 have hb1s : b1 < w2.heap.size := Nat.lt_of_lt_of_le hb1w hb2.size
 have hb1l : w1.heap.size ≤ w2.heap.size := hb2.size
 have okn : okStr nm := by rw [HNM.out]; obtain ⟨_, _, _, h⟩ := HEL.out 0 h0; exact h
 clear hrow he1 hb2
 have c01 : w2.cell? ⟨b1, off1 + 1, none⟩ = some (.string nm) := by
  rw [HNM.out]
  obtain ⟨hh, hE, _, _⟩ := HEL.out 0 h0
  have := elem_cell (i := 0) (j := 1) hE (by decide) rfl
  simpa using this
 have hbx := alloc_below' w2 (.cells #[.string nm, .bool false, .slice none 0 0, .slice none 0 0] 79)
 have HMX := Lib.hid (heap_alloc_new w2 (.cells #[.string nm, .bool false, .slice none 0 0, .slice none 0 0] 79))
 have hs2 : (w2.alloc (.cells #[.string nm, .bool false, .slice none 0 0, .slice none 0 0] 79)).heap.size = w2.heap.size + 1 := Array.size_push _
 have HS2 := Lib.hid hs2
 have hBX := hB2.trans (hbx.mono hB2.size)
 have HZX := Lib.hid (mbox HZ.out hbx)
 have hg0 := mlt HZ.out
 have HLX := Lib.hid ((sSlice sTok).below HLL.out hbx)
 have HVD := Lib.hid hv
 have HX1 : 1 < l.length → ((w2.alloc (.cells #[.string nm, .bool false, .slice none 0 0, .slice none 0 0] 79)).cell? ⟨b1, off1 + 4 + 1, none⟩ = some (.string (l[1]?.getD (⟨0, ⟨#[]⟩, false, []⟩ : Tok)).text) ∧ (w2.alloc (.cells #[.string nm, .bool false, .slice none 0 0, .slice none 0 0] 79)).cell? ⟨b1, off1 + 4 + 2, none⟩ = some (.bool (l[1]?.getD (⟨0, ⟨#[]⟩, false, []⟩ : Tok)).spaced)) := fun h1 => by
  obtain ⟨hh, hE, _, _⟩ := HEL.out 1 h1
  have hE' := hE.frame (hbx.block b1 hb1s)
  rw [List.getElem?_eq_getElem h1]
  exact ⟨by have := elem_cell (i := 1) (j := 1) hE' (by decide) rfl; simpa using this, by have := elem_cell (i := 1) (j := 2) hE' (by decide) rfl; simpa using this⟩
 replace HX1 := Lib.hid HX1
 clear hv hs2
 go_upto_region 6 with fail
 go_cut [41] from 25 to 41 (fun c wx => c = .bool (opens2 l) ∧ wx = (w2.alloc (.cells #[.string nm, .bool false, .slice none 0 0, .slice none 0 0] 79)))
 case first =>
  by_cases h1 : 1 < l.length
  ·have h11 : (1 : Int) < (l.length : Int) := by omega
   obtain ⟨c11, c12⟩ := HX1.out h1
   rw [List.getElem?_eq_getElem h1] at c11 c12
   simp only [Option.getD_some] at c11 c12
   by_cases h2 : l[1].text = openB
   ·have e2 := txt_t (l := [40]) h2
    cases h3 : l[1].spaced
    ·rw [h3] at c12
     have HO := Lib.hid (op_yes h1 h2 h3)
     clear h2 h3
     go_wp2
     go_meet
     case rel => exact ⟨by rw [HO.out], rfl⟩
    ·rw [h3] at c12
     have HO := Lib.hid (op_spaced h1 h3)
     clear h2 h3
     go_wp2
     go_meet
     case rel => exact ⟨by rw [HO.out], rfl⟩
   ·have e2 := txt_f (l := [40]) h2
    have HO := Lib.hid (op_other h1 h2)
    clear h2
    go_wp2
    go_meet
    case rel => exact ⟨by rw [HO.out], rfl⟩
  ·have h11 : ¬ (1 : Int) < (l.length : Int) := by omega
   have HO := Lib.hid (op_short h1)
   go_wp2
   go_meet
   case rel => exact ⟨by rw [HO.out], rfl⟩
 case rest =>
  obtain ⟨rfl, rfl⟩ := hcut
  go_upto_if 41 with fail
  go_cut [5] from 6 to 54 (fun c wx => ∃ (n : Nat) (fn : Bool) (ap : Option Addr) (cp : Nat) (ps : List ByteArray) (fpp : List Nat), c = .int .i64 n ∧ n ≤ l.length ∧ Hid (macOf l = macChk ⟨nm, fn, ps, bodyFrom l n⟩) ∧ Hid (wx.heap[w2.heap.size]? = some (.cells #[.string nm, .bool fn, .slice ap ps.length cp, .slice none 0 0] 79 (0, 0))) ∧ Hid ((sSlice sStr).R wx [.slice ap ps.length cp] ps fpp) ∧ Hid (Own wx (w2.heap.size + 1) fpp) ∧ Hid (Kept [w2.heap.size] (w2.alloc (.cells #[.string nm, .bool false, .slice none 0 0, .slice none 0 0] 79)) wx))
  case first =>
   have HPP := Lib.hid (spec_l5Params _ l _ _ hl60 HLX.out)
   cases ho : opens2 l
   ·have HF := Lib.hid (of_plain HVD.out h0 ho)
    rw [← HNM.out] at HF
    clear ho
    go_wp2
    go_meet
    case rel => exact ⟨1, false, none, 0, [], [], rfl, by omega, HF, HMX.out, slice_empty sStr _ _ _ (by simp), Own.nil _ _, Kept.refl _ _⟩
   ·have HOP := Lib.hid ho
    clear ho
    cases hp : parsOf l with
    |
     none =>
     unfold PMade at HPP
     rw [parRes_none hp] at HPP
     have HF := Lib.hid (of_pno HVD.out h0 HOP.out hp)
     clear hp
     go_wp2_with fail
     refine HPP.out.mono ?_
     rintro e w3 ⟨pv, fpp, rfl, -, -, hb3⟩
     have hB3 := hBX.trans (hb3.mono hBX.size)
     have HZ3 := Lib.hid (mbox HZX.out hb3)
     clear hb3
     have z0 : w3.cell? ⟨w.heap.size, 0, none⟩ = some (.string ⟨#[]⟩) := cell_of_row _ _ 0 _ _ _ HZ3.out
     have zf0 : w3.frozen? ⟨w.heap.size, 0, none⟩ = false := frozen_of_row _ _ 0 _ _ HZ3.out
     have z1 : w3.cell? ⟨w.heap.size, 1, none⟩ = some (.bool false) := cell_of_row _ _ 1 _ _ _ HZ3.out
     have zf1 : w3.frozen? ⟨w.heap.size, 1, none⟩ = false := frozen_of_row _ _ 1 _ _ HZ3.out
     have z2 : w3.cell? ⟨w.heap.size, 2, none⟩ = some (.slice none 0 0) := cell_of_row _ _ 2 _ _ _ HZ3.out
     have zf2 : w3.frozen? ⟨w.heap.size, 2, none⟩ = false := frozen_of_row _ _ 2 _ _ HZ3.out
     have z3 : w3.cell? ⟨w.heap.size, 3, none⟩ = some (.slice none 0 0) := cell_of_row _ _ 3 _ _ _ HZ3.out
     have zf3 : w3.frozen? ⟨w.heap.size, 3, none⟩ = false := frozen_of_row _ _ 3 _ _ HZ3.out
     have HS := Lib.hid (blk_set (blk_set (blk_set (blk_set HZ3.out 0 (.string ⟨#[]⟩)) 1 (.bool false)) 2 (.slice none 0 0)) 3 (.slice none 0 0))
     have HBF := Lib.hid ((((hB3.setCell (p := ⟨w.heap.size, 0, none⟩) (Nat.le_refl _) (.string ⟨#[]⟩)).setCell (p := ⟨w.heap.size, 1, none⟩) (Nat.le_refl _) (.bool false)).setCell (p := ⟨w.heap.size, 2, none⟩) (Nat.le_refl _) (.slice none 0 0)).setCell (p := ⟨w.heap.size, 3, none⟩) (Nat.le_refl _) (.slice none 0 0))
     go_wp2
     refine bodyPost_ret (results_cell2 rfl _ _ w.heap.size _ _ _ _ rfl HS.out Tryd.underlying79 rfl (by kernel_rfl)) rfl ?_
     exact mof_no HF.out HBF.out
    |
     some p =>
     obtain ⟨ps, n⟩ := p
     have hnl : n ≤ l.length := pars_le hp
     unfold PMade at HPP
     rw [parRes_some hp] at HPP
     have HF := Lib.hid (of_pars HVD.out h0 HOP.out hp)
     rw [← HNM.out] at HF
     clear hp
     go_wp2_with fail
     refine HPP.out.mono ?_
     rintro e w3 ⟨pv, fpp, rfl, hPR, hPO, hb3⟩
     rw [HS2.out] at hPO
     have HM3 := mbox HMX.out hb3
     obtain ⟨ap, cp, rfl, -⟩ := open_strs hPR
     have hn1 : w2.heap.size ∉ fpp := fun hx => by have := (hPO.2 _ hx).1; omega
     have c31 : w3.cell? ⟨w2.heap.size, 1, none⟩ = some (.bool false) := cell_of_row _ _ 1 _ _ _ HM3
     have c32 : w3.cell? ⟨w2.heap.size, 2, none⟩ = some (.slice none 0 0) := cell_of_row _ _ 2 _ _ _ HM3
     have f31 : w3.frozen? ⟨w2.heap.size, 1, none⟩ = false := frozen_of_row _ _ 1 _ _ HM3
     have f32 : w3.frozen? ⟨w2.heap.size, 2, none⟩ = false := frozen_of_row _ _ 2 _ _ HM3
     have HMF := Lib.hid (blk_set (blk_set HM3 1 (.bool true)) 2 (.slice ap ps.length cp))
     have HPF := Lib.hid ((sSlice sStr).setB ((sSlice sStr).setB hPR hn1 1 (.bool true)) hn1 2 (.slice ap ps.length cp))
     have HOF := Lib.hid ((hPO.setCell ⟨w2.heap.size, 1, none⟩ (.bool true)).setCell ⟨w2.heap.size, 2, none⟩ (.slice ap ps.length cp))
     have HKF := Lib.hid (((Kept.of_below (fp := [w2.heap.size]) hb3).setCell (p := ⟨w2.heap.size, 1, none⟩) (by simp) (.bool true)).setCell (p := ⟨w2.heap.size, 2, none⟩) (by simp) (.slice ap ps.length cp))
     have hneg : ¬ (n : Int) < 0 := by omega
     clear hPR hPO HM3 hb3 hn1
     go_wp2
     go_meet
     case rel => exact ⟨n, true, ap, cp, ps, fpp, rfl, hnl, HF, HMF.out, HPF, HOF, HKF⟩
  case rest =>
   obtain ⟨n, fn, ap, cp, ps, fpp, rfl, hn, HF, HM, HP, HO, HK⟩ := hcut
   have hsz := HK.out.size
   rw [HS2.out] at hsz
   have HBc := Lib.hid (hBX.trans (HK.out.below (lo := w.heap.size) (by intro b hb; have e : b = w2.heap.size := (by simpa using hb); omega) (by rw [HS2.out]; omega)))
   have HZc := Lib.hid ((HK.out.block w.heap.size (by rw [HS2.out]; omega) (by simp; omega)).trans HZX.out)
   have HEc : Hid (∀ i, (hi : i < l.length) → ∃ hh, ElemAt wc b1 off1 4 i [.int .i64 l[i].kind, .string l[i].text, .bool l[i].spaced, hh] ∧ okInt l[i].kind ∧ okStr l[i].text) := fun i hi => by
    obtain ⟨hh, hE, k1, k2⟩ := HEL.out i hi
    exact ⟨hh, (hE.frame (hbx.block b1 hb1s)).frame (HK.out.block b1 (by rw [HS2.out]; omega) (by simp; omega)), k1, k2⟩
   have HE0 := Lib.hid (RowE.nil sTok wc.heap.size 47 wc)
   have HPlt : Hid (∀ b ∈ fpp, b < wc.heap.size) := (sSlice sStr).lt HP.out
   have HPn : Hid (w2.heap.size ∉ fpp) := fun hx => by have := (HO.out.2 _ hx).1; omega
   clear HEL HLX HMX HZX HX1 HLL HZ hbx hBX hB1 hB2 c01 HK HVD
   go_wp2_with fail
   go_loopw [8] (fun i wr => ∃ (k : Nat) (vb : Value) (L : List (Elem Tok)), n ≤ k ∧ k ≤ l.length ∧ i = .int .i64 k ∧ Hid (L.length = k - n) ∧ Hid (wr.heap[w2.heap.size]? = some (.cells #[.string nm, .bool fn, .slice ap ps.length cp, vb] 79 (0, 0))) ∧ Hid (RowE sTok wc.heap.size 47 vb L wr) ∧ Hid (L.map (·.d) = (bodyFrom l n).take (k - n)) ∧ Hid (∀ x ∈ L, x.fp = []) ∧ Hid (Kept [w2.heap.size] wc wr)) (fun i _ => l.length - (intOf i).toNat)
   case atStart => exact ⟨n, _, [], by omega, hn, rfl, by show _ = _; simp, HM, HE0, by show _ = _; simp, by intro x hx; simp at hx, Kept.refl _ _⟩
   case round =>
    obtain ⟨k, vb, L, hnk, hkl, rfl, HLn, HMr, HE, HD, HFP, HKr⟩ := hrel
    obtain ⟨ab, cb, rfl, -⟩ := HE.out.val
    have hszr := HKr.out.size
    by_cases hlt : k < l.length
    ·obtain ⟨hh, hE, ki, ks⟩ := HEc.out k hlt
     have hEr := hE.frame (HKr.out.block b1 (by omega) (by simp; omega))
     have q3 : wr.cell? ⟨w2.heap.size, 3, none⟩ = some (.slice ab L.length cb) := cell_of_row _ _ 3 _ _ _ HMr.out
     have e0 : wr.cell? ⟨b1, off1 + k * 4, none⟩ = some (.int .i64 l[k].kind) := elem_cell0 hEr (by decide) rfl
     have e1 : wr.cell? ⟨b1, off1 + k * 4 + 1, none⟩ = some (.string l[k].text) := elem_cell (j := 1) hEr (by decide) rfl
     have e2 : wr.cell? ⟨b1, off1 + k * 4 + 2, none⟩ = some (.bool l[k].spaced) := elem_cell (j := 2) hEr (by decide) rfl
     have HKI := Lib.hid (And.intro ki ks)
     have HT := Lib.hid (body_take hnk hlt)
     have HEd : Hid (RowE sTok wc.heap.size 47 (.slice ab L.length cb) L ({ wr with drawn := wr.drawn + 1 } : World)) := HE.out.same fun _ _ _ => rfl
     have hown : ∀ b, (Value.slice ab L.length cb).ownBlock = some b → wc.heap.size ≤ b := HE.out.mine
     clear hE hEr hh ki ks
     cases hsp : l[k].spaced
     ·rw [hsp] at e2 HT
      clear hsp
      go_wp2
      refine wp_region_app (P := Tryd.prog) (by kernel_rfl) (by kernel_rfl) 23 24 26 (by kernel_rfl) (by kernel_rfl) (by decide) (by decide) rfl rfl rfl [some (.pointer (some ⟨w2.heap.size, 3, none⟩)), some (.slice ab L.length cb), some (.slice (some ⟨b1, off1, none⟩) l.length cap), some (.int .i64 (k : Int)), some (.pointer (some ⟨b1, off1 + k * 4, none⟩)), some (.pointer (some ⟨b1, off1 + k * 4, none⟩)), some (.int .i64 l[k].kind), some (.slice (some ⟨b1, off1, none⟩) l.length cap), some (.int .i64 (k : Int)), some (.pointer (some ⟨b1, off1 + k * 4, none⟩)), some (.pointer (some ⟨b1, off1 + k * 4 + 1, none⟩)), some (.string l[k].text), some (.slice (some ⟨b1, off1, none⟩) l.length cap), some (.int .i64 (k : Int)), some (.pointer (some ⟨b1, off1 + k * 4, none⟩)), some (.pointer (some ⟨b1, off1 + k * 4 + 2, none⟩)), some (.bool false), some (.bool false), none, none, none, some (.bool false), some (.agg #[.int .i64 l[k].kind, .string l[k].text, .bool false, .slice none 0 0]), none, none, some (.pointer (some ⟨w2.heap.size, 3, none⟩)), none] (.slice (some ⟨wr.heap.size, 0, none⟩) 1 1) ((({ wr with drawn := wr.drawn + 1 } : World).alloc (.cells #[.int .i64 l[k].kind, .string l[k].text, .bool false, .slice none 0 0] 47))) (fun v u => RowE sTok wc.heap.size 47 v (L ++ [(⟨[.int .i64 l[k].kind, .string l[k].text, .bool false, .slice none 0 0], ⟨l[k].kind, l[k].text, false, []⟩, []⟩ : Elem Tok)]) u ∧ ({ wr with drawn := wr.drawn + 1 } : World).grownBy u (Value.slice ab L.length cb).ownBlock) (fun v u => ∃ u2, (RowE sTok wc.heap.size 47 v (L ++ [(⟨[.int .i64 l[k].kind, .string l[k].text, .bool false, .slice none 0 0], ⟨l[k].kind, l[k].text, false, []⟩, []⟩ : Elem Tok)]) u2 ∧ ({ wr with drawn := wr.drawn + 1 } : World).grownBy u2 (Value.slice ab L.length cb).ownBlock) ∧ u = u2.setCell ⟨w2.heap.size, 3, none⟩ v) (fun u => u.cell? ⟨w2.heap.size, 3, none⟩ = some (.slice ab L.length cb) ∧ u.cell? ⟨b1, off1 + k * 4, none⟩ = some (.int .i64 l[k].kind) ∧ u.cell? ⟨b1, off1 + k * 4 + 1, none⟩ = some (.string l[k].text) ∧ u.cell? ⟨b1, off1 + k * 4 + 2, none⟩ = some (.bool false)) ?b0 ?b1 ?b2 (cons_all ⟨.inr (.inr (.inr ?s0)), .inr (.inr (.inr ?s1)), .inr (.inr (.inr ?s2)), .inr (.inr (.inr ?s3)), .inr (.inr (.inr ?s4)), .inr (.inr (.inr ?s5)), .inr (.inr (.inr ?s6)), .inr (.inr (.inr ?s7)), .inr (.inr (.inr ?s8)), .inr (.inr (.inr ?s9)), .inr (.inr (.inr ?s10)), .inr (.inr (.inr ?s11)), .inr (.inr (.inr ?s12)), .inr (.inr (.inr ?s13)), .inr (.inr (.inr ?s14)), .inr (.inr (.inr ?s15)), .inr (.inr (.inr ?s16)), .inr (.inr (.inr ?s17)), .inr (.inr (.inr ?s18)), .inr (.inr (.inr ?s19)), .inr (.inr (.inr ?s20)), .inr (.inr (.inr ?s21)), .inr (.inr (.inr ?s22)), .inl rfl, .inr (.inl rfl), .inr (.inr (.inr ?s25)), .inr (.inr (.inl rfl)), trivial⟩) ?sA ?sB ?sC ?done
      case b0 =>
       exact ⟨q3, e0, e1, e2⟩
      case b1 =>
       have hbb := alloc_below' ({ wr with drawn := wr.drawn + 1 } : World) (.cells #[.int .i64 l[k].kind, .string l[k].text, .bool false, .slice none 0 0] 47)
       exact ⟨(hbb.cell (p := ⟨w2.heap.size, 3, none⟩) (show w2.heap.size < wr.heap.size by omega)).trans q3, (hbb.cell (p := ⟨b1, off1 + k * 4, none⟩) (show b1 < wr.heap.size by omega)).trans e0, (hbb.cell (p := ⟨b1, off1 + k * 4 + 1, none⟩) (show b1 < wr.heap.size by omega)).trans e1, (hbb.cell (p := ⟨b1, off1 + k * 4 + 2, none⟩) (show b1 < wr.heap.size by omega)).trans e2⟩
      case b2 =>
       rintro v u ⟨-, hg⟩
       have kb : ∀ b, b < wc.heap.size → u.heap[b]? = wr.heap[b]? := fun b hb => hg.block b (show b < wr.heap.size by omega) (fun he => by have := hown b he.symm; omega)
       exact ⟨(World.cell?_of_block (a := ⟨w2.heap.size, 3, none⟩) (kb w2.heap.size (by omega))).trans q3, (World.cell?_of_block (a := ⟨b1, off1 + k * 4, none⟩) (kb b1 (by omega))).trans e0, (World.cell?_of_block (a := ⟨b1, off1 + k * 4 + 1, none⟩) (kb b1 (by omega))).trans e1, (World.cell?_of_block (a := ⟨b1, off1 + k * 4 + 2, none⟩) (kb b1 (by omega))).trans e2⟩
      case s0 =>
       intro xs w' hl _ hd hB K hK
       obtain ⟨x0, x1, x2, x3, x4, x5, x6, x7, x8, x9, x10, x11, x12, x13, x14, x15, x16, x17, x18, x19, x20, x21, x22, x23, x24, x25, x26, rfl⟩ := len27 hl
       obtain ⟨q3, e0, e1, e2⟩ := hB
       clear hd
       simp only [fill, Act.put, List.map_cons, List.map_nil, List.setIfInBounds_toArray, List.set_cons_succ, List.set_cons_zero] at hK ⊢
       go_wp2
       exact hK _ (fun u hu => by simpa using hu)
      case s1 =>
       intro xs w' hl _ hd hB K hK
       obtain ⟨x0, x1, x2, x3, x4, x5, x6, x7, x8, x9, x10, x11, x12, x13, x14, x15, x16, x17, x18, x19, x20, x21, x22, x23, x24, x25, x26, rfl⟩ := len27 hl
       obtain rfl : x0 = .pointer (some ⟨w2.heap.size, 3, none⟩) := by simpa using hd ⟨0, .data⟩ (by simp) rfl (by decide) (by decide) (by decide) _ rfl
       obtain ⟨q3, e0, e1, e2⟩ := hB
       clear hd
       simp only [fill, Act.put, List.map_cons, List.map_nil, List.setIfInBounds_toArray, List.set_cons_succ, List.set_cons_zero] at hK ⊢
       go_wp2
       exact hK _ (fun u hu => by simpa using hu)
      case s2 =>
       intro xs w' hl _ hd hB K hK
       obtain ⟨x0, x1, x2, x3, x4, x5, x6, x7, x8, x9, x10, x11, x12, x13, x14, x15, x16, x17, x18, x19, x20, x21, x22, x23, x24, x25, x26, rfl⟩ := len27 hl
       obtain ⟨q3, e0, e1, e2⟩ := hB
       clear hd
       simp only [fill, Act.put, List.map_cons, List.map_nil, List.setIfInBounds_toArray, List.set_cons_succ, List.set_cons_zero] at hK ⊢
       go_wp2
       exact hK _ (fun u hu => by simpa using hu)
      case s3 =>
       intro xs w' hl _ hd hB K hK
       obtain ⟨x0, x1, x2, x3, x4, x5, x6, x7, x8, x9, x10, x11, x12, x13, x14, x15, x16, x17, x18, x19, x20, x21, x22, x23, x24, x25, x26, rfl⟩ := len27 hl
       obtain ⟨q3, e0, e1, e2⟩ := hB
       clear hd
       simp only [fill, Act.put, List.map_cons, List.map_nil, List.setIfInBounds_toArray, List.set_cons_succ, List.set_cons_zero] at hK ⊢
       go_wp2
       exact hK _ (fun u hu => by simpa using hu)
      case s4 =>
       intro xs w' hl _ hd hB K hK
       obtain ⟨x0, x1, x2, x3, x4, x5, x6, x7, x8, x9, x10, x11, x12, x13, x14, x15, x16, x17, x18, x19, x20, x21, x22, x23, x24, x25, x26, rfl⟩ := len27 hl
       obtain rfl : x2 = .slice (some ⟨b1, off1, none⟩) l.length cap := by simpa using hd ⟨2, .data⟩ (by simp) rfl (by decide) (by decide) (by decide) _ rfl
       obtain rfl : x3 = .int .i64 (k : Int) := by simpa using hd ⟨3, .data⟩ (by simp) rfl (by decide) (by decide) (by decide) _ rfl
       obtain ⟨q3, e0, e1, e2⟩ := hB
       clear hd
       simp only [fill, Act.put, List.map_cons, List.map_nil, List.setIfInBounds_toArray, List.set_cons_succ, List.set_cons_zero] at hK ⊢
       go_wp2
       exact hK _ (fun u hu => by simpa using hu)
      case s5 =>
       intro xs w' hl _ hd hB K hK
       obtain ⟨x0, x1, x2, x3, x4, x5, x6, x7, x8, x9, x10, x11, x12, x13, x14, x15, x16, x17, x18, x19, x20, x21, x22, x23, x24, x25, x26, rfl⟩ := len27 hl
       obtain rfl : x4 = .pointer (some ⟨b1, off1 + k * 4, none⟩) := by simpa using hd ⟨4, .data⟩ (by simp) rfl (by decide) (by decide) (by decide) _ rfl
       obtain ⟨q3, e0, e1, e2⟩ := hB
       clear hd
       simp only [fill, Act.put, List.map_cons, List.map_nil, List.setIfInBounds_toArray, List.set_cons_succ, List.set_cons_zero] at hK ⊢
       go_wp2
       exact hK _ (fun u hu => by simpa using hu)
      case s6 =>
       intro xs w' hl _ hd hB K hK
       obtain ⟨x0, x1, x2, x3, x4, x5, x6, x7, x8, x9, x10, x11, x12, x13, x14, x15, x16, x17, x18, x19, x20, x21, x22, x23, x24, x25, x26, rfl⟩ := len27 hl
       obtain rfl : x5 = .pointer (some ⟨b1, off1 + k * 4, none⟩) := by simpa using hd ⟨5, .data⟩ (by simp) rfl (by decide) (by decide) (by decide) _ rfl
       obtain ⟨q3, e0, e1, e2⟩ := hB
       clear hd
       simp only [fill, Act.put, List.map_cons, List.map_nil, List.setIfInBounds_toArray, List.set_cons_succ, List.set_cons_zero] at hK ⊢
       go_wp2
       exact hK _ (fun u hu => by simpa using hu)
      case s7 =>
       intro xs w' hl _ hd hB K hK
       obtain ⟨x0, x1, x2, x3, x4, x5, x6, x7, x8, x9, x10, x11, x12, x13, x14, x15, x16, x17, x18, x19, x20, x21, x22, x23, x24, x25, x26, rfl⟩ := len27 hl
       obtain ⟨q3, e0, e1, e2⟩ := hB
       clear hd
       simp only [fill, Act.put, List.map_cons, List.map_nil, List.setIfInBounds_toArray, List.set_cons_succ, List.set_cons_zero] at hK ⊢
       go_wp2
       exact hK _ (fun u hu => by simpa using hu)
      case s8 =>
       intro xs w' hl _ hd hB K hK
       obtain ⟨x0, x1, x2, x3, x4, x5, x6, x7, x8, x9, x10, x11, x12, x13, x14, x15, x16, x17, x18, x19, x20, x21, x22, x23, x24, x25, x26, rfl⟩ := len27 hl
       obtain ⟨q3, e0, e1, e2⟩ := hB
       clear hd
       simp only [fill, Act.put, List.map_cons, List.map_nil, List.setIfInBounds_toArray, List.set_cons_succ, List.set_cons_zero] at hK ⊢
       go_wp2
       exact hK _ (fun u hu => by simpa using hu)
      case s9 =>
       intro xs w' hl _ hd hB K hK
       obtain ⟨x0, x1, x2, x3, x4, x5, x6, x7, x8, x9, x10, x11, x12, x13, x14, x15, x16, x17, x18, x19, x20, x21, x22, x23, x24, x25, x26, rfl⟩ := len27 hl
       obtain rfl : x7 = .slice (some ⟨b1, off1, none⟩) l.length cap := by simpa using hd ⟨7, .data⟩ (by simp) rfl (by decide) (by decide) (by decide) _ rfl
       obtain rfl : x8 = .int .i64 (k : Int) := by simpa using hd ⟨8, .data⟩ (by simp) rfl (by decide) (by decide) (by decide) _ rfl
       obtain ⟨q3, e0, e1, e2⟩ := hB
       clear hd
       simp only [fill, Act.put, List.map_cons, List.map_nil, List.setIfInBounds_toArray, List.set_cons_succ, List.set_cons_zero] at hK ⊢
       go_wp2
       exact hK _ (fun u hu => by simpa using hu)
      case s10 =>
       intro xs w' hl _ hd hB K hK
       obtain ⟨x0, x1, x2, x3, x4, x5, x6, x7, x8, x9, x10, x11, x12, x13, x14, x15, x16, x17, x18, x19, x20, x21, x22, x23, x24, x25, x26, rfl⟩ := len27 hl
       obtain rfl : x9 = .pointer (some ⟨b1, off1 + k * 4, none⟩) := by simpa using hd ⟨9, .data⟩ (by simp) rfl (by decide) (by decide) (by decide) _ rfl
       obtain ⟨q3, e0, e1, e2⟩ := hB
       clear hd
       simp only [fill, Act.put, List.map_cons, List.map_nil, List.setIfInBounds_toArray, List.set_cons_succ, List.set_cons_zero] at hK ⊢
       go_wp2
       exact hK _ (fun u hu => by simpa using hu)
      case s11 =>
       intro xs w' hl _ hd hB K hK
       obtain ⟨x0, x1, x2, x3, x4, x5, x6, x7, x8, x9, x10, x11, x12, x13, x14, x15, x16, x17, x18, x19, x20, x21, x22, x23, x24, x25, x26, rfl⟩ := len27 hl
       obtain rfl : x10 = .pointer (some ⟨b1, off1 + k * 4 + 1, none⟩) := by simpa using hd ⟨10, .data⟩ (by simp) rfl (by decide) (by decide) (by decide) _ rfl
       obtain ⟨q3, e0, e1, e2⟩ := hB
       clear hd
       simp only [fill, Act.put, List.map_cons, List.map_nil, List.setIfInBounds_toArray, List.set_cons_succ, List.set_cons_zero] at hK ⊢
       go_wp2
       exact hK _ (fun u hu => by simpa using hu)
      case s12 =>
       intro xs w' hl _ hd hB K hK
       obtain ⟨x0, x1, x2, x3, x4, x5, x6, x7, x8, x9, x10, x11, x12, x13, x14, x15, x16, x17, x18, x19, x20, x21, x22, x23, x24, x25, x26, rfl⟩ := len27 hl
       obtain ⟨q3, e0, e1, e2⟩ := hB
       clear hd
       simp only [fill, Act.put, List.map_cons, List.map_nil, List.setIfInBounds_toArray, List.set_cons_succ, List.set_cons_zero] at hK ⊢
       go_wp2
       exact hK _ (fun u hu => by simpa using hu)
      case s13 =>
       intro xs w' hl _ hd hB K hK
       obtain ⟨x0, x1, x2, x3, x4, x5, x6, x7, x8, x9, x10, x11, x12, x13, x14, x15, x16, x17, x18, x19, x20, x21, x22, x23, x24, x25, x26, rfl⟩ := len27 hl
       obtain ⟨q3, e0, e1, e2⟩ := hB
       clear hd
       simp only [fill, Act.put, List.map_cons, List.map_nil, List.setIfInBounds_toArray, List.set_cons_succ, List.set_cons_zero] at hK ⊢
       go_wp2
       exact hK _ (fun u hu => by simpa using hu)
      case s14 =>
       intro xs w' hl _ hd hB K hK
       obtain ⟨x0, x1, x2, x3, x4, x5, x6, x7, x8, x9, x10, x11, x12, x13, x14, x15, x16, x17, x18, x19, x20, x21, x22, x23, x24, x25, x26, rfl⟩ := len27 hl
       obtain rfl : x12 = .slice (some ⟨b1, off1, none⟩) l.length cap := by simpa using hd ⟨12, .data⟩ (by simp) rfl (by decide) (by decide) (by decide) _ rfl
       obtain rfl : x13 = .int .i64 (k : Int) := by simpa using hd ⟨13, .data⟩ (by simp) rfl (by decide) (by decide) (by decide) _ rfl
       obtain ⟨q3, e0, e1, e2⟩ := hB
       clear hd
       simp only [fill, Act.put, List.map_cons, List.map_nil, List.setIfInBounds_toArray, List.set_cons_succ, List.set_cons_zero] at hK ⊢
       go_wp2
       exact hK _ (fun u hu => by simpa using hu)
      case s15 =>
       intro xs w' hl _ hd hB K hK
       obtain ⟨x0, x1, x2, x3, x4, x5, x6, x7, x8, x9, x10, x11, x12, x13, x14, x15, x16, x17, x18, x19, x20, x21, x22, x23, x24, x25, x26, rfl⟩ := len27 hl
       obtain rfl : x14 = .pointer (some ⟨b1, off1 + k * 4, none⟩) := by simpa using hd ⟨14, .data⟩ (by simp) rfl (by decide) (by decide) (by decide) _ rfl
       obtain ⟨q3, e0, e1, e2⟩ := hB
       clear hd
       simp only [fill, Act.put, List.map_cons, List.map_nil, List.setIfInBounds_toArray, List.set_cons_succ, List.set_cons_zero] at hK ⊢
       go_wp2
       exact hK _ (fun u hu => by simpa using hu)
      case s16 =>
       intro xs w' hl _ hd hB K hK
       obtain ⟨x0, x1, x2, x3, x4, x5, x6, x7, x8, x9, x10, x11, x12, x13, x14, x15, x16, x17, x18, x19, x20, x21, x22, x23, x24, x25, x26, rfl⟩ := len27 hl
       obtain rfl : x15 = .pointer (some ⟨b1, off1 + k * 4 + 2, none⟩) := by simpa using hd ⟨15, .data⟩ (by simp) rfl (by decide) (by decide) (by decide) _ rfl
       obtain ⟨q3, e0, e1, e2⟩ := hB
       clear hd
       simp only [fill, Act.put, List.map_cons, List.map_nil, List.setIfInBounds_toArray, List.set_cons_succ, List.set_cons_zero] at hK ⊢
       go_wp2
       exact hK _ (fun u hu => by simpa using hu)
      case s17 =>
       intro xs w' hl _ hd hB K hK
       obtain ⟨x0, x1, x2, x3, x4, x5, x6, x7, x8, x9, x10, x11, x12, x13, x14, x15, x16, x17, x18, x19, x20, x21, x22, x23, x24, x25, x26, rfl⟩ := len27 hl
       obtain rfl : x16 = .bool false := by simpa using hd ⟨16, .data⟩ (by simp) rfl (by decide) (by decide) (by decide) _ rfl
       obtain ⟨q3, e0, e1, e2⟩ := hB
       clear hd
       simp only [fill, Act.put, List.map_cons, List.map_nil, List.setIfInBounds_toArray, List.set_cons_succ, List.set_cons_zero] at hK ⊢
       go_wp2
       exact hK _ (fun u hu => by simpa using hu)
      case s18 =>
       intro xs w' hl hold hd hB K hK
       clear hold
       have f17 : xs[17]? = some (.bool false) := hd ⟨17, .guard⟩ (by simp) rfl (by decide) (by decide) (by decide) _ rfl
       clear hd
       obtain ⟨x0, x1, x2, x3, x4, x5, x6, x7, x8, x9, x10, x11, x12, x13, x14, x15, x16, x17, x18, x19, x20, x21, x22, x23, x24, x25, x26, hxs⟩ := len27 hl
       have g17 : x17 = .bool false := by rw [hxs] at f17; simpa using f17
       rw [g17] at hxs
       clear hl f17 g17
       refine sw_skip ?_ (hK _ (fun u hu => by simp at hu))
       rw [hxs]
       kernel_rfl
      case s19 =>
       intro xs w' hl hold hd hB K hK
       clear hold
       have f17 : xs[17]? = some (.bool false) := hd ⟨17, .guard⟩ (by simp) rfl (by decide) (by decide) (by decide) _ rfl
       clear hd
       obtain ⟨x0, x1, x2, x3, x4, x5, x6, x7, x8, x9, x10, x11, x12, x13, x14, x15, x16, x17, x18, x19, x20, x21, x22, x23, x24, x25, x26, hxs⟩ := len27 hl
       have g17 : x17 = .bool false := by rw [hxs] at f17; simpa using f17
       rw [g17] at hxs
       clear hl f17 g17
       refine sw_skip ?_ (hK _ (fun u hu => by simp at hu))
       rw [hxs]
       kernel_rfl
      case s20 =>
       intro xs w' hl hold hd hB K hK
       clear hold
       have f17 : xs[17]? = some (.bool false) := hd ⟨17, .guard⟩ (by simp) rfl (by decide) (by decide) (by decide) _ rfl
       clear hd
       obtain ⟨x0, x1, x2, x3, x4, x5, x6, x7, x8, x9, x10, x11, x12, x13, x14, x15, x16, x17, x18, x19, x20, x21, x22, x23, x24, x25, x26, hxs⟩ := len27 hl
       have g17 : x17 = .bool false := by rw [hxs] at f17; simpa using f17
       rw [g17] at hxs
       clear hl f17 g17
       refine sw_skip ?_ (hK _ (fun u hu => by simp at hu))
       rw [hxs]
       kernel_rfl
      case s21 =>
       intro xs w' hl _ hd hB K hK
       obtain ⟨x0, x1, x2, x3, x4, x5, x6, x7, x8, x9, x10, x11, x12, x13, x14, x15, x16, x17, x18, x19, x20, x21, x22, x23, x24, x25, x26, rfl⟩ := len27 hl
       obtain rfl : x17 = .bool false := by simpa using hd ⟨17, .data⟩ (by simp) rfl (by decide) (by decide) (by decide) _ rfl
       obtain ⟨q3, e0, e1, e2⟩ := hB
       clear hd
       simp only [fill, Act.put, List.map_cons, List.map_nil, List.setIfInBounds_toArray, List.set_cons_succ, List.set_cons_zero] at hK ⊢
       go_wp2
       exact hK _ (fun u hu => by simpa using hu)
      case s22 =>
       intro xs w' hl _ hd hB K hK
       obtain ⟨x0, x1, x2, x3, x4, x5, x6, x7, x8, x9, x10, x11, x12, x13, x14, x15, x16, x17, x18, x19, x20, x21, x22, x23, x24, x25, x26, rfl⟩ := len27 hl
       obtain rfl : x6 = .int .i64 l[k].kind := by simpa using hd ⟨6, .data⟩ (by simp) rfl (by decide) (by decide) (by decide) _ rfl
       obtain rfl : x11 = .string l[k].text := by simpa using hd ⟨11, .data⟩ (by simp) rfl (by decide) (by decide) (by decide) _ rfl
       obtain rfl : x21 = .bool false := by simpa using hd ⟨21, .data⟩ (by simp) rfl (by decide) (by decide) (by decide) _ rfl
       obtain ⟨q3, e0, e1, e2⟩ := hB
       clear hd
       simp only [fill, Act.put, List.map_cons, List.map_nil, List.setIfInBounds_toArray, List.set_cons_succ, List.set_cons_zero] at hK ⊢
       go_wp2
       exact hK _ (fun u hu => by simpa using hu)
      case s25 =>
       intro xs w' hl _ hd hB K hK
       obtain ⟨x0, x1, x2, x3, x4, x5, x6, x7, x8, x9, x10, x11, x12, x13, x14, x15, x16, x17, x18, x19, x20, x21, x22, x23, x24, x25, x26, rfl⟩ := len27 hl
       obtain ⟨q3, e0, e1, e2⟩ := hB
       clear hd
       simp only [fill, Act.put, List.map_cons, List.map_nil, List.setIfInBounds_toArray, List.set_cons_succ, List.set_cons_zero] at hK ⊢
       go_wp2
       exact hK _ (fun u hu => by simpa using hu)
      case sA =>
       intro xs hl hd K hK
       obtain ⟨x0, x1, x2, x3, x4, x5, x6, x7, x8, x9, x10, x11, x12, x13, x14, x15, x16, x17, x18, x19, x20, x21, x22, x23, x24, x25, x26, rfl⟩ := len27 hl
       obtain rfl : x22 = .agg #[.int .i64 l[k].kind, .string l[k].text, .bool false, .slice none 0 0] := by simpa using hd ⟨22, .data⟩ (by simp) rfl (by decide) (by decide) (by decide) _ rfl
       clear hd
       simp only [fill, Act.put, List.map_cons, List.map_nil, List.setIfInBounds_toArray, List.set_cons_succ, List.set_cons_zero] at hK ⊢
       go_wp2
       exact hK
      case sB =>
       intro xs hl hd hva K hK
       obtain ⟨x0, x1, x2, x3, x4, x5, x6, x7, x8, x9, x10, x11, x12, x13, x14, x15, x16, x17, x18, x19, x20, x21, x22, x23, x24, x25, x26, rfl⟩ := len27 hl
       obtain rfl : x1 = .slice ab L.length cb := by simpa using hd ⟨1, .data⟩ (by simp) rfl (by decide) (by decide) (by decide) _ rfl
       obtain rfl : x23 = .slice (some ⟨wr.heap.size, 0, none⟩) 1 1 := by simpa using hva
       clear hd
       simp only [fill, Act.put, List.map_cons, List.map_nil, List.setIfInBounds_toArray, List.set_cons_succ, List.set_cons_zero] at hK ⊢
       refine wp_append_tokE rfl (.tmp 62) (.tmp 84) rfl wc.heap.size (.slice ab L.length cb) L rfl HEd.out l[k].kind l[k].text false none 0 0 [] [] rfl ⟨_, rfl, HKI.out.1, HKI.out.2, slice_empty sStr _ _ _ (by simp)⟩ (by simp) (by simp) (by have := HLn.out; omega) (by show wc.heap.size ≤ wr.heap.size; omega) ?_
       intro v' u' h1 h2
       exact hK v' u' ⟨h1, h2⟩
      case sC =>
       intro xs v w2u hl hd hvb hApp K hK
       obtain ⟨x0, x1, x2, x3, x4, x5, x6, x7, x8, x9, x10, x11, x12, x13, x14, x15, x16, x17, x18, x19, x20, x21, x22, x23, x24, x25, x26, rfl⟩ := len27 hl
       obtain rfl : x25 = .pointer (some ⟨w2.heap.size, 3, none⟩) := by simpa using hd ⟨25, .data⟩ (by simp) rfl (by decide) (by decide) (by decide) _ rfl
       obtain rfl : x24 = v := by simpa using hvb
       clear hd
       simp only [fill, Act.put, List.map_cons, List.map_nil, List.setIfInBounds_toArray, List.set_cons_succ, List.set_cons_zero] at hK ⊢
       obtain ⟨hA, hg⟩ := hApp
       obtain ⟨av, cv, hvv, -⟩ := hA.val
       rw [List.length_append, show ([(⟨[.int .i64 l[k].kind, .string l[k].text, .bool false, .slice none 0 0], ⟨l[k].kind, l[k].text, false, []⟩, []⟩ : Elem Tok)] : List (Elem Tok)).length = 1 from rfl] at hvv
       subst hvv
       have hMu := (hg.block w2.heap.size (show w2.heap.size < wr.heap.size by omega) (fun he => by have := hown _ he.symm; omega)).trans HMr.out
       have c3 : w2u.cell? ⟨w2.heap.size, 3, none⟩ = some (.slice ab L.length cb) := cell_of_row _ _ 3 _ _ _ hMu
       have f3 : w2u.frozen? ⟨w2.heap.size, 3, none⟩ = false := frozen_of_row _ _ 3 _ _ hMu
       go_wp2
       exact hK undef _ ⟨_, ⟨hA, hg⟩, rfl⟩
      case done =>
       intro xs v w3 hl hd hva hvb hFin
       obtain ⟨x0, x1, x2, x3, x4, x5, x6, x7, x8, x9, x10, x11, x12, x13, x14, x15, x16, x17, x18, x19, x20, x21, x22, x23, x24, x25, x26, rfl⟩ := len27 hl
       clear hd hva hvb
       simp only [fill, Act.put, List.map_cons, List.map_nil, List.setIfInBounds_toArray, List.set_cons_succ, List.set_cons_zero]
       obtain ⟨u, ⟨hA, hg⟩, rfl⟩ := hFin
       have kb : ∀ b, b < wr.heap.size → (Value.slice ab L.length cb).ownBlock ≠ some b → u.heap[b]? = wr.heap[b]? := fun b hb hn => hg.block b (show b < wr.heap.size by omega) (fun he => hn he.symm)
       have hMu := (kb w2.heap.size (by omega) (fun he => by have := hown _ he; omega)).trans HMr.out
       have HM6 := Lib.hid (blk_set hMu 3 v)
       have HE6 := Lib.hid (hA.same (w' := u.setCell ⟨w2.heap.size, 3, none⟩ v) fun b hb hl => Below.heap_setCell _ _ _ _ (by show b ≠ w2.heap.size; omega))
       have hus : wr.heap.size ≤ u.heap.size := hg.size
       have HK6 : Hid (Kept [w2.heap.size] wc (u.setCell ⟨w2.heap.size, 3, none⟩ v)) := ⟨by have h1 : u.os = wr.os := hg.os; exact h1.trans HKr.out.os, by have h1 : u.tape = wr.tape := hg.tape; exact h1.trans HKr.out.tape, by have h1 : u.output = wr.output := hg.output; exact h1.trans HKr.out.output, by rw [size_setCell]; omega, fun b hb hn => by
        have hne : b ≠ w2.heap.size := by simpa using hn
        exact (Below.heap_setCell _ _ _ _ hne).trans ((kb b (by omega) (fun he => by have := hown _ he; omega)).trans (HKr.out.block b hb hn))⟩
       have HL6 : Hid ((L ++ [(⟨[.int .i64 l[k].kind, .string l[k].text, .bool false, .slice none 0 0], ⟨l[k].kind, l[k].text, false, []⟩, []⟩ : Elem Tok)]).length = k + 1 - n) := by show _ = _; rw [List.length_append, HLn.out]; show _ + 1 = _; omega
       have HD6 : Hid ((L ++ [(⟨[.int .i64 l[k].kind, .string l[k].text, .bool false, .slice none 0 0], ⟨l[k].kind, l[k].text, false, []⟩, []⟩ : Elem Tok)]).map (·.d) = (bodyFrom l n).take (k + 1 - n)) := by show _ = _; rw [HT.out, List.map_append, HD.out]; simp
       have HF6 : Hid (∀ x ∈ L ++ [(⟨[.int .i64 l[k].kind, .string l[k].text, .bool false, .slice none 0 0], ⟨l[k].kind, l[k].text, false, []⟩, []⟩ : Elem Tok)], x.fp = []) := fun x hx => by
        rcases List.mem_append.1 hx with h | h
        ·exact HFP.out x h
        ·obtain rfl := List.mem_singleton.1 h; rfl
       clear hA hg kb hMu HMr HE HD HFP HKr HLn HT q3 e0 e1 e2
       go_wp2
       go_roundw
       case rel => exact ⟨k + 1, v, _, by omega, by omega, by go_num, HL6, HM6, HE6, HD6, HF6, HK6⟩
       case measure => simp [intOf]; omega
     ·rw [hsp] at e2 HT
      clear hsp
      go_wp2
      refine wp_region_app (P := Tryd.prog) (by kernel_rfl) (by kernel_rfl) 23 24 26 (by kernel_rfl) (by kernel_rfl) (by decide) (by decide) rfl rfl rfl [some (.pointer (some ⟨w2.heap.size, 3, none⟩)), some (.slice ab L.length cb), some (.slice (some ⟨b1, off1, none⟩) l.length cap), some (.int .i64 (k : Int)), some (.pointer (some ⟨b1, off1 + k * 4, none⟩)), some (.pointer (some ⟨b1, off1 + k * 4, none⟩)), some (.int .i64 l[k].kind), some (.slice (some ⟨b1, off1, none⟩) l.length cap), some (.int .i64 (k : Int)), some (.pointer (some ⟨b1, off1 + k * 4, none⟩)), some (.pointer (some ⟨b1, off1 + k * 4 + 1, none⟩)), some (.string l[k].text), some (.slice (some ⟨b1, off1, none⟩) l.length cap), some (.int .i64 (k : Int)), some (.pointer (some ⟨b1, off1 + k * 4, none⟩)), some (.pointer (some ⟨b1, off1 + k * 4 + 2, none⟩)), some (.bool true), some (.bool true), some (.int .i64 (k : Int)), some (.int .i64 (n : Int)), some (.bool (decide (n < k))), some (.bool (decide (n < k))), some (.agg #[.int .i64 l[k].kind, .string l[k].text, .bool (decide (n < k)), .slice none 0 0]), none, none, some (.pointer (some ⟨w2.heap.size, 3, none⟩)), none] (.slice (some ⟨wr.heap.size, 0, none⟩) 1 1) ((({ wr with drawn := wr.drawn + 1 } : World).alloc (.cells #[.int .i64 l[k].kind, .string l[k].text, .bool (decide (n < k)), .slice none 0 0] 47))) (fun v u => RowE sTok wc.heap.size 47 v (L ++ [(⟨[.int .i64 l[k].kind, .string l[k].text, .bool (decide (n < k)), .slice none 0 0], ⟨l[k].kind, l[k].text, (decide (n < k)), []⟩, []⟩ : Elem Tok)]) u ∧ ({ wr with drawn := wr.drawn + 1 } : World).grownBy u (Value.slice ab L.length cb).ownBlock) (fun v u => ∃ u2, (RowE sTok wc.heap.size 47 v (L ++ [(⟨[.int .i64 l[k].kind, .string l[k].text, .bool (decide (n < k)), .slice none 0 0], ⟨l[k].kind, l[k].text, (decide (n < k)), []⟩, []⟩ : Elem Tok)]) u2 ∧ ({ wr with drawn := wr.drawn + 1 } : World).grownBy u2 (Value.slice ab L.length cb).ownBlock) ∧ u = u2.setCell ⟨w2.heap.size, 3, none⟩ v) (fun u => u.cell? ⟨w2.heap.size, 3, none⟩ = some (.slice ab L.length cb) ∧ u.cell? ⟨b1, off1 + k * 4, none⟩ = some (.int .i64 l[k].kind) ∧ u.cell? ⟨b1, off1 + k * 4 + 1, none⟩ = some (.string l[k].text) ∧ u.cell? ⟨b1, off1 + k * 4 + 2, none⟩ = some (.bool true)) ?b0 ?b1 ?b2 (cons_all ⟨.inr (.inr (.inr ?s0)), .inr (.inr (.inr ?s1)), .inr (.inr (.inr ?s2)), .inr (.inr (.inr ?s3)), .inr (.inr (.inr ?s4)), .inr (.inr (.inr ?s5)), .inr (.inr (.inr ?s6)), .inr (.inr (.inr ?s7)), .inr (.inr (.inr ?s8)), .inr (.inr (.inr ?s9)), .inr (.inr (.inr ?s10)), .inr (.inr (.inr ?s11)), .inr (.inr (.inr ?s12)), .inr (.inr (.inr ?s13)), .inr (.inr (.inr ?s14)), .inr (.inr (.inr ?s15)), .inr (.inr (.inr ?s16)), .inr (.inr (.inr ?s17)), .inr (.inr (.inr ?s18)), .inr (.inr (.inr ?s19)), .inr (.inr (.inr ?s20)), .inr (.inr (.inr ?s21)), .inr (.inr (.inr ?s22)), .inl rfl, .inr (.inl rfl), .inr (.inr (.inr ?s25)), .inr (.inr (.inl rfl)), trivial⟩) ?sA ?sB ?sC ?done
      case b0 =>
       exact ⟨q3, e0, e1, e2⟩
      case b1 =>
       have hbb := alloc_below' ({ wr with drawn := wr.drawn + 1 } : World) (.cells #[.int .i64 l[k].kind, .string l[k].text, .bool (decide (n < k)), .slice none 0 0] 47)
       exact ⟨(hbb.cell (p := ⟨w2.heap.size, 3, none⟩) (show w2.heap.size < wr.heap.size by omega)).trans q3, (hbb.cell (p := ⟨b1, off1 + k * 4, none⟩) (show b1 < wr.heap.size by omega)).trans e0, (hbb.cell (p := ⟨b1, off1 + k * 4 + 1, none⟩) (show b1 < wr.heap.size by omega)).trans e1, (hbb.cell (p := ⟨b1, off1 + k * 4 + 2, none⟩) (show b1 < wr.heap.size by omega)).trans e2⟩
      case b2 =>
       rintro v u ⟨-, hg⟩
       have kb : ∀ b, b < wc.heap.size → u.heap[b]? = wr.heap[b]? := fun b hb => hg.block b (show b < wr.heap.size by omega) (fun he => by have := hown b he.symm; omega)
       exact ⟨(World.cell?_of_block (a := ⟨w2.heap.size, 3, none⟩) (kb w2.heap.size (by omega))).trans q3, (World.cell?_of_block (a := ⟨b1, off1 + k * 4, none⟩) (kb b1 (by omega))).trans e0, (World.cell?_of_block (a := ⟨b1, off1 + k * 4 + 1, none⟩) (kb b1 (by omega))).trans e1, (World.cell?_of_block (a := ⟨b1, off1 + k * 4 + 2, none⟩) (kb b1 (by omega))).trans e2⟩
      case s0 =>
       intro xs w' hl _ hd hB K hK
       obtain ⟨x0, x1, x2, x3, x4, x5, x6, x7, x8, x9, x10, x11, x12, x13, x14, x15, x16, x17, x18, x19, x20, x21, x22, x23, x24, x25, x26, rfl⟩ := len27 hl
       obtain ⟨q3, e0, e1, e2⟩ := hB
       clear hd
       simp only [fill, Act.put, List.map_cons, List.map_nil, List.setIfInBounds_toArray, List.set_cons_succ, List.set_cons_zero] at hK ⊢
       go_wp2
       exact hK _ (fun u hu => by simpa using hu)
      case s1 =>
       intro xs w' hl _ hd hB K hK
       obtain ⟨x0, x1, x2, x3, x4, x5, x6, x7, x8, x9, x10, x11, x12, x13, x14, x15, x16, x17, x18, x19, x20, x21, x22, x23, x24, x25, x26, rfl⟩ := len27 hl
       obtain rfl : x0 = .pointer (some ⟨w2.heap.size, 3, none⟩) := by simpa using hd ⟨0, .data⟩ (by simp) rfl (by decide) (by decide) (by decide) _ rfl
       obtain ⟨q3, e0, e1, e2⟩ := hB
       clear hd
       simp only [fill, Act.put, List.map_cons, List.map_nil, List.setIfInBounds_toArray, List.set_cons_succ, List.set_cons_zero] at hK ⊢
       go_wp2
       exact hK _ (fun u hu => by simpa using hu)
      case s2 =>
       intro xs w' hl _ hd hB K hK
       obtain ⟨x0, x1, x2, x3, x4, x5, x6, x7, x8, x9, x10, x11, x12, x13, x14, x15, x16, x17, x18, x19, x20, x21, x22, x23, x24, x25, x26, rfl⟩ := len27 hl
       obtain ⟨q3, e0, e1, e2⟩ := hB
       clear hd
       simp only [fill, Act.put, List.map_cons, List.map_nil, List.setIfInBounds_toArray, List.set_cons_succ, List.set_cons_zero] at hK ⊢
       go_wp2
       exact hK _ (fun u hu => by simpa using hu)
      case s3 =>
       intro xs w' hl _ hd hB K hK
       obtain ⟨x0, x1, x2, x3, x4, x5, x6, x7, x8, x9, x10, x11, x12, x13, x14, x15, x16, x17, x18, x19, x20, x21, x22, x23, x24, x25, x26, rfl⟩ := len27 hl
       obtain ⟨q3, e0, e1, e2⟩ := hB
       clear hd
       simp only [fill, Act.put, List.map_cons, List.map_nil, List.setIfInBounds_toArray, List.set_cons_succ, List.set_cons_zero] at hK ⊢
       go_wp2
       exact hK _ (fun u hu => by simpa using hu)
      case s4 =>
       intro xs w' hl _ hd hB K hK
       obtain ⟨x0, x1, x2, x3, x4, x5, x6, x7, x8, x9, x10, x11, x12, x13, x14, x15, x16, x17, x18, x19, x20, x21, x22, x23, x24, x25, x26, rfl⟩ := len27 hl
       obtain rfl : x2 = .slice (some ⟨b1, off1, none⟩) l.length cap := by simpa using hd ⟨2, .data⟩ (by simp) rfl (by decide) (by decide) (by decide) _ rfl
       obtain rfl : x3 = .int .i64 (k : Int) := by simpa using hd ⟨3, .data⟩ (by simp) rfl (by decide) (by decide) (by decide) _ rfl
       obtain ⟨q3, e0, e1, e2⟩ := hB
       clear hd
       simp only [fill, Act.put, List.map_cons, List.map_nil, List.setIfInBounds_toArray, List.set_cons_succ, List.set_cons_zero] at hK ⊢
       go_wp2
       exact hK _ (fun u hu => by simpa using hu)
      case s5 =>
       intro xs w' hl _ hd hB K hK
       obtain ⟨x0, x1, x2, x3, x4, x5, x6, x7, x8, x9, x10, x11, x12, x13, x14, x15, x16, x17, x18, x19, x20, x21, x22, x23, x24, x25, x26, rfl⟩ := len27 hl
       obtain rfl : x4 = .pointer (some ⟨b1, off1 + k * 4, none⟩) := by simpa using hd ⟨4, .data⟩ (by simp) rfl (by decide) (by decide) (by decide) _ rfl
       obtain ⟨q3, e0, e1, e2⟩ := hB
       clear hd
       simp only [fill, Act.put, List.map_cons, List.map_nil, List.setIfInBounds_toArray, List.set_cons_succ, List.set_cons_zero] at hK ⊢
       go_wp2
       exact hK _ (fun u hu => by simpa using hu)
      case s6 =>
       intro xs w' hl _ hd hB K hK
       obtain ⟨x0, x1, x2, x3, x4, x5, x6, x7, x8, x9, x10, x11, x12, x13, x14, x15, x16, x17, x18, x19, x20, x21, x22, x23, x24, x25, x26, rfl⟩ := len27 hl
       obtain rfl : x5 = .pointer (some ⟨b1, off1 + k * 4, none⟩) := by simpa using hd ⟨5, .data⟩ (by simp) rfl (by decide) (by decide) (by decide) _ rfl
       obtain ⟨q3, e0, e1, e2⟩ := hB
       clear hd
       simp only [fill, Act.put, List.map_cons, List.map_nil, List.setIfInBounds_toArray, List.set_cons_succ, List.set_cons_zero] at hK ⊢
       go_wp2
       exact hK _ (fun u hu => by simpa using hu)
      case s7 =>
       intro xs w' hl _ hd hB K hK
       obtain ⟨x0, x1, x2, x3, x4, x5, x6, x7, x8, x9, x10, x11, x12, x13, x14, x15, x16, x17, x18, x19, x20, x21, x22, x23, x24, x25, x26, rfl⟩ := len27 hl
       obtain ⟨q3, e0, e1, e2⟩ := hB
       clear hd
       simp only [fill, Act.put, List.map_cons, List.map_nil, List.setIfInBounds_toArray, List.set_cons_succ, List.set_cons_zero] at hK ⊢
       go_wp2
       exact hK _ (fun u hu => by simpa using hu)
      case s8 =>
       intro xs w' hl _ hd hB K hK
       obtain ⟨x0, x1, x2, x3, x4, x5, x6, x7, x8, x9, x10, x11, x12, x13, x14, x15, x16, x17, x18, x19, x20, x21, x22, x23, x24, x25, x26, rfl⟩ := len27 hl
       obtain ⟨q3, e0, e1, e2⟩ := hB
       clear hd
       simp only [fill, Act.put, List.map_cons, List.map_nil, List.setIfInBounds_toArray, List.set_cons_succ, List.set_cons_zero] at hK ⊢
       go_wp2
       exact hK _ (fun u hu => by simpa using hu)
      case s9 =>
       intro xs w' hl _ hd hB K hK
       obtain ⟨x0, x1, x2, x3, x4, x5, x6, x7, x8, x9, x10, x11, x12, x13, x14, x15, x16, x17, x18, x19, x20, x21, x22, x23, x24, x25, x26, rfl⟩ := len27 hl
       obtain rfl : x7 = .slice (some ⟨b1, off1, none⟩) l.length cap := by simpa using hd ⟨7, .data⟩ (by simp) rfl (by decide) (by decide) (by decide) _ rfl
       obtain rfl : x8 = .int .i64 (k : Int) := by simpa using hd ⟨8, .data⟩ (by simp) rfl (by decide) (by decide) (by decide) _ rfl
       obtain ⟨q3, e0, e1, e2⟩ := hB
       clear hd
       simp only [fill, Act.put, List.map_cons, List.map_nil, List.setIfInBounds_toArray, List.set_cons_succ, List.set_cons_zero] at hK ⊢
       go_wp2
       exact hK _ (fun u hu => by simpa using hu)
      case s10 =>
       intro xs w' hl _ hd hB K hK
       obtain ⟨x0, x1, x2, x3, x4, x5, x6, x7, x8, x9, x10, x11, x12, x13, x14, x15, x16, x17, x18, x19, x20, x21, x22, x23, x24, x25, x26, rfl⟩ := len27 hl
       obtain rfl : x9 = .pointer (some ⟨b1, off1 + k * 4, none⟩) := by simpa using hd ⟨9, .data⟩ (by simp) rfl (by decide) (by decide) (by decide) _ rfl
       obtain ⟨q3, e0, e1, e2⟩ := hB
       clear hd
       simp only [fill, Act.put, List.map_cons, List.map_nil, List.setIfInBounds_toArray, List.set_cons_succ, List.set_cons_zero] at hK ⊢
       go_wp2
       exact hK _ (fun u hu => by simpa using hu)
      case s11 =>
       intro xs w' hl _ hd hB K hK
       obtain ⟨x0, x1, x2, x3, x4, x5, x6, x7, x8, x9, x10, x11, x12, x13, x14, x15, x16, x17, x18, x19, x20, x21, x22, x23, x24, x25, x26, rfl⟩ := len27 hl
       obtain rfl : x10 = .pointer (some ⟨b1, off1 + k * 4 + 1, none⟩) := by simpa using hd ⟨10, .data⟩ (by simp) rfl (by decide) (by decide) (by decide) _ rfl
       obtain ⟨q3, e0, e1, e2⟩ := hB
       clear hd
       simp only [fill, Act.put, List.map_cons, List.map_nil, List.setIfInBounds_toArray, List.set_cons_succ, List.set_cons_zero] at hK ⊢
       go_wp2
       exact hK _ (fun u hu => by simpa using hu)
      case s12 =>
       intro xs w' hl _ hd hB K hK
       obtain ⟨x0, x1, x2, x3, x4, x5, x6, x7, x8, x9, x10, x11, x12, x13, x14, x15, x16, x17, x18, x19, x20, x21, x22, x23, x24, x25, x26, rfl⟩ := len27 hl
       obtain ⟨q3, e0, e1, e2⟩ := hB
       clear hd
       simp only [fill, Act.put, List.map_cons, List.map_nil, List.setIfInBounds_toArray, List.set_cons_succ, List.set_cons_zero] at hK ⊢
       go_wp2
       exact hK _ (fun u hu => by simpa using hu)
      case s13 =>
       intro xs w' hl _ hd hB K hK
       obtain ⟨x0, x1, x2, x3, x4, x5, x6, x7, x8, x9, x10, x11, x12, x13, x14, x15, x16, x17, x18, x19, x20, x21, x22, x23, x24, x25, x26, rfl⟩ := len27 hl
       obtain ⟨q3, e0, e1, e2⟩ := hB
       clear hd
       simp only [fill, Act.put, List.map_cons, List.map_nil, List.setIfInBounds_toArray, List.set_cons_succ, List.set_cons_zero] at hK ⊢
       go_wp2
       exact hK _ (fun u hu => by simpa using hu)
      case s14 =>
       intro xs w' hl _ hd hB K hK
       obtain ⟨x0, x1, x2, x3, x4, x5, x6, x7, x8, x9, x10, x11, x12, x13, x14, x15, x16, x17, x18, x19, x20, x21, x22, x23, x24, x25, x26, rfl⟩ := len27 hl
       obtain rfl : x12 = .slice (some ⟨b1, off1, none⟩) l.length cap := by simpa using hd ⟨12, .data⟩ (by simp) rfl (by decide) (by decide) (by decide) _ rfl
       obtain rfl : x13 = .int .i64 (k : Int) := by simpa using hd ⟨13, .data⟩ (by simp) rfl (by decide) (by decide) (by decide) _ rfl
       obtain ⟨q3, e0, e1, e2⟩ := hB
       clear hd
       simp only [fill, Act.put, List.map_cons, List.map_nil, List.setIfInBounds_toArray, List.set_cons_succ, List.set_cons_zero] at hK ⊢
       go_wp2
       exact hK _ (fun u hu => by simpa using hu)
      case s15 =>
       intro xs w' hl _ hd hB K hK
       obtain ⟨x0, x1, x2, x3, x4, x5, x6, x7, x8, x9, x10, x11, x12, x13, x14, x15, x16, x17, x18, x19, x20, x21, x22, x23, x24, x25, x26, rfl⟩ := len27 hl
       obtain rfl : x14 = .pointer (some ⟨b1, off1 + k * 4, none⟩) := by simpa using hd ⟨14, .data⟩ (by simp) rfl (by decide) (by decide) (by decide) _ rfl
       obtain ⟨q3, e0, e1, e2⟩ := hB
       clear hd
       simp only [fill, Act.put, List.map_cons, List.map_nil, List.setIfInBounds_toArray, List.set_cons_succ, List.set_cons_zero] at hK ⊢
       go_wp2
       exact hK _ (fun u hu => by simpa using hu)
      case s16 =>
       intro xs w' hl _ hd hB K hK
       obtain ⟨x0, x1, x2, x3, x4, x5, x6, x7, x8, x9, x10, x11, x12, x13, x14, x15, x16, x17, x18, x19, x20, x21, x22, x23, x24, x25, x26, rfl⟩ := len27 hl
       obtain rfl : x15 = .pointer (some ⟨b1, off1 + k * 4 + 2, none⟩) := by simpa using hd ⟨15, .data⟩ (by simp) rfl (by decide) (by decide) (by decide) _ rfl
       obtain ⟨q3, e0, e1, e2⟩ := hB
       clear hd
       simp only [fill, Act.put, List.map_cons, List.map_nil, List.setIfInBounds_toArray, List.set_cons_succ, List.set_cons_zero] at hK ⊢
       go_wp2
       exact hK _ (fun u hu => by simpa using hu)
      case s17 =>
       intro xs w' hl _ hd hB K hK
       obtain ⟨x0, x1, x2, x3, x4, x5, x6, x7, x8, x9, x10, x11, x12, x13, x14, x15, x16, x17, x18, x19, x20, x21, x22, x23, x24, x25, x26, rfl⟩ := len27 hl
       obtain rfl : x16 = .bool true := by simpa using hd ⟨16, .data⟩ (by simp) rfl (by decide) (by decide) (by decide) _ rfl
       obtain ⟨q3, e0, e1, e2⟩ := hB
       clear hd
       simp only [fill, Act.put, List.map_cons, List.map_nil, List.setIfInBounds_toArray, List.set_cons_succ, List.set_cons_zero] at hK ⊢
       go_wp2
       exact hK _ (fun u hu => by simpa using hu)
      case s18 =>
       intro xs w' hl hold hd hB K hK
       clear hold
       have f17 : xs[17]? = some (.bool true) := hd ⟨17, .guard⟩ (by simp) rfl (by decide) (by decide) (by decide) _ rfl
       clear hd
       obtain ⟨x0, x1, x2, x3, x4, x5, x6, x7, x8, x9, x10, x11, x12, x13, x14, x15, x16, x17, x18, x19, x20, x21, x22, x23, x24, x25, x26, hxs⟩ := len27 hl
       have g17 : x17 = .bool true := by rw [hxs] at f17; simpa using f17
       rw [g17] at hxs
       clear hl f17 g17
       obtain ⟨q3, e0, e1, e2⟩ := hB
       simp only [hxs, fill, Act.put, List.map_cons, List.map_nil, List.setIfInBounds_toArray, List.set_cons_succ, List.set_cons_zero] at hK ⊢
       refine wpList_guarded (by kernel_rfl) ?_
       go_wp2
       exact hK _ (fun u hu => by simpa using hu)
      case s19 =>
       intro xs w' hl hold hd hB K hK
       clear hold
       have f17 : xs[17]? = some (.bool true) := hd ⟨17, .guard⟩ (by simp) rfl (by decide) (by decide) (by decide) _ rfl
       clear hd
       obtain ⟨x0, x1, x2, x3, x4, x5, x6, x7, x8, x9, x10, x11, x12, x13, x14, x15, x16, x17, x18, x19, x20, x21, x22, x23, x24, x25, x26, hxs⟩ := len27 hl
       have g17 : x17 = .bool true := by rw [hxs] at f17; simpa using f17
       rw [g17] at hxs
       clear hl f17 g17
       obtain ⟨q3, e0, e1, e2⟩ := hB
       simp only [hxs, fill, Act.put, List.map_cons, List.map_nil, List.setIfInBounds_toArray, List.set_cons_succ, List.set_cons_zero] at hK ⊢
       refine wpList_guarded (by kernel_rfl) ?_
       go_wp2
       exact hK _ (fun u hu => by simpa using hu)
      case s20 =>
       intro xs w' hl hold hd hB K hK
       clear hold
       have f18 : xs[18]? = some (.int .i64 (k : Int)) := hd ⟨18, .data⟩ (by simp) rfl (by decide) (by decide) (by decide) _ rfl
       have f19 : xs[19]? = some (.int .i64 (n : Int)) := hd ⟨19, .data⟩ (by simp) rfl (by decide) (by decide) (by decide) _ rfl
       have f17 : xs[17]? = some (.bool true) := hd ⟨17, .guard⟩ (by simp) rfl (by decide) (by decide) (by decide) _ rfl
       clear hd
       obtain ⟨x0, x1, x2, x3, x4, x5, x6, x7, x8, x9, x10, x11, x12, x13, x14, x15, x16, x17, x18, x19, x20, x21, x22, x23, x24, x25, x26, hxs⟩ := len27 hl
       have g18 : x18 = .int .i64 (k : Int) := by rw [hxs] at f18; simpa using f18
       have g19 : x19 = .int .i64 (n : Int) := by rw [hxs] at f19; simpa using f19
       have g17 : x17 = .bool true := by rw [hxs] at f17; simpa using f17
       rw [g18, g19, g17] at hxs
       clear hl f18 g18 f19 g19 f17 g17
       obtain ⟨q3, e0, e1, e2⟩ := hB
       simp only [hxs, fill, Act.put, List.map_cons, List.map_nil, List.setIfInBounds_toArray, List.set_cons_succ, List.set_cons_zero] at hK ⊢
       refine wpList_guarded (by kernel_rfl) ?_
       go_wp2
       exact hK _ (fun u hu => by simpa using hu)
      case s21 =>
       intro xs w' hl _ hd hB K hK
       obtain ⟨x0, x1, x2, x3, x4, x5, x6, x7, x8, x9, x10, x11, x12, x13, x14, x15, x16, x17, x18, x19, x20, x21, x22, x23, x24, x25, x26, rfl⟩ := len27 hl
       obtain rfl : x17 = .bool true := by simpa using hd ⟨17, .data⟩ (by simp) rfl (by decide) (by decide) (by decide) _ rfl
       obtain rfl : x20 = .bool (decide (n < k)) := by simpa using hd ⟨20, .data⟩ (by simp) rfl (by decide) (by decide) (by decide) _ rfl
       obtain ⟨q3, e0, e1, e2⟩ := hB
       clear hd
       simp only [fill, Act.put, List.map_cons, List.map_nil, List.setIfInBounds_toArray, List.set_cons_succ, List.set_cons_zero] at hK ⊢
       go_wp2
       exact hK _ (fun u hu => by simpa using hu)
      case s22 =>
       intro xs w' hl _ hd hB K hK
       obtain ⟨x0, x1, x2, x3, x4, x5, x6, x7, x8, x9, x10, x11, x12, x13, x14, x15, x16, x17, x18, x19, x20, x21, x22, x23, x24, x25, x26, rfl⟩ := len27 hl
       obtain rfl : x6 = .int .i64 l[k].kind := by simpa using hd ⟨6, .data⟩ (by simp) rfl (by decide) (by decide) (by decide) _ rfl
       obtain rfl : x11 = .string l[k].text := by simpa using hd ⟨11, .data⟩ (by simp) rfl (by decide) (by decide) (by decide) _ rfl
       obtain rfl : x21 = .bool (decide (n < k)) := by simpa using hd ⟨21, .data⟩ (by simp) rfl (by decide) (by decide) (by decide) _ rfl
       obtain ⟨q3, e0, e1, e2⟩ := hB
       clear hd
       simp only [fill, Act.put, List.map_cons, List.map_nil, List.setIfInBounds_toArray, List.set_cons_succ, List.set_cons_zero] at hK ⊢
       go_wp2
       exact hK _ (fun u hu => by simpa using hu)
      case s25 =>
       intro xs w' hl _ hd hB K hK
       obtain ⟨x0, x1, x2, x3, x4, x5, x6, x7, x8, x9, x10, x11, x12, x13, x14, x15, x16, x17, x18, x19, x20, x21, x22, x23, x24, x25, x26, rfl⟩ := len27 hl
       obtain ⟨q3, e0, e1, e2⟩ := hB
       clear hd
       simp only [fill, Act.put, List.map_cons, List.map_nil, List.setIfInBounds_toArray, List.set_cons_succ, List.set_cons_zero] at hK ⊢
       go_wp2
       exact hK _ (fun u hu => by simpa using hu)
      case sA =>
       intro xs hl hd K hK
       obtain ⟨x0, x1, x2, x3, x4, x5, x6, x7, x8, x9, x10, x11, x12, x13, x14, x15, x16, x17, x18, x19, x20, x21, x22, x23, x24, x25, x26, rfl⟩ := len27 hl
       obtain rfl : x22 = .agg #[.int .i64 l[k].kind, .string l[k].text, .bool (decide (n < k)), .slice none 0 0] := by simpa using hd ⟨22, .data⟩ (by simp) rfl (by decide) (by decide) (by decide) _ rfl
       clear hd
       simp only [fill, Act.put, List.map_cons, List.map_nil, List.setIfInBounds_toArray, List.set_cons_succ, List.set_cons_zero] at hK ⊢
       go_wp2
       exact hK
      case sB =>
       intro xs hl hd hva K hK
       obtain ⟨x0, x1, x2, x3, x4, x5, x6, x7, x8, x9, x10, x11, x12, x13, x14, x15, x16, x17, x18, x19, x20, x21, x22, x23, x24, x25, x26, rfl⟩ := len27 hl
       obtain rfl : x1 = .slice ab L.length cb := by simpa using hd ⟨1, .data⟩ (by simp) rfl (by decide) (by decide) (by decide) _ rfl
       obtain rfl : x23 = .slice (some ⟨wr.heap.size, 0, none⟩) 1 1 := by simpa using hva
       clear hd
       simp only [fill, Act.put, List.map_cons, List.map_nil, List.setIfInBounds_toArray, List.set_cons_succ, List.set_cons_zero] at hK ⊢
       refine wp_append_tokE rfl (.tmp 62) (.tmp 84) rfl wc.heap.size (.slice ab L.length cb) L rfl HEd.out l[k].kind l[k].text (decide (n < k)) none 0 0 [] [] rfl ⟨_, rfl, HKI.out.1, HKI.out.2, slice_empty sStr _ _ _ (by simp)⟩ (by simp) (by simp) (by have := HLn.out; omega) (by show wc.heap.size ≤ wr.heap.size; omega) ?_
       intro v' u' h1 h2
       exact hK v' u' ⟨h1, h2⟩
      case sC =>
       intro xs v w2u hl hd hvb hApp K hK
       obtain ⟨x0, x1, x2, x3, x4, x5, x6, x7, x8, x9, x10, x11, x12, x13, x14, x15, x16, x17, x18, x19, x20, x21, x22, x23, x24, x25, x26, rfl⟩ := len27 hl
       obtain rfl : x25 = .pointer (some ⟨w2.heap.size, 3, none⟩) := by simpa using hd ⟨25, .data⟩ (by simp) rfl (by decide) (by decide) (by decide) _ rfl
       obtain rfl : x24 = v := by simpa using hvb
       clear hd
       simp only [fill, Act.put, List.map_cons, List.map_nil, List.setIfInBounds_toArray, List.set_cons_succ, List.set_cons_zero] at hK ⊢
       obtain ⟨hA, hg⟩ := hApp
       obtain ⟨av, cv, hvv, -⟩ := hA.val
       rw [List.length_append, show ([(⟨[.int .i64 l[k].kind, .string l[k].text, .bool (decide (n < k)), .slice none 0 0], ⟨l[k].kind, l[k].text, (decide (n < k)), []⟩, []⟩ : Elem Tok)] : List (Elem Tok)).length = 1 from rfl] at hvv
       subst hvv
       have hMu := (hg.block w2.heap.size (show w2.heap.size < wr.heap.size by omega) (fun he => by have := hown _ he.symm; omega)).trans HMr.out
       have c3 : w2u.cell? ⟨w2.heap.size, 3, none⟩ = some (.slice ab L.length cb) := cell_of_row _ _ 3 _ _ _ hMu
       have f3 : w2u.frozen? ⟨w2.heap.size, 3, none⟩ = false := frozen_of_row _ _ 3 _ _ hMu
       go_wp2
       exact hK undef _ ⟨_, ⟨hA, hg⟩, rfl⟩
      case done =>
       intro xs v w3 hl hd hva hvb hFin
       obtain ⟨x0, x1, x2, x3, x4, x5, x6, x7, x8, x9, x10, x11, x12, x13, x14, x15, x16, x17, x18, x19, x20, x21, x22, x23, x24, x25, x26, rfl⟩ := len27 hl
       clear hd hva hvb
       simp only [fill, Act.put, List.map_cons, List.map_nil, List.setIfInBounds_toArray, List.set_cons_succ, List.set_cons_zero]
       obtain ⟨u, ⟨hA, hg⟩, rfl⟩ := hFin
       have kb : ∀ b, b < wr.heap.size → (Value.slice ab L.length cb).ownBlock ≠ some b → u.heap[b]? = wr.heap[b]? := fun b hb hn => hg.block b (show b < wr.heap.size by omega) (fun he => hn he.symm)
       have hMu := (kb w2.heap.size (by omega) (fun he => by have := hown _ he; omega)).trans HMr.out
       have HM6 := Lib.hid (blk_set hMu 3 v)
       have HE6 := Lib.hid (hA.same (w' := u.setCell ⟨w2.heap.size, 3, none⟩ v) fun b hb hl => Below.heap_setCell _ _ _ _ (by show b ≠ w2.heap.size; omega))
       have hus : wr.heap.size ≤ u.heap.size := hg.size
       have HK6 : Hid (Kept [w2.heap.size] wc (u.setCell ⟨w2.heap.size, 3, none⟩ v)) := ⟨by have h1 : u.os = wr.os := hg.os; exact h1.trans HKr.out.os, by have h1 : u.tape = wr.tape := hg.tape; exact h1.trans HKr.out.tape, by have h1 : u.output = wr.output := hg.output; exact h1.trans HKr.out.output, by rw [size_setCell]; omega, fun b hb hn => by
        have hne : b ≠ w2.heap.size := by simpa using hn
        exact (Below.heap_setCell _ _ _ _ hne).trans ((kb b (by omega) (fun he => by have := hown _ he; omega)).trans (HKr.out.block b hb hn))⟩
       have HL6 : Hid ((L ++ [(⟨[.int .i64 l[k].kind, .string l[k].text, .bool (decide (n < k)), .slice none 0 0], ⟨l[k].kind, l[k].text, (decide (n < k)), []⟩, []⟩ : Elem Tok)]).length = k + 1 - n) := by show _ = _; rw [List.length_append, HLn.out]; show _ + 1 = _; omega
       have HD6 : Hid ((L ++ [(⟨[.int .i64 l[k].kind, .string l[k].text, .bool (decide (n < k)), .slice none 0 0], ⟨l[k].kind, l[k].text, (decide (n < k)), []⟩, []⟩ : Elem Tok)]).map (·.d) = (bodyFrom l n).take (k + 1 - n)) := by show _ = _; rw [HT.out, List.map_append, HD.out]; simp
       have HF6 : Hid (∀ x ∈ L ++ [(⟨[.int .i64 l[k].kind, .string l[k].text, .bool (decide (n < k)), .slice none 0 0], ⟨l[k].kind, l[k].text, (decide (n < k)), []⟩, []⟩ : Elem Tok)], x.fp = []) := fun x hx => by
        rcases List.mem_append.1 hx with h | h
        ·exact HFP.out x h
        ·obtain rfl := List.mem_singleton.1 h; rfl
       clear hA hg kb hMu HMr HE HD HFP HKr HLn HT q3 e0 e1 e2
       go_wp2
       go_roundw
       case rel => exact ⟨k + 1, v, _, by omega, by omega, by go_num, HL6, HM6, HE6, HD6, HF6, HK6⟩
       case measure => simp [intOf]; omega
    ·have hkl' : k = l.length := by omega
     have hd := HD.out
     rw [List.take_of_length_le (by rw [bodyFrom_len]; omega)] at hd
     obtain ⟨fpb, hRB, hOB⟩ := rowE_own HE.out HFP.out
     rw [hd] at hRB
     have hP := (sSlice sStr).kept HP.out (fun b hb hx => HPn.out (by have e : b = w2.heap.size := (by simpa using hx); exact e ▸ hb)) HKr.out
     have hO := HO.out.kept (fun b hb hx => HPn.out (by have e : b = w2.heap.size := (by simpa using hx); exact e ▸ hb)) HKr.out
     have hap : ∀ b ∈ fpp, b ∉ fpb := fun b h1 h2 => by have h3 := HPlt.out b h1; have h4 := (hOB.2 b h2).1; omega
     have HR : Hid (sMacro.R wr [.string nm, .bool fn, .slice ap ps.length cp, .slice ab L.length cb] ⟨nm, fn, ps, bodyFrom l n⟩ (fpp ++ fpb)) := ⟨_, _, fpp, fpb, rfl, okn, hP, hRB, rfl⟩
     have HOO := Lib.hid (Own.app (hO.lower (by omega : w.heap.size ≤ _)) (hOB.lower (by omega : w.heap.size ≤ _)) hap)
     have hnw : w.heap.size ∉ fpp ++ fpb := fun hx => by
      rcases List.mem_append.1 hx with h | h
      ·have := (HO.out.2 _ h).1; omega
      ·have := (hOB.2 _ h).1; omega
     have HBr := Lib.hid (HBc.out.trans (HKr.out.below (lo := w.heap.size) (by intro b hb; have e : b = w2.heap.size := (by simpa using hb); omega) (by omega)))
     have HZr := Lib.hid ((HKr.out.block w.heap.size (by omega) (by simp; omega)).trans HZc.out)
     have q0 : wr.cell? ⟨w2.heap.size, 0, none⟩ = some (.string nm) := cell_of_row _ _ 0 _ _ _ HMr.out
     have q1 : wr.cell? ⟨w2.heap.size, 1, none⟩ = some (.bool fn) := cell_of_row _ _ 1 _ _ _ HMr.out
     have q2 : wr.cell? ⟨w2.heap.size, 2, none⟩ = some (.slice ap ps.length cp) := cell_of_row _ _ 2 _ _ _ HMr.out
     have q3 : wr.cell? ⟨w2.heap.size, 3, none⟩ = some (.slice ab L.length cb) := cell_of_row _ _ 3 _ _ _ HMr.out
     clear hd hRB hOB hP hO hap HEc HD HE HFP HKr HLn
     go_wp2_with fail
     refine (spec_MacroValid _ _ _ _ HR.out).mono ?_
     rintro e w5 ⟨rfl, hb5⟩
     have hB5 := HBr.out.trans (hb5.mono HBr.out.size)
     have HZ5 := Lib.hid (mbox HZr.out hb5)
     have HM5 := Lib.hid (mbox HMr.out hb5)
     have HR5 := Lib.hid (sMacro.below HR.out hb5)
     have HO5 := Lib.hid (HOO.out.grow hb5)
     clear q0 q1 q2 q3 hb5 HR HOO HZr HMr
     cases hok : macOk ⟨nm, fn, ps, bodyFrom l n⟩
     ·have HFF := Lib.hid (HF.out.trans (chk_no hok))
      clear hok
      have z0 : w5.cell? ⟨w.heap.size, 0, none⟩ = some (.string ⟨#[]⟩) := cell_of_row _ _ 0 _ _ _ HZ5.out
      have zf0 : w5.frozen? ⟨w.heap.size, 0, none⟩ = false := frozen_of_row _ _ 0 _ _ HZ5.out
      have z1 : w5.cell? ⟨w.heap.size, 1, none⟩ = some (.bool false) := cell_of_row _ _ 1 _ _ _ HZ5.out
      have zf1 : w5.frozen? ⟨w.heap.size, 1, none⟩ = false := frozen_of_row _ _ 1 _ _ HZ5.out
      have z2 : w5.cell? ⟨w.heap.size, 2, none⟩ = some (.slice none 0 0) := cell_of_row _ _ 2 _ _ _ HZ5.out
      have zf2 : w5.frozen? ⟨w.heap.size, 2, none⟩ = false := frozen_of_row _ _ 2 _ _ HZ5.out
      have z3 : w5.cell? ⟨w.heap.size, 3, none⟩ = some (.slice none 0 0) := cell_of_row _ _ 3 _ _ _ HZ5.out
      have zf3 : w5.frozen? ⟨w.heap.size, 3, none⟩ = false := frozen_of_row _ _ 3 _ _ HZ5.out
      have HS := Lib.hid (blk_set (blk_set (blk_set (blk_set HZ5.out 0 (.string ⟨#[]⟩)) 1 (.bool false)) 2 (.slice none 0 0)) 3 (.slice none 0 0))
      have HBF := Lib.hid ((((hB5.setCell (p := ⟨w.heap.size, 0, none⟩) (Nat.le_refl _) (.string ⟨#[]⟩)).setCell (p := ⟨w.heap.size, 1, none⟩) (Nat.le_refl _) (.bool false)).setCell (p := ⟨w.heap.size, 2, none⟩) (Nat.le_refl _) (.slice none 0 0)).setCell (p := ⟨w.heap.size, 3, none⟩) (Nat.le_refl _) (.slice none 0 0))
      go_wp2
      refine bodyPost_ret (results_cell2 rfl _ _ w.heap.size _ _ _ _ rfl HS.out Tryd.underlying79 rfl (by kernel_rfl)) rfl ?_
      exact mof_no HFF.out HBF.out
     ·have HFF := Lib.hid (HF.out.trans (chk_yes hok))
      clear hok
      have q0 : w5.cell? ⟨w2.heap.size, 0, none⟩ = some (.string nm) := cell_of_row _ _ 0 _ _ _ HM5.out
      have q1 : w5.cell? ⟨w2.heap.size, 1, none⟩ = some (.bool fn) := cell_of_row _ _ 1 _ _ _ HM5.out
      have q2 : w5.cell? ⟨w2.heap.size, 2, none⟩ = some (.slice ap ps.length cp) := cell_of_row _ _ 2 _ _ _ HM5.out
      have q3 : w5.cell? ⟨w2.heap.size, 3, none⟩ = some (.slice ab L.length cb) := cell_of_row _ _ 3 _ _ _ HM5.out
      have z0 : w5.cell? ⟨w.heap.size, 0, none⟩ = some (.string ⟨#[]⟩) := cell_of_row _ _ 0 _ _ _ HZ5.out
      have z1 : w5.cell? ⟨w.heap.size, 1, none⟩ = some (.bool false) := cell_of_row _ _ 1 _ _ _ HZ5.out
      have z2 : w5.cell? ⟨w.heap.size, 2, none⟩ = some (.slice none 0 0) := cell_of_row _ _ 2 _ _ _ HZ5.out
      have z3 : w5.cell? ⟨w.heap.size, 3, none⟩ = some (.slice none 0 0) := cell_of_row _ _ 3 _ _ _ HZ5.out
      have zf0 : w5.frozen? ⟨w.heap.size, 0, none⟩ = false := frozen_of_row _ _ 0 _ _ HZ5.out
      have zf1 : w5.frozen? ⟨w.heap.size, 1, none⟩ = false := frozen_of_row _ _ 1 _ _ HZ5.out
      have zf2 : w5.frozen? ⟨w.heap.size, 2, none⟩ = false := frozen_of_row _ _ 2 _ _ HZ5.out
      have zf3 : w5.frozen? ⟨w.heap.size, 3, none⟩ = false := frozen_of_row _ _ 3 _ _ HZ5.out
      have HS := Lib.hid (blk_set (blk_set (blk_set (blk_set HZ5.out 0 (.string nm)) 1 (.bool fn)) 2 (.slice ap ps.length cp)) 3 (.slice ab L.length cb))
      have HBF := Lib.hid ((((hB5.setCell (p := ⟨w.heap.size, 0, none⟩) (Nat.le_refl _) (.string nm)).setCell (p := ⟨w.heap.size, 1, none⟩) (Nat.le_refl _) (.bool fn)).setCell (p := ⟨w.heap.size, 2, none⟩) (Nat.le_refl _) (.slice ap ps.length cp)).setCell (p := ⟨w.heap.size, 3, none⟩) (Nat.le_refl _) (.slice ab L.length cb))
      have HRF := Lib.hid (sMacro.setB (sMacro.setB (sMacro.setB (sMacro.setB HR5.out hnw 0 (.string nm)) hnw 1 (.bool fn)) hnw 2 (.slice ap ps.length cp)) hnw 3 (.slice ab L.length cb))
      have HOF := Lib.hid ((((HO5.out.setCell ⟨w.heap.size, 0, none⟩ (.string nm)).setCell ⟨w.heap.size, 1, none⟩ (.bool fn)).setCell ⟨w.heap.size, 2, none⟩ (.slice ap ps.length cp)).setCell ⟨w.heap.size, 3, none⟩ (.slice ab L.length cb))
      clear HR5 HO5 HM5 HZ5 hB5
      go_wp2
      refine bodyPost_ret (results_cell2 rfl _ _ w.heap.size _ _ _ _ rfl HS.out Tryd.underlying79 rfl (by kernel_rfl)) rfl ?_
      exact mof_yes (cs := [.string nm, .bool fn, .slice ap ps.length cp, .slice ab L.length cb]) HFF.out HRF.out HOF.out HBF.out

end Go.Proofs.YtlegeancmcmbaaaDoor

/- strings.Builder at this program, walked here: what its writers leave. (The library's own contracts don't fit this translation: a builder's copy check ends otherwise.) -/
namespace Go.Proofs.YtlegeancmcmbaaaDoor
open Go.RowKit
end Go.Proofs.YtlegeancmcmbaaaDoor
