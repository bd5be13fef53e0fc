/- Texts that the proof of U stands on, in one file. -/
import Derived.Test.YtlegeancmcmbaaaDoorZU6
import Derived.Test.YtlegeancmcmbaaaDoorZU7
import Derived.Test.YtlegeancmcmbaaaDoorZU2
import Derived.Test.YtlegeancmcmbaaaDoorZU4
import Derived.Test.YtlegeancmcmbaaaDoorZU1
import Derived.Laws.ResultCell
set_option linter.unusedVariables false
set_option linter.unusedSimpArgs false
/- MacroValid of the model. (Made by gen_mac3.py.) -/
namespace Go.Proofs.YtlegeancmcmbaaaDoor
open Go.RowKit

set_option maxHeartbeats 16000000 in
set_option maxRecDepth 100000 in
theorem spec_MacroValid_no (m : DMacro) (h2 h3 : Value) (fp2 fp3 : List Nat) (w : World) (k0 : okStr m.name) (K2 : (sSlice sStr).R w [h2] m.params fp2) (K3 : (sSlice sTok).R w [h3] m.body fp3) (hf : m.function = false) :
  Calls Tryd.prog 87 #[.agg #[.string m.name, .bool m.function, h2, h3]] w (Says (macOk m) w) := by
 obtain ⟨a2, cap2, rfl, hc2, hm2, hcell2, hsz2⟩ := open_strs K2
 have K3' := K3
 obtain ⟨a3, cap3, rfl, hc3, hm3, hrow3⟩ := open_rows K3
 unfold maxLen at hm2 hm3
 rw [hf]
 have HN := Lib.hid (fun W => spec_l5Name m.name W k0)
 have hb0 := alloc_below' w (.cells #[.string m.name, .bool false, .slice a2 m.params.length cap2, .slice a3 m.body.length cap3] 79)
 have HX := Lib.hid (heap_alloc_new w (.cells #[.string m.name, .bool false, .slice a2 m.params.length cap2, .slice a3 m.body.length cap3] 79))
 go_enter Tryd.func87, Tryd.ntmps87
 rcases head_ways m with ⟨g1, HF⟩ | ⟨g1, g2, HF⟩ | ⟨g1, g2, g3, HF⟩ | ⟨g1, g2, g3, g4, g5, HF⟩ | ⟨g1, g2, g3, g4, g5, HF⟩ | ⟨g1, g2, g3, g4, g5, HH⟩
 ·rw [g1] at HN
  clear g1
  go_wp2_with (go_at_call 96; refine (HN.out _).mono ?_; rintro e w1 ⟨rfl, hb1⟩)
  go_ret
  exact ⟨ret_bool HF.out.symm, hb0.trans (hb1.mono hb0.size)⟩
 ·rw [g1] at HN
  have e2 := txt_t (l := [100, 101, 102, 105, 110, 101, 100]) g2
  clear g1 g2
  go_wp2_with (go_at_call 96; refine (HN.out _).mono ?_; rintro e w1 ⟨rfl, hb1⟩; have q0 : w1.cell? ⟨w.heap.size, 0, none⟩ = some _ := cell_of_row _ _ 0 _ _ _ ((hb1.block _ (Array.getElem?_eq_some_iff.1 HX.out).1).trans HX.out))
  go_ret
  exact ⟨ret_bool HF.out.symm, hb0.trans (hb1.mono hb0.size)⟩
 ·rw [g1] at HN
  have e2 := txt_f (l := [100, 101, 102, 105, 110, 101, 100]) g2
  clear g1 g2
  go_wp2_with (go_at_call 96; refine (HN.out _).mono ?_; rintro e w1 ⟨rfl, hb1⟩; have q0 : w1.cell? ⟨w.heap.size, 0, none⟩ = some _ := cell_of_row _ _ 0 _ _ _ ((hb1.block _ (Array.getElem?_eq_some_iff.1 HX.out).1).trans HX.out); have q2 : w1.cell? ⟨w.heap.size, 2, none⟩ = some _ := cell_of_row _ _ 2 _ _ _ ((hb1.block _ (Array.getElem?_eq_some_iff.1 HX.out).1).trans HX.out))
  go_ret
  exact ⟨ret_bool HF.out.symm, hb0.trans (hb1.mono hb0.size)⟩
 ·rw [g1] at HN
  have e2 := txt_f (l := [100, 101, 102, 105, 110, 101, 100]) g2
  clear g1 g2
  go_wp2_with (go_at_call 96; refine (HN.out _).mono ?_; rintro e w1 ⟨rfl, hb1⟩; have q0 : w1.cell? ⟨w.heap.size, 0, none⟩ = some _ := cell_of_row _ _ 0 _ _ _ ((hb1.block _ (Array.getElem?_eq_some_iff.1 HX.out).1).trans HX.out); have q1 : w1.cell? ⟨w.heap.size, 1, none⟩ = some _ := cell_of_row _ _ 1 _ _ _ ((hb1.block _ (Array.getElem?_eq_some_iff.1 HX.out).1).trans HX.out); have q2 : w1.cell? ⟨w.heap.size, 2, none⟩ = some _ := cell_of_row _ _ 2 _ _ _ ((hb1.block _ (Array.getElem?_eq_some_iff.1 HX.out).1).trans HX.out))
  go_ret
  exact ⟨ret_bool HF.out.symm, hb0.trans (hb1.mono hb0.size)⟩
 ·rw [g1] at HN
  have e2 := txt_f (l := [100, 101, 102, 105, 110, 101, 100]) g2
  have g6 : ¬ (0 : Int) < (m.params.length : Int) := by rcases g4 with h | h; rw [hf] at h; simp at h; omega
  have g7 : ¬ 0 < m.params.length := by omega
  clear g1 g2 g4
  go_wp2_with (go_at_call 96; refine (HN.out _).mono ?_; rintro e w1 ⟨rfl, hb1⟩; have q0 : w1.cell? ⟨w.heap.size, 0, none⟩ = some _ := cell_of_row _ _ 0 _ _ _ ((hb1.block _ (Array.getElem?_eq_some_iff.1 HX.out).1).trans HX.out); have q1 : w1.cell? ⟨w.heap.size, 1, none⟩ = some _ := cell_of_row _ _ 1 _ _ _ ((hb1.block _ (Array.getElem?_eq_some_iff.1 HX.out).1).trans HX.out); have q2 : w1.cell? ⟨w.heap.size, 2, none⟩ = some _ := cell_of_row _ _ 2 _ _ _ ((hb1.block _ (Array.getElem?_eq_some_iff.1 HX.out).1).trans HX.out); have q3 : w1.cell? ⟨w.heap.size, 3, none⟩ = some _ := cell_of_row _ _ 3 _ _ _ ((hb1.block _ (Array.getElem?_eq_some_iff.1 HX.out).1).trans HX.out))
  go_ret
  exact ⟨ret_bool HF.out.symm, hb0.trans (hb1.mono hb0.size)⟩
 ·rw [g1] at HN
  have e2 := txt_f (l := [100, 101, 102, 105, 110, 101, 100]) g2
  have g6 : ¬ (0 : Int) < (m.params.length : Int) := by rcases g4 with h | h; rw [hf] at h; simp at h; omega
  have g7 : ¬ 0 < m.params.length := by omega
  clear g1 g2 g4
  go_wp2_with (go_at_call 96; refine (HN.out _).mono ?_; rintro e w1 ⟨rfl, hb1⟩; have q0 : w1.cell? ⟨w.heap.size, 0, none⟩ = some _ := cell_of_row _ _ 0 _ _ _ ((hb1.block _ (Array.getElem?_eq_some_iff.1 HX.out).1).trans HX.out); have q1 : w1.cell? ⟨w.heap.size, 1, none⟩ = some _ := cell_of_row _ _ 1 _ _ _ ((hb1.block _ (Array.getElem?_eq_some_iff.1 HX.out).1).trans HX.out); have q2 : w1.cell? ⟨w.heap.size, 2, none⟩ = some _ := cell_of_row _ _ 2 _ _ _ ((hb1.block _ (Array.getElem?_eq_some_iff.1 HX.out).1).trans HX.out); have q3 : w1.cell? ⟨w.heap.size, 3, none⟩ = some _ := cell_of_row _ _ 3 _ _ _ ((hb1.block _ (Array.getElem?_eq_some_iff.1 HX.out).1).trans HX.out))
  have hB1 := hb0.trans (hb1.mono hb0.size)
  have HX1 := Lib.hid ((hb1.block _ (Array.getElem?_eq_some_iff.1 HX.out).1).trans HX.out)
  have HM := Lib.hid (fun W (hb : Below w.heap.size w W) => sMacro.below (show sMacro.R w [.string m.name, .bool false, .slice a2 m.params.length cap2, .slice a3 m.body.length cap3] m (fp2 ++ fp3) from ⟨_, _, fp2, fp3, by rw [hf], k0, K2, K3, rfl⟩) hb)
  clear q0 q1 q2 q3 HN hb0 HX hb1 K3' K2 K3
  go_loopw [3] (fun i wr => ∃ k : Nat, k ≤ m.params.length ∧ i = .int .i64 k ∧ ParUpto m.params k ∧ Below w1.heap.size w1 wr) (fun i _ => m.params.length - (intOf i).toNat)
  case atStart => exact ⟨0, by omega, rfl, ParUpto.zero _, Below.refl _ _⟩
  case round =>
   obtain ⟨k, hk, rfl, hall, hb⟩ := hrel
   have HX2 := Lib.hid ((hb.block _ (Array.getElem?_eq_some_iff.1 HX1.out).1).trans HX1.out)
   have q2 : wr.cell? ⟨w.heap.size, 2, none⟩ = some _ := cell_of_row _ _ 2 _ _ _ HX2.out
   have q3 : wr.cell? ⟨w.heap.size, 3, none⟩ = some _ := cell_of_row _ _ 3 _ _ _ HX2.out
   have hbw := hB1.trans (hb.mono hB1.size)
   by_cases hlt : k < m.params.length
   ·omega
   ·have HP := Lib.hid (show ParUpto m.params m.params.length from fun j hj => hall j (by omega))
    have hz : decide (k < m.params.length) = false := decide_eq_false hlt
    clear hall hk
    go_wp2
    try rw [hz]
    clear q2 q3 HX2 hbw hlt hz
    go_loopw [6] (fun i wr => ∃ k : Nat, k ≤ m.body.length ∧ i = .int .i64 k ∧ BodUpto (bodOk m) k ∧ Below w1.heap.size w1 wr) (fun i _ => m.body.length - (intOf i).toNat)
    case atStart => exact ⟨0, by omega, rfl, BodUpto.zero _, hb⟩
    case round =>
     clear hb
     obtain ⟨k, hk, rfl, hall, hb⟩ := hrel
     have HX3 := Lib.hid ((hb.block _ (Array.getElem?_eq_some_iff.1 HX1.out).1).trans HX1.out)
     have q3 : wr.cell? ⟨w.heap.size, 3, none⟩ = some _ := cell_of_row _ _ 3 _ _ _ HX3.out
     have hbw := hB1.trans (hb.mono hB1.size)
     by_cases hlt : k < m.body.length
     ·obtain ⟨b1, off1, fps1, rfl, hb1', -, he1⟩ := hrow3 (by omega)
      obtain ⟨es1, hE1, hR1⟩ := he1 k hlt
      have hR1' := hR1
      obtain ⟨hh, rfl, -, -, K1⟩ := hR1
      obtain ⟨ah, caph, rfl, -⟩ := open_rows K1
      replace hE1 := hE1.frame (hbw.block b1 hb1')
      have c10 : wr.cell? ⟨b1, off1 + k * 4, none⟩ = some _ := elem_cell0 hE1 (by decide) rfl
      have c11 : wr.cell? ⟨b1, off1 + k * 4 + 1, none⟩ = some _ := elem_cell (j := 1) hE1 (by decide) rfl
      have c12 : wr.cell? ⟨b1, off1 + k * 4 + 2, none⟩ = some _ := elem_cell (j := 2) hE1 (by decide) rfl
      have c13 : wr.cell? ⟨b1, off1 + k * 4 + 3, none⟩ = some _ := elem_cell (j := 3) hE1 (by decide) rfl
      have hbx : Below wr.heap.size wr (wr.alloc (.cells #[.int .i64 m.body[k].kind, .string m.body[k].text, .bool m.body[k].spaced, .slice ah m.body[k].hidden.length caph] 47)) := alloc_below' _ _
      have HT := Lib.hid (heap_alloc_new wr (.cells #[.int .i64 m.body[k].kind, .string m.body[k].text, .bool m.body[k].spaced, .slice ah m.body[k].hidden.length caph] 47))
      have HV := Lib.hid (fun W (hW : Below (wr.alloc (.cells #[.int .i64 m.body[k].kind, .string m.body[k].text, .bool m.body[k].spaced, .slice ah m.body[k].hidden.length caph] 47)).heap.size (wr.alloc (.cells #[.int .i64 m.body[k].kind, .string m.body[k].text, .bool m.body[k].spaced, .slice ah m.body[k].hidden.length caph] 47)) W) => spec_TokenValid _ _ _ W (sTok.below (sTok.below (sTok.below hR1' hbw) hbx) hW))
      clear K1 hR1' hE1
      go_wp2_with fail
      refine (HV.out _ (Below.refl _ _)).mono ?_
      rintro e w2 ⟨rfl, hb2⟩
      have HT2 := Lib.hid ((hb2.block _ (Array.getElem?_eq_some_iff.1 HT.out).1).trans HT.out)
      have hb02 := hbx.trans (hb2.mono hbx.size)
      have hbq := hb.trans (hb02.mono hb.size)
      have hbw2 := hB1.trans (hbq.mono hB1.size)
      have HX4 := Lib.hid ((hb02.block _ (Array.getElem?_eq_some_iff.1 HX3.out).1).trans HX3.out)
      have p1 : w2.cell? ⟨wr.heap.size, 1, none⟩ = some _ := cell_of_row _ _ 1 _ _ _ HT2.out
      have p2 : w2.cell? ⟨wr.heap.size, 2, none⟩ = some _ := cell_of_row _ _ 2 _ _ _ HT2.out
      have p3 : w2.cell? ⟨wr.heap.size, 3, none⟩ = some _ := cell_of_row _ _ 3 _ _ _ HT2.out
      clear q3 c10 c11 c12 c13 HV HT hb2 HX3 hbx hb02 hbw hb
      have q0 : w2.cell? ⟨w.heap.size, 0, none⟩ = some _ := cell_of_row _ _ 0 _ _ _ HX4.out
      have q1 : w2.cell? ⟨w.heap.size, 1, none⟩ = some _ := cell_of_row _ _ 1 _ _ _ HX4.out
      have q2 : w2.cell? ⟨w.heap.size, 2, none⟩ = some _ := cell_of_row _ _ 2 _ _ _ HX4.out
      have q3 : w2.cell? ⟨w.heap.size, 3, none⟩ = some _ := cell_of_row _ _ 3 _ _ _ HX4.out
      cases hv : tokOk m.body[k]
      ·have HF := Lib.hid (macOk_bod hlt (by rw [bodOk_split _ _ hlt, hv]; rfl))
       clear hv hall
       go_wp2
       go_ret
       exact ⟨ret_bool HF.out.symm, hbw2⟩
      have HS := Lib.hid (bodOk_split m k hlt)
      rw [hv] at HS
      clear hv
      have g00 : ((k : Int) == 0) = decide (k = 0) := by rw [Bool.eq_iff_iff]; simp
      have g01 : ((k : Int) == (m.body.length : Int) - 1) = decide (k + 1 = m.body.length) := by rw [Bool.eq_iff_iff]; simp; omega
      rcases bodI_ways hlt with ⟨e1, HI⟩ | ⟨e1, e2, e3, HI⟩ | ⟨e1, e2, e3, e4, HI⟩ | ⟨e1, e2, e3, e4, HI⟩ | ⟨e1, e2, e4, e5, HI⟩ | ⟨e1, e2, e4, e5, e6, HI⟩ | ⟨e1, e2, e4, e5, e6, HI⟩ | ⟨e1, e2, e4, HI⟩
      ·have HF := Lib.hid (macOk_bod hlt (by rw [HS.out, HI.out]; simp))
       have f0 : (0 : Int) < (m.body[k].hidden.length : Int) := by omega
       have f01 : 0 < m.body[k].hidden.length := by omega
       have f02 : decide ((0 : Int) < (m.body[k].hidden.length : Int)) = true := decide_eq_true f0
       clear e1 hall
       go_wp2
       go_ret
       exact ⟨ret_bool HF.out.symm, hbw2⟩
      ·have HF := Lib.hid (macOk_bod hlt (by rw [HS.out, HI.out]; simp))
       have f0 : ¬ (0 : Int) < (m.body[k].hidden.length : Int) := by omega
       have f01 : ¬ 0 < m.body[k].hidden.length := by omega
       rw [decide_eq_true e2] at g00
       rw [e3] at p2
       clear e2 e3
       clear e1 hall
       go_wp2
       go_ret
       exact ⟨ret_bool HF.out.symm, hbw2⟩
      ·have HF := Lib.hid (macOk_bod hlt (by rw [HS.out, HI.out]; simp))
       have f0 : ¬ (0 : Int) < (m.body[k].hidden.length : Int) := by omega
       have f01 : ¬ 0 < m.body[k].hidden.length := by omega
       rw [decide_eq_true e2] at g00
       rw [e3] at p2
       have f4 := txt_t (l := [35, 35]) e4
       have E4 := Lib.hid e4
       clear e4
       clear e2 e3
       clear e1 hall
       go_wp2
       go_ret
       exact ⟨ret_bool HF.out.symm, hbw2⟩
      ·have f0 : ¬ (0 : Int) < (m.body[k].hidden.length : Int) := by omega
       have f01 : ¬ 0 < m.body[k].hidden.length := by omega
       rw [decide_eq_true e2] at g00
       rw [e3] at p2
       have f4 := txt_f (l := [35, 35]) e4
       have E4 := Lib.hid e4
       clear e4
       clear e1 e2 e3
       have HN := Lib.hid (hall.succ (by rw [HS.out, HI.out, hf]; rfl))
       clear hall
       go_wp2
       go_quiet (fail)
       go_wp2
       go_roundw
       case rel => first | exact ⟨k + 1, by omega, by go_num, HN.out, belowN hbq _⟩ | ((repeat apply Exists.intro); exact ⟨⟨k + 1, by omega, by go_num, HN.out, belowN hbq _⟩, rfl⟩)
       case measure => simp [intOf]; omega
      ·have HF := Lib.hid (macOk_bod hlt (by rw [HS.out, HI.out]; simp))
       have f0 : ¬ (0 : Int) < (m.body[k].hidden.length : Int) := by omega
       have f01 : ¬ 0 < m.body[k].hidden.length := by omega
       rw [decide_eq_false e2] at g00
       have f4 := txt_t (l := [35, 35]) e4
       have E4 := Lib.hid e4
       clear e4
       rw [decide_eq_true e5] at g01
       clear e2 e5
       clear e1 hall
       go_wp2
       go_ret
       exact ⟨ret_bool HF.out.symm, hbw2⟩
      ·have HF := Lib.hid (macOk_bod hlt (by rw [HS.out, HI.out]; simp))
       have f0 : ¬ (0 : Int) < (m.body[k].hidden.length : Int) := by omega
       have f01 : ¬ 0 < m.body[k].hidden.length := by omega
       rw [decide_eq_false e2] at g00
       have f4 := txt_t (l := [35, 35]) e4
       have E4 := Lib.hid e4
       clear e4
       rw [decide_eq_false e5] at g01
       obtain ⟨es2, hE2, hR2⟩ := he1 (k - 1) (by omega)
       obtain ⟨h9, rfl, -, -, -⟩ := hR2
       replace hE2 := hE2.frame (hbw2.block b1 hb1')
       have c21 : w2.cell? ⟨b1, off1 + (k - 1) * 4 + 1, none⟩ = some _ := elem_cell (j := 1) hE2 (by decide) rfl
       have h6 : ((k : Int) - 1).toNat = k - 1 := by omega
       have hwl : IntKind.i64.wrap ((k : Int) - 1) = (k : Int) - 1 := IntWalk.i64_in _ (by omega)
       have hi1 : (0 : Int) ≤ (k : Int) - 1 := by omega
       have hi2 : (k : Int) - 1 < (m.body.length : Int) := by omega
       clear hE2
       have f6 := txt_t (l := [35, 35]) e6
       clear e2 e5 e6
       clear e1 hall
       go_wp2
       go_ret
       exact ⟨ret_bool HF.out.symm, hbw2⟩
      ·have f0 : ¬ (0 : Int) < (m.body[k].hidden.length : Int) := by omega
       have f01 : ¬ 0 < m.body[k].hidden.length := by omega
       rw [decide_eq_false e2] at g00
       have f4 := txt_t (l := [35, 35]) e4
       have E4 := Lib.hid e4
       clear e4
       rw [decide_eq_false e5] at g01
       obtain ⟨es2, hE2, hR2⟩ := he1 (k - 1) (by omega)
       obtain ⟨h9, rfl, -, -, -⟩ := hR2
       replace hE2 := hE2.frame (hbw2.block b1 hb1')
       have c21 : w2.cell? ⟨b1, off1 + (k - 1) * 4 + 1, none⟩ = some _ := elem_cell (j := 1) hE2 (by decide) rfl
       have h6 : ((k : Int) - 1).toNat = k - 1 := by omega
       have hwl : IntKind.i64.wrap ((k : Int) - 1) = (k : Int) - 1 := IntWalk.i64_in _ (by omega)
       have hi1 : (0 : Int) ≤ (k : Int) - 1 := by omega
       have hi2 : (k : Int) - 1 < (m.body.length : Int) := by omega
       clear hE2
       have f6 := txt_f (l := [35, 35]) e6
       clear e1 e2 e5 e6
       have HN := Lib.hid (hall.succ (by rw [HS.out, HI.out, hf]; rfl))
       clear hall
       go_wp2
       go_quiet (fail)
       go_wp2
       go_roundw
       case rel => first | exact ⟨k + 1, by omega, by go_num, HN.out, belowN hbq _⟩ | ((repeat apply Exists.intro); exact ⟨⟨k + 1, by omega, by go_num, HN.out, belowN hbq _⟩, rfl⟩)
       case measure => simp [intOf]; omega
      ·have f0 : ¬ (0 : Int) < (m.body[k].hidden.length : Int) := by omega
       have f01 : ¬ 0 < m.body[k].hidden.length := by omega
       rw [decide_eq_false e2] at g00
       have f4 := txt_f (l := [35, 35]) e4
       have E4 := Lib.hid e4
       clear e4
       clear e1 e2
       have HN := Lib.hid (hall.succ (by rw [HS.out, HI.out, hf]; rfl))
       clear hall
       go_wp2
       go_quiet (fail)
       go_wp2
       go_roundw
       case rel => first | exact ⟨k + 1, by omega, by go_num, HN.out, belowN hbq _⟩ | ((repeat apply Exists.intro); exact ⟨⟨k + 1, by omega, by go_num, HN.out, belowN hbq _⟩, rfl⟩)
       case measure => simp [intOf]; omega
     ·have HF := Lib.hid (macOk_yes HH.out HP.out (fun j hj => hall j (by omega)))
      clear hall
      go_wp2
      go_ret
      exact ⟨ret_bool HF.out.symm, hbw⟩

set_option maxHeartbeats 16000000 in
set_option maxRecDepth 100000 in
theorem spec_MacroValid_yes (m : DMacro) (h2 h3 : Value) (fp2 fp3 : List Nat) (w : World) (k0 : okStr m.name) (K2 : (sSlice sStr).R w [h2] m.params fp2) (K3 : (sSlice sTok).R w [h3] m.body fp3) (hf : m.function = true) :
  Calls Tryd.prog 87 #[.agg #[.string m.name, .bool m.function, h2, h3]] w (Says (macOk m) w) := by
 obtain ⟨a2, cap2, rfl, hc2, hm2, hcell2, hsz2⟩ := open_strs K2
 have K3' := K3
 obtain ⟨a3, cap3, rfl, hc3, hm3, hrow3⟩ := open_rows K3
 unfold maxLen at hm2 hm3
 rw [hf]
 have HN := Lib.hid (fun W => spec_l5Name m.name W k0)
 have hb0 := alloc_below' w (.cells #[.string m.name, .bool true, .slice a2 m.params.length cap2, .slice a3 m.body.length cap3] 79)
 have HX := Lib.hid (heap_alloc_new w (.cells #[.string m.name, .bool true, .slice a2 m.params.length cap2, .slice a3 m.body.length cap3] 79))
 go_enter Tryd.func87, Tryd.ntmps87
 rcases head_ways m with ⟨g1, HF⟩ | ⟨g1, g2, HF⟩ | ⟨g1, g2, g3, HF⟩ | ⟨g1, g2, g3, g4, g5, HF⟩ | ⟨g1, g2, g3, g4, g5, HF⟩ | ⟨g1, g2, g3, g4, g5, HH⟩
 ·rw [g1] at HN
  clear g1
  go_wp2_with (go_at_call 96; refine (HN.out _).mono ?_; rintro e w1 ⟨rfl, hb1⟩)
  go_ret
  exact ⟨ret_bool HF.out.symm, hb0.trans (hb1.mono hb0.size)⟩
 ·rw [g1] at HN
  have e2 := txt_t (l := [100, 101, 102, 105, 110, 101, 100]) g2
  clear g1 g2
  go_wp2_with (go_at_call 96; refine (HN.out _).mono ?_; rintro e w1 ⟨rfl, hb1⟩; have q0 : w1.cell? ⟨w.heap.size, 0, none⟩ = some _ := cell_of_row _ _ 0 _ _ _ ((hb1.block _ (Array.getElem?_eq_some_iff.1 HX.out).1).trans HX.out))
  go_ret
  exact ⟨ret_bool HF.out.symm, hb0.trans (hb1.mono hb0.size)⟩
 ·rw [g1] at HN
  have e2 := txt_f (l := [100, 101, 102, 105, 110, 101, 100]) g2
  clear g1 g2
  go_wp2_with (go_at_call 96; refine (HN.out _).mono ?_; rintro e w1 ⟨rfl, hb1⟩; have q0 : w1.cell? ⟨w.heap.size, 0, none⟩ = some _ := cell_of_row _ _ 0 _ _ _ ((hb1.block _ (Array.getElem?_eq_some_iff.1 HX.out).1).trans HX.out); have q2 : w1.cell? ⟨w.heap.size, 2, none⟩ = some _ := cell_of_row _ _ 2 _ _ _ ((hb1.block _ (Array.getElem?_eq_some_iff.1 HX.out).1).trans HX.out))
  go_ret
  exact ⟨ret_bool HF.out.symm, hb0.trans (hb1.mono hb0.size)⟩
 ·rw [hf] at g4; exact absurd g4 (by simp)
 ·rw [g1] at HN
  have e2 := txt_f (l := [100, 101, 102, 105, 110, 101, 100]) g2
  clear g1 g2 g4
  go_wp2_with (go_at_call 96; refine (HN.out _).mono ?_; rintro e w1 ⟨rfl, hb1⟩; have q0 : w1.cell? ⟨w.heap.size, 0, none⟩ = some _ := cell_of_row _ _ 0 _ _ _ ((hb1.block _ (Array.getElem?_eq_some_iff.1 HX.out).1).trans HX.out); have q1 : w1.cell? ⟨w.heap.size, 1, none⟩ = some _ := cell_of_row _ _ 1 _ _ _ ((hb1.block _ (Array.getElem?_eq_some_iff.1 HX.out).1).trans HX.out); have q2 : w1.cell? ⟨w.heap.size, 2, none⟩ = some _ := cell_of_row _ _ 2 _ _ _ ((hb1.block _ (Array.getElem?_eq_some_iff.1 HX.out).1).trans HX.out); have q3 : w1.cell? ⟨w.heap.size, 3, none⟩ = some _ := cell_of_row _ _ 3 _ _ _ ((hb1.block _ (Array.getElem?_eq_some_iff.1 HX.out).1).trans HX.out))
  go_ret
  exact ⟨ret_bool HF.out.symm, hb0.trans (hb1.mono hb0.size)⟩
 ·rw [g1] at HN
  have e2 := txt_f (l := [100, 101, 102, 105, 110, 101, 100]) g2
  clear g1 g2 g4
  go_wp2_with (go_at_call 96; refine (HN.out _).mono ?_; rintro e w1 ⟨rfl, hb1⟩; have q0 : w1.cell? ⟨w.heap.size, 0, none⟩ = some _ := cell_of_row _ _ 0 _ _ _ ((hb1.block _ (Array.getElem?_eq_some_iff.1 HX.out).1).trans HX.out); have q1 : w1.cell? ⟨w.heap.size, 1, none⟩ = some _ := cell_of_row _ _ 1 _ _ _ ((hb1.block _ (Array.getElem?_eq_some_iff.1 HX.out).1).trans HX.out); have q2 : w1.cell? ⟨w.heap.size, 2, none⟩ = some _ := cell_of_row _ _ 2 _ _ _ ((hb1.block _ (Array.getElem?_eq_some_iff.1 HX.out).1).trans HX.out); have q3 : w1.cell? ⟨w.heap.size, 3, none⟩ = some _ := cell_of_row _ _ 3 _ _ _ ((hb1.block _ (Array.getElem?_eq_some_iff.1 HX.out).1).trans HX.out))
  have hB1 := hb0.trans (hb1.mono hb0.size)
  have HX1 := Lib.hid ((hb1.block _ (Array.getElem?_eq_some_iff.1 HX.out).1).trans HX.out)
  have HM := Lib.hid (fun W (hb : Below w.heap.size w W) => sMacro.below (show sMacro.R w [.string m.name, .bool true, .slice a2 m.params.length cap2, .slice a3 m.body.length cap3] m (fp2 ++ fp3) from ⟨_, _, fp2, fp3, by rw [hf], k0, K2, K3, rfl⟩) hb)
  clear q0 q1 q2 q3 HN hb0 HX hb1 K3' K2 K3
  go_loopw [3] (fun i wr => ∃ k : Nat, k ≤ m.params.length ∧ i = .int .i64 k ∧ ParUpto m.params k ∧ Below w1.heap.size w1 wr) (fun i _ => m.params.length - (intOf i).toNat)
  case atStart => exact ⟨0, by omega, rfl, ParUpto.zero _, Below.refl _ _⟩
  case round =>
   obtain ⟨k, hk, rfl, hall, hb⟩ := hrel
   have HX2 := Lib.hid ((hb.block _ (Array.getElem?_eq_some_iff.1 HX1.out).1).trans HX1.out)
   have q2 : wr.cell? ⟨w.heap.size, 2, none⟩ = some _ := cell_of_row _ _ 2 _ _ _ HX2.out
   have q3 : wr.cell? ⟨w.heap.size, 3, none⟩ = some _ := cell_of_row _ _ 3 _ _ _ HX2.out
   have hbw := hB1.trans (hb.mono hB1.size)
   by_cases hlt : k < m.params.length
   ·obtain ⟨b, off, rfl, hbl, _, hce⟩ := hcell2 (by omega)
    have hck := (hbw.cell (p := ⟨b, off + k, none⟩) hbl).trans (hce k hlt)
    have HN := Lib.hid (fun W => spec_l5Name m.params[k] W (hsz2 k hlt))
    cases h1 : oneTok m.params[k] 1
    ·rw [h1] at HN
     have HF := Lib.hid (macOk_par hlt (par_name hlt h1))
     clear h1 hce hall
     go_wp2_with (go_at_call 96; refine (HN.out _).mono ?_; rintro e w2 ⟨rfl, hb2⟩)
     go_ret
     exact ⟨ret_bool HF.out.symm, hbw.trans (hb2.mono hbw.size)⟩
    ·rw [h1] at HN
     have H1 := Lib.hid h1
     clear h1
     go_wp2_with (go_at_call 96; refine (HN.out _).mono ?_; rintro e w2 ⟨rfl, hb2⟩)
     have HX3 := Lib.hid ((hb2.block _ (Array.getElem?_eq_some_iff.1 HX2.out).1).trans HX2.out)
     have hb12 := hb.trans (hb2.mono hb.size)
     clear q2 q3 hck HX2
     go_loopw [4] (fun i wr => ∃ j : Nat, j ≤ k ∧ i = .int .i64 j ∧ NotUpto m.params m.params[k] j ∧ Below w2.heap.size w2 wr) (fun i _ => k - (intOf i).toNat)
     case atStart => exact ⟨0, by omega, rfl, NotUpto.zero _ _, Below.refl _ _⟩
     case round =>
      obtain ⟨j, hj, rfl, hnot, hb3⟩ := hrel
      have HX4 := Lib.hid ((hb3.block _ (Array.getElem?_eq_some_iff.1 HX3.out).1).trans HX3.out)
      have hb13 := hb12.trans (hb3.mono hb12.size)
      have hbw3 := hB1.trans (hb13.mono hB1.size)
      have q2 : wr.cell? ⟨w.heap.size, 2, none⟩ = some _ := cell_of_row _ _ 2 _ _ _ HX4.out
      by_cases hjk : j < k
      ·have hcj := (hbw3.cell (p := ⟨b, off + j, none⟩) hbl).trans (hce j (by omega))
       have hck := (hbw3.cell (p := ⟨b, off + k, none⟩) hbl).trans (hce k hlt)
       by_cases e : m.params[j] = m.params[k]
       ·have e' := bytes_beq e
        have HF := Lib.hid (macOk_par hlt (par_twice hlt hjk e))
        clear e hce hall hnot
        go_wp2
        go_quiet (fail)
        go_wp2
        go_ret
        exact ⟨ret_bool HF.out.symm, belowN hbw3 _⟩
       ·have e' : (m.params[j].toList == m.params[k].toList) = false := bytes_bne e
        have HG := Lib.hid (hnot.succ (by omega) e)
        clear e hce hall hnot
        go_wp2
        go_quiet (fail)
        go_wp2
        go_roundw
        case rel => exact ⟨j + 1, by omega, by go_num, HG.out, belowN hb3 _⟩
        case measure => simp [intOf]; omega
      ·have hjk' : j = k := by omega
       subst hjk'
       have HG := Lib.hid (hall.succ (par_yes hlt H1.out hnot))
       clear hce hall hnot
       go_wp2
       go_roundw
       case rel => exact ⟨j + 1, by omega, by go_num, HG.out, hb13⟩
       case measure => simp [intOf]; omega
   ·have HP := Lib.hid (show ParUpto m.params m.params.length from fun j hj => hall j (by omega))
    have hz : decide (k < m.params.length) = false := decide_eq_false hlt
    clear hall hk
    go_wp2
    try rw [hz]
    clear q2 q3 HX2 hbw hlt hz
    go_loopw [6] (fun i wr => ∃ k : Nat, k ≤ m.body.length ∧ i = .int .i64 k ∧ BodUpto (bodOk m) k ∧ Below w1.heap.size w1 wr) (fun i _ => m.body.length - (intOf i).toNat)
    case atStart => exact ⟨0, by omega, rfl, BodUpto.zero _, hb⟩
    case round =>
     clear hb
     obtain ⟨k, hk, rfl, hall, hb⟩ := hrel
     have HX3 := Lib.hid ((hb.block _ (Array.getElem?_eq_some_iff.1 HX1.out).1).trans HX1.out)
     have q3 : wr.cell? ⟨w.heap.size, 3, none⟩ = some _ := cell_of_row _ _ 3 _ _ _ HX3.out
     have hbw := hB1.trans (hb.mono hB1.size)
     by_cases hlt : k < m.body.length
     ·obtain ⟨b1, off1, fps1, rfl, hb1', -, he1⟩ := hrow3 (by omega)
      obtain ⟨es1, hE1, hR1⟩ := he1 k hlt
      have hR1' := hR1
      obtain ⟨hh, rfl, -, -, K1⟩ := hR1
      obtain ⟨ah, caph, rfl, -⟩ := open_rows K1
      replace hE1 := hE1.frame (hbw.block b1 hb1')
      have c10 : wr.cell? ⟨b1, off1 + k * 4, none⟩ = some _ := elem_cell0 hE1 (by decide) rfl
      have c11 : wr.cell? ⟨b1, off1 + k * 4 + 1, none⟩ = some _ := elem_cell (j := 1) hE1 (by decide) rfl
      have c12 : wr.cell? ⟨b1, off1 + k * 4 + 2, none⟩ = some _ := elem_cell (j := 2) hE1 (by decide) rfl
      have c13 : wr.cell? ⟨b1, off1 + k * 4 + 3, none⟩ = some _ := elem_cell (j := 3) hE1 (by decide) rfl
      have hbx : Below wr.heap.size wr (wr.alloc (.cells #[.int .i64 m.body[k].kind, .string m.body[k].text, .bool m.body[k].spaced, .slice ah m.body[k].hidden.length caph] 47)) := alloc_below' _ _
      have HT := Lib.hid (heap_alloc_new wr (.cells #[.int .i64 m.body[k].kind, .string m.body[k].text, .bool m.body[k].spaced, .slice ah m.body[k].hidden.length caph] 47))
      have HV := Lib.hid (fun W (hW : Below (wr.alloc (.cells #[.int .i64 m.body[k].kind, .string m.body[k].text, .bool m.body[k].spaced, .slice ah m.body[k].hidden.length caph] 47)).heap.size (wr.alloc (.cells #[.int .i64 m.body[k].kind, .string m.body[k].text, .bool m.body[k].spaced, .slice ah m.body[k].hidden.length caph] 47)) W) => spec_TokenValid _ _ _ W (sTok.below (sTok.below (sTok.below hR1' hbw) hbx) hW))
      clear K1 hR1' hE1
      go_wp2_with fail
      refine (HV.out _ (Below.refl _ _)).mono ?_
      rintro e w2 ⟨rfl, hb2⟩
      have HT2 := Lib.hid ((hb2.block _ (Array.getElem?_eq_some_iff.1 HT.out).1).trans HT.out)
      have hb02 := hbx.trans (hb2.mono hbx.size)
      have hbq := hb.trans (hb02.mono hb.size)
      have hbw2 := hB1.trans (hbq.mono hB1.size)
      have HX4 := Lib.hid ((hb02.block _ (Array.getElem?_eq_some_iff.1 HX3.out).1).trans HX3.out)
      have p1 : w2.cell? ⟨wr.heap.size, 1, none⟩ = some _ := cell_of_row _ _ 1 _ _ _ HT2.out
      have p2 : w2.cell? ⟨wr.heap.size, 2, none⟩ = some _ := cell_of_row _ _ 2 _ _ _ HT2.out
      have p3 : w2.cell? ⟨wr.heap.size, 3, none⟩ = some _ := cell_of_row _ _ 3 _ _ _ HT2.out
      clear q3 c10 c11 c12 c13 HV HT hb2 HX3 hbx hb02 hbw hb
      have q0 : w2.cell? ⟨w.heap.size, 0, none⟩ = some _ := cell_of_row _ _ 0 _ _ _ HX4.out
      have q1 : w2.cell? ⟨w.heap.size, 1, none⟩ = some _ := cell_of_row _ _ 1 _ _ _ HX4.out
      have q2 : w2.cell? ⟨w.heap.size, 2, none⟩ = some _ := cell_of_row _ _ 2 _ _ _ HX4.out
      have q3 : w2.cell? ⟨w.heap.size, 3, none⟩ = some _ := cell_of_row _ _ 3 _ _ _ HX4.out
      cases hv : tokOk m.body[k]
      ·have HF := Lib.hid (macOk_bod hlt (by rw [bodOk_split _ _ hlt, hv]; rfl))
       clear hv hall
       go_wp2
       go_ret
       exact ⟨ret_bool HF.out.symm, hbw2⟩
      have HS := Lib.hid (bodOk_split m k hlt)
      rw [hv] at HS
      clear hv
      have g00 : ((k : Int) == 0) = decide (k = 0) := by rw [Bool.eq_iff_iff]; simp
      have g01 : ((k : Int) == (m.body.length : Int) - 1) = decide (k + 1 = m.body.length) := by rw [Bool.eq_iff_iff]; simp; omega
      rcases bodI_ways hlt with ⟨e1, HI⟩ | ⟨e1, e2, e3, HI⟩ | ⟨e1, e2, e3, e4, HI⟩ | ⟨e1, e2, e3, e4, HI⟩ | ⟨e1, e2, e4, e5, HI⟩ | ⟨e1, e2, e4, e5, e6, HI⟩ | ⟨e1, e2, e4, e5, e6, HI⟩ | ⟨e1, e2, e4, HI⟩
      ·have HF := Lib.hid (macOk_bod hlt (by rw [HS.out, HI.out]; simp))
       have f0 : (0 : Int) < (m.body[k].hidden.length : Int) := by omega
       have f01 : 0 < m.body[k].hidden.length := by omega
       have f02 : decide ((0 : Int) < (m.body[k].hidden.length : Int)) = true := decide_eq_true f0
       clear e1 hall
       go_wp2
       go_ret
       exact ⟨ret_bool HF.out.symm, hbw2⟩
      ·have HF := Lib.hid (macOk_bod hlt (by rw [HS.out, HI.out]; simp))
       have f0 : ¬ (0 : Int) < (m.body[k].hidden.length : Int) := by omega
       have f01 : ¬ 0 < m.body[k].hidden.length := by omega
       rw [decide_eq_true e2] at g00
       rw [e3] at p2
       clear e2 e3
       clear e1 hall
       go_wp2
       go_ret
       exact ⟨ret_bool HF.out.symm, hbw2⟩
      ·have HF := Lib.hid (macOk_bod hlt (by rw [HS.out, HI.out]; simp))
       have f0 : ¬ (0 : Int) < (m.body[k].hidden.length : Int) := by omega
       have f01 : ¬ 0 < m.body[k].hidden.length := by omega
       rw [decide_eq_true e2] at g00
       rw [e3] at p2
       have f4 := txt_t (l := [35, 35]) e4
       have E4 := Lib.hid e4
       clear e4
       clear e2 e3
       clear e1 hall
       go_wp2
       go_ret
       exact ⟨ret_bool HF.out.symm, hbw2⟩
      ·have f0 : ¬ (0 : Int) < (m.body[k].hidden.length : Int) := by omega
       have f01 : ¬ 0 < m.body[k].hidden.length := by omega
       rw [decide_eq_true e2] at g00
       rw [e3] at p2
       have f4 := txt_f (l := [35, 35]) e4
       have E4 := Lib.hid e4
       clear e4
       clear e1 e2 e3
       by_cases e7 : m.body[k].text = hash1
       ·have f7 := txt_t (l := [35]) e7
        have E7 := Lib.hid e7
        clear e7
        by_cases e8 : k + 1 = m.body.length
        ·have HF := Lib.hid (macOk_bod hlt (by rw [HS.out, HI.out, hf, signS_last hlt E7.out e8]; rfl))
         rw [decide_eq_true e8] at g01
         clear e8 hall
         go_wp2
         go_quiet (fail)
         go_wp2
         go_ret
         exact ⟨ret_bool HF.out.symm, belowN hbw2 _⟩
        ·have hk1 : k + 1 < m.body.length := by omega
         obtain ⟨es3, hE3, hR3⟩ := he1 (k + 1) hk1
         have hR3' := hR3
         obtain ⟨h9, rfl, -, -, -⟩ := hR3
         replace hE3 := hE3.frame (hbw2.block b1 hb1')
         have c30 : w2.cell? ⟨b1, off1 + (k + 1) * 4, none⟩ = some _ := elem_cell0 hE3 (by decide) rfl
         have c31 : w2.cell? ⟨b1, off1 + (k + 1) * 4 + 1, none⟩ = some _ := elem_cell (j := 1) hE3 (by decide) rfl
         have c32 : w2.cell? ⟨b1, off1 + (k + 1) * 4 + 2, none⟩ = some _ := elem_cell (j := 2) hE3 (by decide) rfl
         have c33 : w2.cell? ⟨b1, off1 + (k + 1) * 4 + 3, none⟩ = some _ := elem_cell (j := 3) hE3 (by decide) rfl
         have HC := Lib.hid (fun W (hW : Below w2.heap.size w2 W) => spec_l5Param _ _ m m.body[k + 1] _ _ W (HM.out W (hbw2.trans (hW.mono hbw2.size))) (sTok.below (sTok.below hR3' hbw2) hW))
         have h6 : ((k : Int) + 1).toNat = k + 1 := by omega
         have hwl : IntKind.i64.wrap ((k : Int) + 1) = (k : Int) + 1 := IntWalk.i64_in _ (by omega)
         have hi1 : (0 : Int) ≤ (k : Int) + 1 := by omega
         have hi2 : (k : Int) + 1 < (m.body.length : Int) := by omega
         rw [decide_eq_false e8] at g01
         clear hE3 hR3' e8 he1 hrow3
         go_wp2
         go_still_tail 19, (by kernel_rfl)
         change wpList _ _ _ _ _ w2.drew
         have hd : Below w2.heap.size w2 w2.drew := belowN (Below.refl _ _) 1
         generalize w2.drew = w3 at *
         by_cases e9 : parOf m.params m.body[k + 1] < 0
         ·have HF := Lib.hid (macOk_bod hlt (by rw [HS.out, HI.out, hf, signS_no hk1 E7.out e9]; rfl))
          clear hall
          go_wp2_with (go_at_call 97; refine (HC.out _ hd).mono ?_; rintro e w4 ⟨rfl, hb4⟩)
          go_ret
          exact ⟨ret_bool HF.out.symm, (hbw2.trans (hd.mono hbw2.size)).trans (hb4.mono (Nat.le_trans hbw2.size hd.size))⟩
         ·have HN := Lib.hid (hall.succ (by rw [HS.out, HI.out, hf, signS_yes hk1 E7.out e9]; rfl))
          clear hall
          go_wp2_with (go_at_call 97; refine (HC.out _ hd).mono ?_; rintro e w4 ⟨rfl, hb4⟩)
          go_roundw
          case rel => first | exact ⟨k + 1, by omega, by go_num, HN.out, (hbq.trans (hd.mono hbq.size)).trans (hb4.mono (Nat.le_trans hbq.size hd.size))⟩ | ((repeat apply Exists.intro); exact ⟨⟨k + 1, by omega, by go_num, HN.out, (hbq.trans (hd.mono hbq.size)).trans (hb4.mono (Nat.le_trans hbq.size hd.size))⟩, rfl⟩)
          case measure => simp [intOf]; omega
       ·have f7 := txt_f (l := [35]) e7
        have HN := Lib.hid (hall.succ (by rw [HS.out, HI.out, hf, signS_other hlt e7]; rfl))
        clear e7 hall
        go_wp2
        go_quiet (fail)
        go_wp2
        go_roundw
        case rel => first | exact ⟨k + 1, by omega, by go_num, HN.out, belowN hbq _⟩ | ((repeat apply Exists.intro); exact ⟨⟨k + 1, by omega, by go_num, HN.out, belowN hbq _⟩, rfl⟩)
        case measure => simp [intOf]; omega
      ·have HF := Lib.hid (macOk_bod hlt (by rw [HS.out, HI.out]; simp))
       have f0 : ¬ (0 : Int) < (m.body[k].hidden.length : Int) := by omega
       have f01 : ¬ 0 < m.body[k].hidden.length := by omega
       rw [decide_eq_false e2] at g00
       have f4 := txt_t (l := [35, 35]) e4
       have E4 := Lib.hid e4
       clear e4
       rw [decide_eq_true e5] at g01
       clear e2 e5
       clear e1 hall
       go_wp2
       go_ret
       exact ⟨ret_bool HF.out.symm, hbw2⟩
      ·have HF := Lib.hid (macOk_bod hlt (by rw [HS.out, HI.out]; simp))
       have f0 : ¬ (0 : Int) < (m.body[k].hidden.length : Int) := by omega
       have f01 : ¬ 0 < m.body[k].hidden.length := by omega
       rw [decide_eq_false e2] at g00
       have f4 := txt_t (l := [35, 35]) e4
       have E4 := Lib.hid e4
       clear e4
       rw [decide_eq_false e5] at g01
       obtain ⟨es2, hE2, hR2⟩ := he1 (k - 1) (by omega)
       obtain ⟨h9, rfl, -, -, -⟩ := hR2
       replace hE2 := hE2.frame (hbw2.block b1 hb1')
       have c21 : w2.cell? ⟨b1, off1 + (k - 1) * 4 + 1, none⟩ = some _ := elem_cell (j := 1) hE2 (by decide) rfl
       have h6 : ((k : Int) - 1).toNat = k - 1 := by omega
       have hwl : IntKind.i64.wrap ((k : Int) - 1) = (k : Int) - 1 := IntWalk.i64_in _ (by omega)
       have hi1 : (0 : Int) ≤ (k : Int) - 1 := by omega
       have hi2 : (k : Int) - 1 < (m.body.length : Int) := by omega
       clear hE2
       have f6 := txt_t (l := [35, 35]) e6
       clear e2 e5 e6
       clear e1 hall
       go_wp2
       go_ret
       exact ⟨ret_bool HF.out.symm, hbw2⟩
      ·have f0 : ¬ (0 : Int) < (m.body[k].hidden.length : Int) := by omega
       have f01 : ¬ 0 < m.body[k].hidden.length := by omega
       rw [decide_eq_false e2] at g00
       have f4 := txt_t (l := [35, 35]) e4
       have E4 := Lib.hid e4
       clear e4
       rw [decide_eq_false e5] at g01
       obtain ⟨es2, hE2, hR2⟩ := he1 (k - 1) (by omega)
       obtain ⟨h9, rfl, -, -, -⟩ := hR2
       replace hE2 := hE2.frame (hbw2.block b1 hb1')
       have c21 : w2.cell? ⟨b1, off1 + (k - 1) * 4 + 1, none⟩ = some _ := elem_cell (j := 1) hE2 (by decide) rfl
       have h6 : ((k : Int) - 1).toNat = k - 1 := by omega
       have hwl : IntKind.i64.wrap ((k : Int) - 1) = (k : Int) - 1 := IntWalk.i64_in _ (by omega)
       have hi1 : (0 : Int) ≤ (k : Int) - 1 := by omega
       have hi2 : (k : Int) - 1 < (m.body.length : Int) := by omega
       clear hE2
       have f6 := txt_f (l := [35, 35]) e6
       clear e1 e2 e5 e6
       by_cases e7 : m.body[k].text = hash1
       ·exact absurd (e7.symm.trans E4.out) (by decide)
       ·have f7 := txt_f (l := [35]) e7
        have HN := Lib.hid (hall.succ (by rw [HS.out, HI.out, hf, signS_other hlt e7]; rfl))
        clear e7 hall
        go_wp2
        go_quiet (fail)
        go_wp2
        go_roundw
        case rel => first | exact ⟨k + 1, by omega, by go_num, HN.out, belowN hbq _⟩ | ((repeat apply Exists.intro); exact ⟨⟨k + 1, by omega, by go_num, HN.out, belowN hbq _⟩, rfl⟩)
        case measure => simp [intOf]; omega
      ·have f0 : ¬ (0 : Int) < (m.body[k].hidden.length : Int) := by omega
       have f01 : ¬ 0 < m.body[k].hidden.length := by omega
       rw [decide_eq_false e2] at g00
       have f4 := txt_f (l := [35, 35]) e4
       have E4 := Lib.hid e4
       clear e4
       clear e1 e2
       by_cases e7 : m.body[k].text = hash1
       ·have f7 := txt_t (l := [35]) e7
        have E7 := Lib.hid e7
        clear e7
        by_cases e8 : k + 1 = m.body.length
        ·have HF := Lib.hid (macOk_bod hlt (by rw [HS.out, HI.out, hf, signS_last hlt E7.out e8]; rfl))
         rw [decide_eq_true e8] at g01
         clear e8 hall
         go_wp2
         go_quiet (fail)
         go_wp2
         go_ret
         exact ⟨ret_bool HF.out.symm, belowN hbw2 _⟩
        ·have hk1 : k + 1 < m.body.length := by omega
         obtain ⟨es3, hE3, hR3⟩ := he1 (k + 1) hk1
         have hR3' := hR3
         obtain ⟨h9, rfl, -, -, -⟩ := hR3
         replace hE3 := hE3.frame (hbw2.block b1 hb1')
         have c30 : w2.cell? ⟨b1, off1 + (k + 1) * 4, none⟩ = some _ := elem_cell0 hE3 (by decide) rfl
         have c31 : w2.cell? ⟨b1, off1 + (k + 1) * 4 + 1, none⟩ = some _ := elem_cell (j := 1) hE3 (by decide) rfl
         have c32 : w2.cell? ⟨b1, off1 + (k + 1) * 4 + 2, none⟩ = some _ := elem_cell (j := 2) hE3 (by decide) rfl
         have c33 : w2.cell? ⟨b1, off1 + (k + 1) * 4 + 3, none⟩ = some _ := elem_cell (j := 3) hE3 (by decide) rfl
         have HC := Lib.hid (fun W (hW : Below w2.heap.size w2 W) => spec_l5Param _ _ m m.body[k + 1] _ _ W (HM.out W (hbw2.trans (hW.mono hbw2.size))) (sTok.below (sTok.below hR3' hbw2) hW))
         have h6 : ((k : Int) + 1).toNat = k + 1 := by omega
         have hwl : IntKind.i64.wrap ((k : Int) + 1) = (k : Int) + 1 := IntWalk.i64_in _ (by omega)
         have hi1 : (0 : Int) ≤ (k : Int) + 1 := by omega
         have hi2 : (k : Int) + 1 < (m.body.length : Int) := by omega
         rw [decide_eq_false e8] at g01
         clear hE3 hR3' e8 he1 hrow3
         go_wp2
         go_still_tail 19, (by kernel_rfl)
         change wpList _ _ _ _ _ w2.drew
         have hd : Below w2.heap.size w2 w2.drew := belowN (Below.refl _ _) 1
         generalize w2.drew = w3 at *
         by_cases e9 : parOf m.params m.body[k + 1] < 0
         ·have HF := Lib.hid (macOk_bod hlt (by rw [HS.out, HI.out, hf, signS_no hk1 E7.out e9]; rfl))
          clear hall
          go_wp2_with (go_at_call 97; refine (HC.out _ hd).mono ?_; rintro e w4 ⟨rfl, hb4⟩)
          go_ret
          exact ⟨ret_bool HF.out.symm, (hbw2.trans (hd.mono hbw2.size)).trans (hb4.mono (Nat.le_trans hbw2.size hd.size))⟩
         ·have HN := Lib.hid (hall.succ (by rw [HS.out, HI.out, hf, signS_yes hk1 E7.out e9]; rfl))
          clear hall
          go_wp2_with (go_at_call 97; refine (HC.out _ hd).mono ?_; rintro e w4 ⟨rfl, hb4⟩)
          go_roundw
          case rel => first | exact ⟨k + 1, by omega, by go_num, HN.out, (hbq.trans (hd.mono hbq.size)).trans (hb4.mono (Nat.le_trans hbq.size hd.size))⟩ | ((repeat apply Exists.intro); exact ⟨⟨k + 1, by omega, by go_num, HN.out, (hbq.trans (hd.mono hbq.size)).trans (hb4.mono (Nat.le_trans hbq.size hd.size))⟩, rfl⟩)
          case measure => simp [intOf]; omega
       ·have f7 := txt_f (l := [35]) e7
        have HN := Lib.hid (hall.succ (by rw [HS.out, HI.out, hf, signS_other hlt e7]; rfl))
        clear e7 hall
        go_wp2
        go_quiet (fail)
        go_wp2
        go_roundw
        case rel => first | exact ⟨k + 1, by omega, by go_num, HN.out, belowN hbq _⟩ | ((repeat apply Exists.intro); exact ⟨⟨k + 1, by omega, by go_num, HN.out, belowN hbq _⟩, rfl⟩)
        case measure => simp [intOf]; omega
     ·have HF := Lib.hid (macOk_yes HH.out HP.out (fun j hj => hall j (by omega)))
      clear hall
      go_wp2
      go_ret
      exact ⟨ret_bool HF.out.symm, hbw⟩


end Go.Proofs.YtlegeancmcmbaaaDoor

/- MacroValid of the program. -/
namespace Go.Proofs.YtlegeancmcmbaaaDoor
open Go.RowKit

def idxTx (ps : List ByteArray) (x : ByteArray) (k : Nat) : Int := if h : k < ps.length then (if x = ps[k] then (k : Int) else idxTx ps x (k + 1)) else -1
termination_by ps.length - k
theorem idx_end {ps : List ByteArray} {x : ByteArray} {k : Nat} (h : ps.length ≤ k) : idxTx ps x k = -1 := by rw [idxTx, dif_neg (by omega)]
theorem idx_hit {ps : List ByteArray} {x : ByteArray} {k : Nat} (h : k < ps.length) (h1 : x = ps[k]) : idxTx ps x k = k := by rw [idxTx, dif_pos h, if_pos h1]
theorem idx_miss {ps : List ByteArray} {x : ByteArray} {k : Nat} (h : k < ps.length) (h1 : x ≠ ps[k]) : idxTx ps x k = idxTx ps x (k + 1) := by rw [idxTx, dif_pos h, if_neg h1]
theorem idx_has (ps : List ByteArray) (x : ByteArray) (k : Nat) : decide (0 ≤ idxTx ps x k) = hasTx (ps.drop k) x := by
 induction k using idxTx.induct (ps := ps) (x := x) with
 |
  case1 k h hc =>
  rw [idx_hit h hc, List.drop_eq_getElem_cons h]
  unfold hasTx
  rw [List.any_cons, decide_eq_true hc.symm, Bool.true_or, decide_eq_true (by omega)]
 |
  case2 k h hc ih =>
  have hc' : ¬ ps[k] = x := fun e => hc e.symm
  rw [idx_miss h hc, ih, List.drop_eq_getElem_cons h]
  unfold hasTx
  rw [List.any_cons, decide_eq_false hc', Bool.false_or]
 | case3 k h => rw [idx_end (by omega), List.drop_eq_nil_iff.2 (by omega)]; rfl
theorem idx_has0 (ps : List ByteArray) (x : ByteArray) : decide (0 ≤ idxTx ps x 0) = hasTx ps x := idx_has ps x 0

set_option maxHeartbeats 2000000 in
theorem lib_Index (v : Value) (l : List ByteArray) (fp : List Nat) (x : ByteArray) (w : World) (H : (sSlice sStr).R w [v] l fp) :
  Calls Tryd.prog 110 #[v, .string x] w fun e w' => e = .returned (.int .i64 (idxTx l x 0)) ∧ w' = w := by
 obtain ⟨a, cap, rfl, hc, hm, hcell, hsz⟩ := open_strs H
 unfold maxLen at hm
 clear H
 go_enter Tryd.func110, Tryd.ntmps110
 go_wp2
 go_loopw [8] (fun i wr => ∃ k : Nat, k ≤ l.length ∧ i = .int .i64 k ∧ Hid (idxTx l x 0 = idxTx l x k) ∧ wr = w) (fun i _ => l.length - (intOf i).toNat)
 case atStart => exact ⟨0, by omega, rfl, rfl, rfl⟩
 case round =>
  obtain ⟨k, hk, rfl, HP, rfl⟩ := hrel
  by_cases hlt : k < l.length
  ·obtain ⟨b, off, rfl, hbl, _, hc2⟩ := hcell (by omega)
   have hck := hc2 k hlt
   clear hcell hc2
   by_cases e : x = l[k]
   ·have g := bytes_beq e
    have HF := Lib.hid (idx_hit hlt e)
    clear e
    go_wp2
    go_ret
    exact ⟨ret_int (by rw [HP.out, HF.out]), by first | rfl | trivial⟩
   ·have g : (x.toList == l[k].toList) = false := bytes_bne e
    have HF := Lib.hid (idx_miss hlt e)
    clear e
    go_wp2
    go_roundw
    case rel => exact ⟨k + 1, by omega, by go_num, by show _ = _; rw [HP.out, HF.out], by first | rfl | trivial⟩
    case measure => simp [intOf]; omega
  ·have HF := Lib.hid (idx_end (x := x) (by omega : l.length ≤ k))
   go_wp2
   go_ret
   exact ⟨ret_int (by rw [HP.out, HF.out]), by first | rfl | trivial⟩
theorem lib_Contains (v : Value) (l : List ByteArray) (fp : List Nat) (x : ByteArray) (w : World) (H : (sSlice sStr).R w [v] l fp) :
  Calls Tryd.prog 107 #[v, .string x] w fun e w' => e = .returned (.bool (hasTx l x)) ∧ w' = w := by
 have HC := Lib.hid (lib_Index v l fp x w H)
 have HF := Lib.hid (idx_has0 l x)
 clear H
 go_enter Tryd.func107, Tryd.ntmps107
 go_wp2_with (go_at_call 110; refine HC.out.mono ?_; rintro e w' ⟨rfl, rfl⟩)
 go_ret
 exact ⟨ret_bool HF.out, by first | rfl | trivial⟩

theorem par_take {ps : List ByteArray} {k : Nat} (hk : k < ps.length) : parOk ps k = (oneTok ps[k] 1 && !hasTx (ps.take k) ps[k]) := by
 unfold parOk
 rw [dif_pos hk]
 congr 1
 cases h : hasTx (ps.take k) ps[k]
 ·rw [Bool.not_false, List.all_eq_true]
  intro j hj
  have hj' : j < k := by simpa using hj
  rw [List.getElem?_eq_getElem (by omega), Bool.not_eq_true', decide_eq_false_iff_not]
  intro e
  have : hasTx (ps.take k) ps[k] = true := hasTx_iff.2 (by rw [← Option.some.inj e]; exact List.mem_take_iff_getElem.2 ⟨j, by omega, rfl⟩)
  rw [h] at this
  exact absurd this (by simp)
 ·rw [Bool.not_true, List.all_eq_false]
  obtain ⟨j, hj, he⟩ := List.mem_take_iff_getElem.1 (hasTx_iff.1 h)
  exact ⟨j, by simp; omega, by rw [List.getElem?_eq_getElem (by omega), he]; simp⟩
theorem parsOk_long {ps : List ByteArray} (h : 4 < ps.length) : parsOk ps = false := by unfold parsOk; rw [decide_eq_false (by omega)]; rfl
theorem parsOk_no {ps : List ByteArray} {k : Nat} (hk : k < ps.length) (h : parOk ps k = false) : parsOk ps = false := by unfold parsOk; rw [range_no hk h, Bool.and_false]
theorem parsOk_yes {ps : List ByteArray} (hl : ps.length ≤ 4) (h : ParUpto ps ps.length) : parsOk ps = true := by unfold parsOk; rw [range_yes h, decide_eq_true hl]; rfl

set_option maxHeartbeats 4000000 in
set_option maxRecDepth 100000 in
theorem impl_paramsValid (v : Value) (l : List ByteArray) (fp : List Nat) (w : World) (H : (sSlice sStr).R w [v] l fp) :
  Calls Tryd.prog 101 #[v] w (Says (parsOk l) w) := by
 have H' := H
 obtain ⟨a, cap, rfl, hc, hm, hcell, hsz⟩ := open_strs H
 unfold maxLen at hm
 clear H
 by_cases hl : 4 < l.length
 ·have HF := Lib.hid (parsOk_long hl)
  go_enter Tryd.func101, Tryd.ntmps101
  go_wp2
  go_ret
  exact ⟨ret_bool HF.out.symm, Below.refl _ _⟩
 go_enter Tryd.func101, Tryd.ntmps101
 go_wp2
 go_loopw [10] (fun i wr => ∃ k : Nat, k ≤ l.length ∧ i = .int .i64 k ∧ ParUpto l k ∧ Below w.heap.size w wr) (fun i _ => l.length - (intOf i).toNat)
 case atStart => exact ⟨0, by omega, rfl, ParUpto.zero _, Below.refl _ _⟩
 case round =>
  obtain ⟨k, hk, rfl, hall, hb⟩ := hrel
  by_cases hlt : k < l.length
  ·obtain ⟨b, off, rfl, hbl, _, hc2⟩ := hcell (by omega)
   have hck := (hb.cell (p := ⟨b, off + k, none⟩) hbl).trans (hc2 k hlt)
   have HC := Lib.hid (fun W => impl_isOneToken l[k] 1 W (hsz k hlt))
   obtain ⟨fpt, HT, -⟩ := slice_take k hk H'
   have HD := Lib.hid (fun W (hW : Below wr.heap.size wr W) => lib_Contains _ _ _ l[k] W ((sSlice sStr).below ((sSlice sStr).below HT hb) hW))
   have hpk := par_take hlt
   clear hcell hc2 HT H'
   cases h1 : oneTok l[k] 1
   ·rw [h1] at HC hpk
    have HF := Lib.hid (parsOk_no hlt (hpk.trans rfl))
    clear h1 hpk hall HD
    go_wp2_with (go_at_call 88; refine (HC.out _).mono ?_; rintro e w1 ⟨rfl, hb1⟩)
    go_ret
    exact ⟨ret_bool HF.out.symm, hb.trans (hb1.mono hb.size)⟩
   ·rw [h1] at HC hpk
    clear h1
    go_wp2_with fail
    refine (HC.out _).mono ?_
    rintro e w1 ⟨rfl, hb1⟩
    go_wp2_with fail
    refine (HD.out _ hb1).mono ?_
    rintro e w2 ⟨rfl, rfl⟩
    have hbq := hb.trans (hb1.mono hb.size)
    cases h2 : hasTx (l.take k) l[k]
    ·rw [h2] at hpk
     have HN := Lib.hid (hall.succ (hpk.trans rfl))
     clear h2 hpk hall hck HD HC hb1
     go_wp2
     go_roundw
     case rel => exact ⟨k + 1, by omega, by go_num, HN.out, hbq⟩
     case measure => simp [intOf]; omega
    ·rw [h2] at hpk
     have HF := Lib.hid (parsOk_no hlt (hpk.trans rfl))
     clear h2 hpk hall hck HD HC hb1
     go_wp2
     go_ret
     exact ⟨ret_bool HF.out.symm, hbq⟩
  ·have HF := Lib.hid (parsOk_yes (by omega) (fun j hj => hall j (by omega)))
   clear hall
   go_wp2
   go_ret
   exact ⟨ret_bool HF.out.symm, hb⟩

end Go.Proofs.YtlegeancmcmbaaaDoor

/- MacroValid of the program, from its parts. (Made by gen_mac5.py.) -/
namespace Go.Proofs.YtlegeancmcmbaaaDoor
open Go.RowKit

theorem bodyI_long {b : List Tok} (h : 20 < b.length) : bodyOkI b = false := by unfold bodyOkI; rw [decide_eq_false (by omega)]; rfl
theorem bodyI_toks {b : List Tok} (h : toksOk b = false) : bodyOkI b = false := by unfold bodyOkI; rw [h]; simp
theorem bodyI_no {b : List Tok} {k : Nat} (hk : k < b.length) (h : bodI b k = false) : bodyOkI b = false := by unfold bodyOkI; rw [range_no hk h, Bool.and_false]
theorem bodyI_yes {b : List Tok} (h1 : b.length ≤ 20) (h2 : toksOk b = true) (h3 : BodUpto (bodI b) b.length) : bodyOkI b = true := by unfold bodyOkI; rw [range_yes h3, decide_eq_true h1, h2]; rfl

set_option maxHeartbeats 16000000 in
set_option maxRecDepth 100000 in
theorem impl_bodyValid (v : Value) (l : List Tok) (fp : List Nat) (w : World) (H : (sSlice sTok).R w [v] l fp) :
  Calls Tryd.prog 100 #[v] w (Says (bodyOkI l) w) := by
 have HV := Lib.hid (impl_TokensValid v l fp w H)
 obtain ⟨a, cap, rfl, hc, hm, hrow⟩ := open_rows H
 unfold maxLen at hm
 clear H
 by_cases hl : 20 < l.length
 ·have HF := Lib.hid (bodyI_long hl)
  go_enter Tryd.func100, Tryd.ntmps100
  go_wp2
  go_ret
  exact ⟨ret_bool HF.out.symm, Below.refl _ _⟩
 cases hv : toksOk l
 ·rw [hv] at HV
  have HF := Lib.hid (bodyI_toks hv)
  clear hv
  go_enter Tryd.func100, Tryd.ntmps100
  go_wp2_with (go_at_call 44; refine HV.out.mono ?_; rintro e w1 ⟨rfl, hb1⟩)
  go_ret
  exact ⟨ret_bool HF.out.symm, hb1⟩
 rw [hv] at HV
 have HTV := Lib.hid hv
 clear hv
 go_enter Tryd.func100, Tryd.ntmps100
 go_wp2_with (go_at_call 44; refine HV.out.mono ?_; rintro e w1 ⟨rfl, hb1⟩)
 go_loopw [15] (fun i wr => ∃ k : Nat, k ≤ l.length ∧ i = .int .i64 k ∧ BodUpto (bodI l) k ∧ Below w.heap.size w wr) (fun i _ => l.length - (intOf i).toNat)
 case atStart => exact ⟨0, by omega, rfl, BodUpto.zero _, hb1⟩
 case round =>
  clear hb1
  obtain ⟨k, hk, rfl, hall, hb⟩ := hrel
  by_cases hlt : k < l.length
  ·obtain ⟨b1, off1, fps1, rfl, hb1', -, he1⟩ := hrow (by omega)
   obtain ⟨es1, hE1, hR1⟩ := he1 k hlt
   obtain ⟨hh, rfl, -, -, K1⟩ := hR1
   obtain ⟨ah, caph, rfl, -⟩ := open_rows K1
   replace hE1 := hE1.frame (hb.block b1 hb1')
   have c10 : wr.cell? ⟨b1, off1 + k * 4, none⟩ = some _ := elem_cell0 hE1 (by decide) rfl
   have c11 : wr.cell? ⟨b1, off1 + k * 4 + 1, none⟩ = some _ := elem_cell (j := 1) hE1 (by decide) rfl
   have c12 : wr.cell? ⟨b1, off1 + k * 4 + 2, none⟩ = some _ := elem_cell (j := 2) hE1 (by decide) rfl
   have c13 : wr.cell? ⟨b1, off1 + k * 4 + 3, none⟩ = some _ := elem_cell (j := 3) hE1 (by decide) rfl
   have hbx : Below wr.heap.size wr (wr.alloc (.cells #[.int .i64 l[k].kind, .string l[k].text, .bool l[k].spaced, .slice ah l[k].hidden.length caph] 47)) := alloc_below' _ _
   have HT := Lib.hid (heap_alloc_new wr (.cells #[.int .i64 l[k].kind, .string l[k].text, .bool l[k].spaced, .slice ah l[k].hidden.length caph] 47))
   have hbq := hb.trans (hbx.mono hb.size)
   clear K1 hE1
   have g00 : ((k : Int) == 0) = decide (k = 0) := by rw [Bool.eq_iff_iff]; simp
   have g01 : ((k : Int) == (l.length : Int) - 1) = decide (k + 1 = l.length) := by rw [Bool.eq_iff_iff]; simp; omega
   rcases bodI_ways hlt with ⟨e1, HI⟩ | ⟨e1, e2, e3, HI⟩ | ⟨e1, e2, e3, e4, HI⟩ | ⟨e1, e2, e3, e4, HI⟩ | ⟨e1, e2, e4, e5, HI⟩ | ⟨e1, e2, e4, e5, e6, HI⟩ | ⟨e1, e2, e4, e5, e6, HI⟩ | ⟨e1, e2, e4, HI⟩
   ·have HF := Lib.hid (bodyI_no hlt HI.out)
    have f0 : (0 : Int) < (l[k].hidden.length : Int) := by omega
    have f01 : 0 < l[k].hidden.length := by omega
    have f02 : decide ((0 : Int) < (l[k].hidden.length : Int)) = true := decide_eq_true f0
    clear e1
    clear hall
    go_wp2
    go_ret
    exact ⟨ret_bool HF.out.symm, hb.trans ((alloc_below' wr _).mono hb.size)⟩
   ·have HF := Lib.hid (bodyI_no hlt HI.out)
    have f0 : ¬ (0 : Int) < (l[k].hidden.length : Int) := by omega
    have f01 : ¬ 0 < l[k].hidden.length := by omega
    rw [decide_eq_true e2] at g00
    rw [e3] at c12
    clear e1 e2 e3
    clear hall
    go_wp2
    go_ret
    exact ⟨ret_bool HF.out.symm, hb.trans ((alloc_below' wr _).mono hb.size)⟩
   ·have HF := Lib.hid (bodyI_no hlt HI.out)
    have f0 : ¬ (0 : Int) < (l[k].hidden.length : Int) := by omega
    have f01 : ¬ 0 < l[k].hidden.length := by omega
    rw [decide_eq_true e2] at g00
    rw [e3] at c12
    have f4 := txt_t (l := [35, 35]) e4
    clear e4
    clear e1 e2 e3
    clear hall
    go_wp2
    go_ret
    exact ⟨ret_bool HF.out.symm, hb.trans ((alloc_below' wr _).mono hb.size)⟩
   ·have HN := Lib.hid (hall.succ HI.out)
    have f0 : ¬ (0 : Int) < (l[k].hidden.length : Int) := by omega
    have f01 : ¬ 0 < l[k].hidden.length := by omega
    rw [decide_eq_true e2] at g00
    rw [e3] at c12
    have f4 := txt_f (l := [35, 35]) e4
    clear e4
    clear e1 e2 e3
    clear hall
    go_wp2
    go_roundw
    case rel => first | exact ⟨k + 1, by omega, by go_num, HN.out, hb.trans ((alloc_below' wr _).mono hb.size)⟩ | ((repeat apply Exists.intro); exact ⟨⟨k + 1, by omega, by go_num, HN.out, hb.trans ((alloc_below' wr _).mono hb.size)⟩, rfl⟩)
    case measure => simp [intOf]; omega
   ·have HF := Lib.hid (bodyI_no hlt HI.out)
    have f0 : ¬ (0 : Int) < (l[k].hidden.length : Int) := by omega
    have f01 : ¬ 0 < l[k].hidden.length := by omega
    rw [decide_eq_false e2] at g00
    have f4 := txt_t (l := [35, 35]) e4
    clear e4
    rw [decide_eq_true e5] at g01
    clear e1 e2 e5
    clear hall
    go_wp2
    go_ret
    exact ⟨ret_bool HF.out.symm, hb.trans ((alloc_below' wr _).mono hb.size)⟩
   ·have HF := Lib.hid (bodyI_no hlt HI.out)
    have f0 : ¬ (0 : Int) < (l[k].hidden.length : Int) := by omega
    have f01 : ¬ 0 < l[k].hidden.length := by omega
    rw [decide_eq_false e2] at g00
    have f4 := txt_t (l := [35, 35]) e4
    clear e4
    rw [decide_eq_false e5] at g01
    obtain ⟨es2, hE2, hR2⟩ := he1 (k - 1) (by omega)
    obtain ⟨h9, rfl, -, -, -⟩ := hR2
    replace hE2 := hE2.frame (hbq.block b1 hb1')
    have c21 : (wr.alloc (.cells #[.int .i64 l[k].kind, .string l[k].text, .bool l[k].spaced, .slice ah l[k].hidden.length caph] 47)).cell? ⟨b1, off1 + (k - 1) * 4 + 1, none⟩ = some _ := elem_cell (j := 1) hE2 (by decide) rfl
    have h6 : ((k : Int) - 1).toNat = k - 1 := by omega
    have hwl : IntKind.i64.wrap ((k : Int) - 1) = (k : Int) - 1 := IntWalk.i64_in _ (by omega)
    have hi1 : (0 : Int) ≤ (k : Int) - 1 := by omega
    have hi2 : (k : Int) - 1 < (l.length : Int) := by omega
    clear hE2
    have f6 := txt_t (l := [35, 35]) e6
    clear e1 e2 e5 e6
    clear hall
    go_wp2
    go_ret
    exact ⟨ret_bool HF.out.symm, hb.trans ((alloc_below' wr _).mono hb.size)⟩
   ·have HN := Lib.hid (hall.succ HI.out)
    have f0 : ¬ (0 : Int) < (l[k].hidden.length : Int) := by omega
    have f01 : ¬ 0 < l[k].hidden.length := by omega
    rw [decide_eq_false e2] at g00
    have f4 := txt_t (l := [35, 35]) e4
    clear e4
    rw [decide_eq_false e5] at g01
    obtain ⟨es2, hE2, hR2⟩ := he1 (k - 1) (by omega)
    obtain ⟨h9, rfl, -, -, -⟩ := hR2
    replace hE2 := hE2.frame (hbq.block b1 hb1')
    have c21 : (wr.alloc (.cells #[.int .i64 l[k].kind, .string l[k].text, .bool l[k].spaced, .slice ah l[k].hidden.length caph] 47)).cell? ⟨b1, off1 + (k - 1) * 4 + 1, none⟩ = some _ := elem_cell (j := 1) hE2 (by decide) rfl
    have h6 : ((k : Int) - 1).toNat = k - 1 := by omega
    have hwl : IntKind.i64.wrap ((k : Int) - 1) = (k : Int) - 1 := IntWalk.i64_in _ (by omega)
    have hi1 : (0 : Int) ≤ (k : Int) - 1 := by omega
    have hi2 : (k : Int) - 1 < (l.length : Int) := by omega
    clear hE2
    have f6 := txt_f (l := [35, 35]) e6
    clear e1 e2 e5 e6
    clear hall
    go_wp2
    go_roundw
    case rel => first | exact ⟨k + 1, by omega, by go_num, HN.out, hb.trans ((alloc_below' wr _).mono hb.size)⟩ | ((repeat apply Exists.intro); exact ⟨⟨k + 1, by omega, by go_num, HN.out, hb.trans ((alloc_below' wr _).mono hb.size)⟩, rfl⟩)
    case measure => simp [intOf]; omega
   ·have HN := Lib.hid (hall.succ HI.out)
    have f0 : ¬ (0 : Int) < (l[k].hidden.length : Int) := by omega
    have f01 : ¬ 0 < l[k].hidden.length := by omega
    rw [decide_eq_false e2] at g00
    have f4 := txt_f (l := [35, 35]) e4
    clear e4
    clear e1 e2
    clear hall
    go_wp2
    go_roundw
    case rel => first | exact ⟨k + 1, by omega, by go_num, HN.out, hb.trans ((alloc_below' wr _).mono hb.size)⟩ | ((repeat apply Exists.intro); exact ⟨⟨k + 1, by omega, by go_num, HN.out, hb.trans ((alloc_below' wr _).mono hb.size)⟩, rfl⟩)
    case measure => simp [intOf]; omega
  ·have HF := Lib.hid (bodyI_yes (by omega) HTV.out (fun j hj => hall j (by omega)))
   clear hall
   go_wp2
   go_ret
   exact ⟨ret_bool HF.out.symm, hb⟩

/-! ### Number signs -/
theorem signI_other {m : DMacro} {k : Nat} (hk : k < m.body.length) (h : m.body[k].text ≠ hash1) : signI m k = true := by unfold signI; rw [dif_pos hk, decide_eq_false h]; rfl
theorem signI_last {m : DMacro} {k : Nat} (hk : k < m.body.length) (h : m.body[k].text = hash1) (hl : k + 1 = m.body.length) : signI m k = false := by unfold signI; rw [dif_pos hk, decide_eq_true h, dif_neg (by omega)]; rfl
theorem signI_in {m : DMacro} {k : Nat} (hk : k + 1 < m.body.length) (h : (m.body[k]'(by omega)).text = hash1) : signI m k = hasTx m.params m.body[k + 1].text := by unfold signI; rw [dif_pos (by omega), decide_eq_true h, dif_pos hk]; simp
theorem signs_no {m : DMacro} {k : Nat} (hk : k < m.body.length) (h : signI m k = false) : signsOk m = false := range_no hk h
theorem signs_yes {m : DMacro} (h : BodUpto (signI m) m.body.length) : signsOk m = true := range_yes h

set_option maxHeartbeats 16000000 in
set_option maxRecDepth 100000 in
theorem impl_numberSignsFit (m : DMacro) (h2 h3 : Value) (fp2 fp3 : List Nat) (w : World) (K2 : (sSlice sStr).R w [h2] m.params fp2) (K3 : (sSlice sTok).R w [h3] m.body fp3) (hl : m.body.length ≤ 1000) :
  Calls Tryd.prog 102 #[.agg #[.string m.name, .bool m.function, h2, h3]] w (Says (signsOk m) w) := by
 obtain ⟨a2, cap2, rfl, -⟩ := open_strs K2
 obtain ⟨a3, cap3, rfl, hc3, hm3, hrow⟩ := open_rows K3
 unfold maxLen at hm3
 clear K3
 have hb0 := alloc_below' w (.cells #[.string m.name, .bool m.function, .slice a2 m.params.length cap2, .slice a3 m.body.length cap3] 79)
 have HX := Lib.hid (heap_alloc_new w (.cells #[.string m.name, .bool m.function, .slice a2 m.params.length cap2, .slice a3 m.body.length cap3] 79))
 go_enter Tryd.func102, Tryd.ntmps102
 go_wp2
 generalize (w.alloc (.cells #[.string m.name, .bool m.function, .slice a2 m.params.length cap2, .slice a3 m.body.length cap3] 79)) = W1 at *
 go_loopw [8] (fun i wr => ∃ k : Nat, k ≤ m.body.length ∧ i = .int .i64 k ∧ BodUpto (signI m) k ∧ Below W1.heap.size W1 wr) (fun i _ => m.body.length - (intOf i).toNat)
 case atStart => exact ⟨0, by omega, rfl, BodUpto.zero _, Below.refl _ _⟩
 case round =>
  obtain ⟨k, hk, rfl, hall, hb⟩ := hrel
  have hbw := hb0.trans (hb.mono hb0.size)
  by_cases hlt : k < m.body.length
  ·obtain ⟨b1, off1, fps1, rfl, hb1', -, he1⟩ := hrow (by omega)
   obtain ⟨es1, hE1, hR1⟩ := he1 k hlt
   obtain ⟨hh, rfl, -, -, K1⟩ := hR1
   obtain ⟨ah, caph, rfl, -⟩ := open_rows K1
   replace hE1 := hE1.frame (hbw.block b1 hb1')
   have c10 : wr.cell? ⟨b1, off1 + k * 4, none⟩ = some _ := elem_cell0 hE1 (by decide) rfl
   have c11 : wr.cell? ⟨b1, off1 + k * 4 + 1, none⟩ = some _ := elem_cell (j := 1) hE1 (by decide) rfl
   have c12 : wr.cell? ⟨b1, off1 + k * 4 + 2, none⟩ = some _ := elem_cell (j := 2) hE1 (by decide) rfl
   have c13 : wr.cell? ⟨b1, off1 + k * 4 + 3, none⟩ = some _ := elem_cell (j := 3) hE1 (by decide) rfl
   have hbx : Below wr.heap.size wr (wr.alloc (.cells #[.int .i64 m.body[k].kind, .string m.body[k].text, .bool m.body[k].spaced, .slice ah m.body[k].hidden.length caph] 47)) := alloc_below' _ _
   have HT := Lib.hid (heap_alloc_new wr (.cells #[.int .i64 m.body[k].kind, .string m.body[k].text, .bool m.body[k].spaced, .slice ah m.body[k].hidden.length caph] 47))
   have hbq := hb.trans (hbx.mono hb.size)
   have hbw2 := hbw.trans (hbx.mono hbw.size)
   have HX2 := Lib.hid ((hbq.block _ (Array.getElem?_eq_some_iff.1 HX.out).1).trans HX.out)
   have HC := Lib.hid (fun x W (hW : Below (wr.alloc (.cells #[.int .i64 m.body[k].kind, .string m.body[k].text, .bool m.body[k].spaced, .slice ah m.body[k].hidden.length caph] 47)).heap.size (wr.alloc (.cells #[.int .i64 m.body[k].kind, .string m.body[k].text, .bool m.body[k].spaced, .slice ah m.body[k].hidden.length caph] 47)) W) => lib_Contains _ _ _ x W ((sSlice sStr).below ((sSlice sStr).below K2 hbw2) hW))
   clear K1 hE1 hbx
   by_cases e7 : m.body[k].text = hash1
   ·have f7 := txt_t (l := [35]) e7
    have E7 := Lib.hid e7
    clear e7
    go_wp2
    generalize wr.alloc (.cells #[.int .i64 m.body[k].kind, .string m.body[k].text, .bool m.body[k].spaced, .slice ah m.body[k].hidden.length caph] 47) = W2 at *
    have p1 : W2.cell? ⟨wr.heap.size, 1, none⟩ = some (.string m.body[k].text) := cell_of_row _ _ 1 _ _ _ HT.out
    clear c10 c11 c12 c13
    have q2 : W2.cell? ⟨w.heap.size, 2, none⟩ = some (.slice a2 m.params.length cap2) := cell_of_row _ _ 2 _ _ _ HX2.out
    have q3 : W2.cell? ⟨w.heap.size, 3, none⟩ = some (.slice (some ⟨b1, off1, none⟩) m.body.length cap3) := cell_of_row _ _ 3 _ _ _ HX2.out
    have g01 : ((k : Int) == (m.body.length : Int) - 1) = decide (k + 1 = m.body.length) := by rw [Bool.eq_iff_iff]; simp; omega
    have hwm : IntKind.i64.wrap ((m.body.length : Int) - 1) = (m.body.length : Int) - 1 := IntWalk.i64_in _ (by omega)
    by_cases e8 : k + 1 = m.body.length
    ·have HF := Lib.hid (signs_no hlt (signI_last hlt E7.out e8))
     rw [decide_eq_true e8] at g01
     clear e8 hall
     go_quiet (fail)
     go_wp2
     go_ret
     exact ⟨ret_bool HF.out.symm, belowN hbw2 _⟩
    ·have hk1 : k + 1 < m.body.length := by omega
     obtain ⟨es3, hE3, hR3⟩ := he1 (k + 1) hk1
     obtain ⟨h9, rfl, -, -, -⟩ := hR3
     replace hE3 := hE3.frame (hbw2.block b1 hb1')
     have c31 : W2.cell? ⟨b1, off1 + (k + 1) * 4 + 1, none⟩ = some _ := elem_cell (j := 1) hE3 (by decide) rfl
     have h6 : ((k : Int) + 1).toNat = k + 1 := by omega
     have hwl : IntKind.i64.wrap ((k : Int) + 1) = (k : Int) + 1 := IntWalk.i64_in _ (by omega)
     have hi1 : (0 : Int) ≤ (k : Int) + 1 := by omega
     have hi2 : (k : Int) + 1 < (m.body.length : Int) := by omega
     have hs := signI_in hk1 E7.out
     rw [decide_eq_false e8] at g01
     clear hE3 e8 he1 hrow
     go_still_tail 16, (by kernel_rfl)
     change wpList _ _ _ _ _ W2.drew
     have hd : Below W2.heap.size W2 W2.drew := belowN (Below.refl _ _) 1
     generalize W2.drew = w3 at *
     have hbw3 := hbw2.trans (hd.mono hbw2.size)
     have hbq3 := hbq.trans (hd.mono hbq.size)
     cases e9 : hasTx m.params m.body[k + 1].text
     ·rw [e9] at hs
      have HF := Lib.hid (signs_no hlt hs)
      clear hall hs
      go_wp2_with (go_at_call 107; refine (HC.out _ _ hd).mono ?_; rintro e w4 ⟨rfl, rfl⟩; rw [e9]; clear e9)
      go_ret
      exact ⟨ret_bool HF.out.symm, hbw3⟩
     ·rw [e9] at hs
      have HN := Lib.hid (hall.succ hs)
      clear hall hs
      go_wp2_with (go_at_call 107; refine (HC.out _ _ hd).mono ?_; rintro e w4 ⟨rfl, rfl⟩; rw [e9]; clear e9)
      go_roundw
      case rel => first | exact ⟨k + 1, by omega, by go_num, HN.out, hbq3⟩ | ((repeat apply Exists.intro); exact ⟨⟨k + 1, by omega, by go_num, HN.out, hbq3⟩, rfl⟩)
      case measure => simp [intOf]; omega
   ·have f7 := txt_f (l := [35]) e7
    have HN := Lib.hid (hall.succ (signI_other hlt e7))
    clear e7 hall
    go_wp2
    go_roundw
    case rel => first | exact ⟨k + 1, by omega, by go_num, HN.out, hbq⟩ | ((repeat apply Exists.intro); exact ⟨⟨k + 1, by omega, by go_num, HN.out, hbq⟩, rfl⟩)
    case measure => simp [intOf]; omega
  ·have HF := Lib.hid (signs_yes (fun j hj => hall j (by omega)))
   clear hall
   go_wp2
   go_ret
   exact ⟨ret_bool HF.out.symm, hbw⟩

end Go.Proofs.YtlegeancmcmbaaaDoor

/- Lists of texts and of numbers are compared by the laws. -/
namespace Go.Proofs.YtlegeancmcmbaaaDoor
open Go.RowKit

set_option maxHeartbeats 400000 in
theorem sameTexts (v1 v2 : Value) (l1 l2 : List ByteArray) (fp1 fp2 : List Nat) (w : World) (H1 : (sSlice sStr).R w [v1] l1 fp1) (H2 : (sSlice sStr).R w [v2] l2 fp2) :
  Calls Tryd.prog 53 #[v1, v2] w fun e w' => e = .returned (.bool (decide (l1 = l2))) ∧ ∃ n, w' = w.drewN n := by
 obtain ⟨a1, cap1, rfl, hc1, hm1, hcell1, hsz1⟩ := open_strs H1
 obtain ⟨a2, cap2, rfl, hc2, hm2, hcell2, hsz2⟩ := open_strs H2
 unfold maxLen at hm1 hm2
 by_cases hl : l1.length = l2.length
 ·have hnb : ((l1.length : Int) != (l2.length : Int)) = false := by simp [hl]
  have HL := Lib.hid hl; clear hl
  go_enter Tryd.func53, Tryd.ntmps53
  go_wp2
  go_loopw [5] (fun i wr => ∃ k : Nat, k ≤ l1.length ∧ i = .int .i64 k ∧ (∃ n, wr = w.drewN n) ∧ EqUpto l1 l2 k) (fun i _ => l1.length - (intOf i).toNat)
  case atStart => exact ⟨0, by omega, rfl, ⟨0, rfl⟩, by intro j h h' hj; omega⟩
  case round =>
   obtain ⟨k, hk, rfl, ⟨n, rfl⟩, hall⟩ := hrel
   by_cases hlt : k < l1.length
   ·have hlt2 : k < l2.length := by have := HL.out; omega
    obtain ⟨b1, off1, rfl, hb1, _, hd1⟩ := hcell1 (by omega)
    obtain ⟨b2, off2, rfl, hb2, _, hd2⟩ := hcell2 (by omega)
    have hck1 := hd1 k hlt
    have hck2 := hd2 k hlt2
    clear hd1 hd2
    by_cases heq : l1[k] = l2[k]
    ·have hne := bytes_beq heq
     have hn := hall.succ hlt hlt2 heq
     clear heq
     go_wp2
     go_quiet (fail)
     go_wp2
     go_roundw
     case rel => exact ⟨k + 1, by omega, by go_num, ⟨_, rfl⟩, hn⟩
     case measure => simp [intOf]; omega
    ·have hne := bytes_bne heq
     have HF := Lib.hid (eq_no hlt hlt2 heq)
     clear heq
     go_wp2
     go_quiet (fail)
     go_wp2
     go_ret
     exact ⟨ret_bool HF.out.symm, _, World.drewN_drewN _ _ _⟩
   ·have HF := Lib.hid (hall.eq HL.out (by omega))
    go_wp2
    go_ret
    exact ⟨ret_bool HF.out.symm, _, rfl⟩
 ·have hnb : ((l1.length : Int) != (l2.length : Int)) = true := by simp; omega
  have HF : Hid (decide (l1 = l2) = false) := decide_eq_false (by rintro rfl; exact hl rfl)
  clear hl
  go_enter Tryd.func53, Tryd.ntmps53
  go_wp2
  go_ret
  exact ⟨ret_bool HF.out.symm, 0, rfl⟩


end Go.Proofs.YtlegeancmcmbaaaDoor

/- Lists of tokens are compared by the laws. -/
namespace Go.Proofs.YtlegeancmcmbaaaDoor
open Go.RowKit

set_option maxHeartbeats 8000000 in
set_option maxRecDepth 100000 in
theorem sameTokens_same (v1 v2 : Value) (l : List Tok) (fp1 fp2 : List Nat) (w : World) (H1 : (sSlice sTok).R w [v1] l fp1) (H2 : (sSlice sTok).R w [v2] l fp2) :
  Calls Tryd.prog 27 #[v1, v2] w fun e w' => e = .returned (.bool true) ∧ Below w.heap.size w w' := by
 obtain ⟨a1, cap1, rfl, hc1, hm1, hrow1⟩ := open_rows H1
 obtain ⟨a2, cap2, rfl, hc2, hm2, hrow2⟩ := open_rows H2
 unfold maxLen at hm1 hm2
 clear H1 H2
 have hnb : ((l.length : Int) != (l.length : Int)) = false := by simp
 go_enter Tryd.func27, Tryd.ntmps27
 go_wp2
 go_loopw [5] (fun i wr => ∃ k : Nat, k ≤ l.length ∧ i = .int .i64 k ∧ Below w.heap.size w wr) (fun i _ => l.length - (intOf i).toNat)
 case atStart => exact ⟨0, by omega, rfl, Below.refl _ _⟩
 case round =>
  obtain ⟨k, hk, rfl, hb⟩ := hrel
  by_cases hlt : k < l.length
  ·obtain ⟨b1, off1, fps1, rfl, hb1, -, he1⟩ := hrow1 (by omega)
   obtain ⟨b2, off2, fps2, rfl, hb2, -, he2⟩ := hrow2 (by omega)
   obtain ⟨es1, hE1, hR1⟩ := he1 k hlt
   obtain ⟨es2, hE2, hR2⟩ := he2 k hlt
   clear hrow1 hrow2 he1 he2
   obtain ⟨h1, rfl, -, -, K1⟩ := hR1
   obtain ⟨h2, rfl, -, -, K2⟩ := hR2
   replace hE1 := hE1.frame (hb.block b1 hb1)
   replace hE2 := hE2.frame (hb.block b2 hb2)
   have HC : Hid (∀ n, Calls Tryd.prog 53 #[h1, h2] (wr.drewN n) fun e w' => e = .returned (.bool true) ∧ ∃ m, w' = (wr.drewN n).drewN m) := fun n =>
    (sameTexts h1 h2 _ _ _ _ (wr.drewN n) ((sSlice sStr).frame (w := wr) (fun _ _ => rfl) ((sSlice sStr).below K1 hb)) ((sSlice sStr).frame (w := wr) (fun _ _ => rfl) ((sSlice sStr).below K2 hb))).mono
     fun e w' ⟨a, m, c⟩ => ⟨by rw [a, decide_eq_true rfl], m, c⟩
   have c10 : wr.cell? ⟨b1, off1 + k * 4, none⟩ = some _ := elem_cell0 hE1 (by decide) rfl
   have c11 : wr.cell? ⟨b1, off1 + k * 4 + 1, none⟩ = some _ := elem_cell (j := 1) hE1 (by decide) rfl
   have c12 : wr.cell? ⟨b1, off1 + k * 4 + 2, none⟩ = some _ := elem_cell (j := 2) hE1 (by decide) rfl
   have c13 : wr.cell? ⟨b1, off1 + k * 4 + 3, none⟩ = some _ := elem_cell (j := 3) hE1 (by decide) rfl
   have c20 : wr.cell? ⟨b2, off2 + k * 4, none⟩ = some _ := elem_cell0 hE2 (by decide) rfl
   have c21 : wr.cell? ⟨b2, off2 + k * 4 + 1, none⟩ = some _ := elem_cell (j := 1) hE2 (by decide) rfl
   have c22 : wr.cell? ⟨b2, off2 + k * 4 + 2, none⟩ = some _ := elem_cell (j := 2) hE2 (by decide) rfl
   have c23 : wr.cell? ⟨b2, off2 + k * 4 + 3, none⟩ = some _ := elem_cell (j := 3) hE2 (by decide) rfl
   clear hE1 hE2 K1 K2
   have q1 : (l[k].kind != l[k].kind) = false := by simp
   have q2 := bytes_beq (rfl : l[k].text = l[k].text)
   have q3 : (l[k].spaced != l[k].spaced) = false := by simp
   go_wp2
   go_quiet (first | (go_at_call 53; refine Calls.quiet_of (HC.out _)))
   go_wp2
   go_roundw
   case rel => exact ⟨k + 1, by omega, by go_num, belowN hb _⟩
   case measure => simp [intOf]; omega
  ·go_wp2
   go_ret
   exact ⟨rfl, hb⟩

end Go.Proofs.YtlegeancmcmbaaaDoor

/- MacroValid of both; the laws' helpers over macros by value. -/
namespace Go.Proofs.YtlegeancmcmbaaaDoor
open Go.RowKit

theorem spec_MacroValid (cs : List Value) (m : DMacro) (fp : List Nat) (w : World) (H : sMacro.R w cs m fp) : Calls Tryd.prog 87 #[.agg cs.toArray] w (Says (macOk m) w) := by
 obtain ⟨h2, h3, fp2, fp3, rfl, k0, K2, K3, rfl⟩ := H
 cases hf : m.function
 ·have := spec_MacroValid_no m h2 h3 fp2 fp3 w k0 K2 K3 hf
  rw [hf] at this
  exact this
 ·have := spec_MacroValid_yes m h2 h3 fp2 fp3 w k0 K2 K3 hf
  rw [hf] at this
  exact this

theorem mi_name {m : DMacro} (h : oneTok m.name 1 = false) : macOk m = false := by rw [mac_impl, h]; rfl
theorem mi_def {m : DMacro} (h : m.name = definedB) : macOk m = false := by rw [mac_impl, decide_eq_true h]; simp
theorem mi_no {m : DMacro} (h1 : oneTok m.name 1 = true) (h2 : m.name ≠ definedB) (hf : m.function = false) : macOk m = (decide (m.params.length = 0) && bodyOkI m.body) := by rw [mac_impl, h1, decide_eq_false h2, hf]; rfl
theorem mi_yes {m : DMacro} (h1 : oneTok m.name 1 = true) (h2 : m.name ≠ definedB) (hf : m.function = true) : macOk m = (parsOk m.params && bodyOkI m.body && signsOk m) := by rw [mac_impl, h1, decide_eq_false h2, hf]; rfl
theorem mi_big {m : DMacro} (h : bodyOkI m.body = true) : m.body.length ≤ 20 := by unfold bodyOkI at h; rw [Bool.and_eq_true, Bool.and_eq_true] at h; simpa using h.1.1

set_option maxHeartbeats 8000000 in
set_option maxRecDepth 100000 in
theorem impl_MacroValid (cs : List Value) (m : DMacro) (fp : List Nat) (w : World) (H : sMacro.R w cs m fp) : Calls Tryd.prog 92 #[.agg cs.toArray] w (Says (macOk m) w) := by
 obtain ⟨h2, h3, fp2, fp3, rfl, k0, K2, K3, rfl⟩ := H
 obtain ⟨a2, cap2, rfl, -⟩ := open_strs K2
 obtain ⟨a3, cap3, rfl, -⟩ := open_rows K3
 have HN := Lib.hid (fun W => impl_isOneToken m.name 1 W k0)
 have HP := Lib.hid (fun W (hW : Below w.heap.size w W) => impl_paramsValid _ _ _ W ((sSlice sStr).below K2 hW))
 have HB := Lib.hid (fun W (hW : Below w.heap.size w W) => impl_bodyValid _ _ _ W ((sSlice sTok).below K3 hW))
 have HS := Lib.hid (fun W (hl : m.body.length ≤ 1000) (hW : Below w.heap.size w W) => impl_numberSignsFit m _ _ _ _ W ((sSlice sStr).below K2 hW) ((sSlice sTok).below K3 hW) hl)
 have hb0 := alloc_below' w (.cells #[.string m.name, .bool m.function, .slice a2 m.params.length cap2, .slice a3 m.body.length cap3] 79)
 have HX := Lib.hid (heap_alloc_new w (.cells #[.string m.name, .bool m.function, .slice a2 m.params.length cap2, .slice a3 m.body.length cap3] 79))
 clear K2 K3
 cases h1 : oneTok m.name 1
 ·rw [h1] at HN
  have HF := Lib.hid (mi_name h1)
  clear h1
  go_enter Tryd.func92, Tryd.ntmps92
  go_wp2_with (go_at_call 88; refine (HN.out _).mono ?_; rintro e w1 ⟨rfl, hb1⟩)
  go_ret
  exact ⟨ret_bool HF.out.symm, hb0.trans (hb1.mono hb0.size)⟩
 rw [h1] at HN
 go_enter Tryd.func92, Tryd.ntmps92
 go_wp2_with fail
 refine (HN.out _).mono ?_
 rintro e w1 ⟨rfl, hb1⟩
 have hB1 := hb0.trans (hb1.mono hb0.size)
 replace HX := Lib.hid ((hb1.block _ (Array.getElem?_eq_some_iff.1 HX.out).1).trans HX.out)
 have q0 : w1.cell? ⟨w.heap.size, 0, none⟩ = some (.string m.name) := cell_of_row _ _ 0 _ _ _ HX.out
 by_cases hd : m.name = definedB
 ·have e2 := txt_t (l := [100, 101, 102, 105, 110, 101, 100]) hd
  have HF := Lib.hid (mi_def hd)
  clear h1 hd
  go_wp2
  go_ret
  exact ⟨ret_bool HF.out.symm, hB1⟩
 have e2 := txt_f (l := [100, 101, 102, 105, 110, 101, 100]) hd
 have q1 : w1.cell? ⟨w.heap.size, 1, none⟩ = some (.bool m.function) := cell_of_row _ _ 1 _ _ _ HX.out
 have q2 : w1.cell? ⟨w.heap.size, 2, none⟩ = some (.slice a2 m.params.length cap2) := cell_of_row _ _ 2 _ _ _ HX.out
 have q3 : w1.cell? ⟨w.heap.size, 3, none⟩ = some (.slice a3 m.body.length cap3) := cell_of_row _ _ 3 _ _ _ HX.out
 cases hf : m.function
 ·have HM := Lib.hid (mi_no h1 hd hf)
  rw [hf] at q1
  clear h1 hd hf
  by_cases hz : m.params.length = 0
  ·have hz1 : ((m.params.length : Int) == 0) = true := by rw [hz]; rfl
   rw [decide_eq_true hz, Bool.true_and] at HM
   clear hz
   go_wp2_with fail
   refine (HB.out _ hB1).mono ?_
   rintro e w2 ⟨rfl, hb2⟩
   go_wp2
   go_ret
   exact ⟨ret_bool HM.out.symm, hB1.trans (hb2.mono hB1.size)⟩
  ·have hz1 : ((m.params.length : Int) == 0) = false := by simp; intro h; exact hz (by simp [h])
   rw [decide_eq_false hz, Bool.false_and] at HM
   clear hz
   go_wp2
   go_ret
   exact ⟨ret_bool HM.out.symm, hB1⟩
 ·have HM := Lib.hid (mi_yes h1 hd hf)
  have HF := Lib.hid hf
  rw [hf] at q1
  clear h1 hd hf
  go_wp2_with fail
  refine (HP.out _ hB1).mono ?_
  rintro e w2 ⟨rfl, hb2⟩
  have hB2 := hB1.trans (hb2.mono hB1.size)
  cases hp : parsOk m.params
  ·rw [hp, Bool.false_and, Bool.false_and] at HM
   clear hp q0 q1 q2 q3
   go_wp2
   go_ret
   exact ⟨ret_bool HM.out.symm, hB2⟩
  ·rw [hp, Bool.true_and] at HM
   replace HX := Lib.hid ((hb2.block _ (Array.getElem?_eq_some_iff.1 HX.out).1).trans HX.out)
   clear hp q0 q1 q2 q3
   have q3 : w2.cell? ⟨w.heap.size, 3, none⟩ = some (.slice a3 m.body.length cap3) := cell_of_row _ _ 3 _ _ _ HX.out
   go_wp2_with fail
   refine (HB.out _ hB2).mono ?_
   rintro e w3 ⟨rfl, hb3⟩
   have hB3 := hB2.trans (hb3.mono hB2.size)
   cases hb : bodyOkI m.body
   ·rw [hb, Bool.false_and] at HM
    clear hb q3
    go_wp2
    go_ret
    exact ⟨ret_bool HM.out.symm, hB3⟩
   ·have hl := mi_big hb
    rw [hb, Bool.true_and] at HM
    replace HX := Lib.hid ((hb3.block _ (Array.getElem?_eq_some_iff.1 HX.out).1).trans HX.out)
    clear hb q3
    have q0 : w3.cell? ⟨w.heap.size, 0, none⟩ = some (.string m.name) := cell_of_row _ _ 0 _ _ _ HX.out
    have q1 : w3.cell? ⟨w.heap.size, 1, none⟩ = some (.bool m.function) := cell_of_row _ _ 1 _ _ _ HX.out
    have q2 : w3.cell? ⟨w.heap.size, 2, none⟩ = some (.slice a2 m.params.length cap2) := cell_of_row _ _ 2 _ _ _ HX.out
    have q3 : w3.cell? ⟨w.heap.size, 3, none⟩ = some (.slice a3 m.body.length cap3) := cell_of_row _ _ 3 _ _ _ HX.out
    have HS' := Lib.hid (fun W hW => HS.out W (by omega) hW)
    clear hl
    go_wp2_with fail
    refine (HS'.out _ hB3).mono ?_
    rintro e w4 ⟨rfl, hb4⟩
    go_wp2
    go_ret
    exact ⟨ret_bool HM.out.symm, hB3.trans (hb4.mono hB3.size)⟩

end Go.Proofs.YtlegeancmcmbaaaDoor

/- A region that draws its order, walked by an invariant over what is done; and one in which all only reads but a literal, an append of it, and the store of the result. Over any program. -/
namespace Go.Proofs.YtlegeancmcmbaaaDoor
open Go.RowKit

theorem wp_region_inv {P : Program} {ops : Array Oper} {Q : Exit → Act → World → Prop} {id : Nat} {a : Act} {w : World} (hm : P.follows .mixedOrders = true) (hok : regionOk ops = true)
  (J : Array Bool → List Value → World → Prop)
  (hJ : J (Array.replicate ops.size false) (origs a (ops.toList.map (·.dst))) { w with drawn := w.drawn + 1 })
  (step : ∀ (i : Nat) (o : Oper), ops[i]? = some o → ∀ (L : Array Bool) (xs : List Value) (w' : World), L.size = ops.size → xs.length = ops.size → L.getD i false = false →
   (∀ e ∈ o.after, Region.binds .any e = true → L.getD e.on false = true) → J L xs w' →
   ∀ K : Act → World → Prop, (∀ v w'', J (L.setIfInBounds i true) (xs.set i v) w'' → K ((fill a (ops.toList.map (·.dst)) xs).put o.dst v) w'') → wpList P ops (Sw K) [o] (fill a (ops.toList.map (·.dst)) xs) w')
  (done : ∀ (L : Array Bool) (xs : List Value) (w' : World), xs.length = ops.size → (∀ i, i < ops.size → L.getD i false = true) → J L xs w' → Q .normal (fill a (ops.toList.map (·.dst)) xs) w') :
  (Code.region id ops true).wp P Q a w := by
 refine wp_region_any hm ?_
 have hd : apartDsts (ops.toList.map (·.dst)) = true := by unfold regionOk at hok; rw [Bool.and_eq_true] at hok; exact hok.1
 have hlist : ∀ (L : Array Bool), L.size = ops.size → Region.ready .any ops L = [] → ∀ i, i < ops.size → L.getD i false = true := by
  intro L hL hr i
  induction i using Nat.strongRecOn with
  |
   ind i ih =>
   intro hi
   cases hb : L.getD i false with
   | true => rfl
   |
    false =>
    exfalso
    have hm : i ∈ Region.ready .any ops L := by
     rw [mem_ready]
     exact ⟨getD_tf (by omega) hb, ops[i], Array.getElem?_eq_getElem hi, fun e he _ => by
      have hlt := regionOk_after hok (Array.getElem?_eq_getElem hi) e he
      exact ih e.on hlt (by omega)⟩
    rw [hr] at hm
    cases hm
 have main : ∀ (fuel : Nat) (L : Array Bool) (b : Act) (w' : World) (xs : List Value), fuel + cnt ops.size L = ops.size → L.size = ops.size → xs.length = ops.size → b = fill a (ops.toList.map (·.dst)) xs → J L xs w' → wpAny P .any ops Q fuel L b w' := by
  intro fuel
  induction fuel with
  |
   zero =>
   intro L b w' xs hf hs hx hb hI
   have hall : ∀ i, i < ops.size → L.getD i false = true := fun i hi => by
    cases hb : L.getD i false with
    | true => rfl
    | false => have := cnt_lt hi hb; omega
   refine ⟨?_, ?_⟩
   ·cases hr : Region.ready .any ops L with
    | nil => rfl
    |
     cons i r =>
     have hi : i ∈ Region.ready .any ops L := by rw [hr]; simp
     rw [mem_ready] at hi
     obtain ⟨h0, o, ho, _⟩ := hi
     have := hall i (Array.getElem?_eq_some_iff.1 ho).1
     rw [getD_ft h0] at this
     cases this
   ·rw [hb]; exact done L xs w' hx hall hI
  |
   succ fuel ih =>
   intro L b w' xs hf hs hx hb hI
   refine ⟨fun hr => ?_, fun i hi => ?_⟩
   ·rw [hb]; exact done L xs w' hx (hlist L hs hr) hI
   ·obtain ⟨h0, o, ho, hafter⟩ := mem_ready.1 hi
    have hlt := (Array.getElem?_eq_some_iff.1 ho).1
    refine sw_op ho ?_
    rw [hb]
    refine step i o ho L xs w' hs hx (getD_ft h0) hafter hI _ (fun v w'' h1 => ?_)
    have hds : (ops.toList.map (·.dst))[i]? = some o.dst := by simp [ho]
    rw [fill_put _ hd _ _ i _ _ (by simpa using hx) hds]
    have hset : cnt ops.size (L.setIfInBounds i true) = cnt ops.size L + 1 := cnt_set hlt hs h0
    exact ih _ _ _ (xs.set i v) (by omega) (by simpa using hs) (by simpa using hx) rfl h1
 refine main ops.size _ _ _ (origs a (ops.toList.map (·.dst))) ?_ (by simp) (by simp [origs]) (fill_self _ a).symm hJ
 have hz : ∀ i, (Array.replicate ops.size false).getD i false = false := by intro i; simp [Array.getD]
 have hc : cnt ops.size (Array.replicate ops.size false) = 0 := by
  unfold cnt
  rw [List.countP_eq_zero]
  intro i _; simp only [hz i]; simp
 rw [hc]; omega

structure AppJ (n ia ib ic : Nat) (vals : List (Option Value)) (va : Value) (og : List Value) (w0 w1 : World) (App Fin : Value → World → Prop) (L : Array Bool) (xs : List Value) (w : World) : Prop where
 con : ∀ i, i < n → i ≠ ia → i ≠ ib → i ≠ ic → L.getD i false = true → ∀ u, vals[i]? = some (some u) → xs[i]? = some u
 a : L.getD ia false = true → xs[ia]? = some va
 ab : L.getD ib false = true → L.getD ia false = true
 bc : L.getD ic false = true → L.getD ib false = true
 s0 : L.getD ia false = false → w = w0
 s1 : L.getD ia false = true → L.getD ib false = false → w = w1
 s2 : L.getD ib false = true → L.getD ic false = false → ∃ v, xs[ib]? = some v ∧ App v w
 s3 : L.getD ic false = true → ∃ v, xs[ib]? = some v ∧ Fin v w
 old : ∀ i, i < n → L.getD i false = false → xs[i]? = og[i]?
 fin : L.getD ic false = true → ∀ i, i < n → L.getD i false = true

theorem sw_skip {P : Program} {ops : Array Oper} {K : Act → World → Prop} {o : Oper} {a : Act} {w : World} (hw : Region.wanted o (yielded ops a.tmps) = false) (h : K (a.put o.dst undef) w) : wpList P ops (Sw K) [o] a w := by
 unfold wpList
 rw [if_neg (by simp [hw])]
 exact h
def ConOk (P : Program) (ops : Array Oper) (a : Act) (vals : List (Option Value)) (Base : World → Prop) (ia ib ic i : Nat) (o : Oper) : Prop :=
 ∀ (xs : List Value) (w' : World), xs.length = ops.size → xs[i]? = (origs a (ops.toList.map (·.dst)))[i]? → (∀ e ∈ o.after, Region.binds .any e = true → e.on ≠ ia → e.on ≠ ib → e.on ≠ ic → ∀ u, vals[e.on]? = some (some u) → xs[e.on]? = some u) → Base w' →
  ∀ K : Act → World → Prop, (∀ v, (∀ u, vals[i]? = some (some u) → v = u) → K ((fill a (ops.toList.map (·.dst)) xs).put o.dst v) w') → wpList P ops (Sw K) [o] (fill a (ops.toList.map (·.dst)) xs) w'
def ConsFrom (P : Program) (ops : Array Oper) (a : Act) (vals : List (Option Value)) (Base : World → Prop) (ia ib ic : Nat) : Nat → List Oper → Prop
 | _, [] => True
 | k, o :: os => (k = ia ∨ k = ib ∨ k = ic ∨ ConOk P ops a vals Base ia ib ic k o) ∧ ConsFrom P ops a vals Base ia ib ic (k + 1) os
theorem cons_of {P : Program} {ops : Array Oper} {a : Act} {vals : List (Option Value)} {Base : World → Prop} {ia ib ic : Nat} : ∀ (l : List Oper) (k : Nat), (∀ j, l[j]? = ops[k + j]?) → ConsFrom P ops a vals Base ia ib ic k l → ∀ i o, k ≤ i → ops[i]? = some o → i = ia ∨ i = ib ∨ i = ic ∨ ConOk P ops a vals Base ia ib ic i o := by
 intro l
 induction l with
 |
  nil =>
  intro k h _ i o hk hi
  have := h (i - k)
  rw [show k + (i - k) = i by omega, hi] at this
  simp at this
 |
  cons x l ih =>
  intro k h hs i o hk hi
  by_cases e : i = k
  ·subst e
   have h0 := h 0
   rw [Nat.add_zero, hi] at h0
   simp only [List.getElem?_cons_zero, Option.some.injEq] at h0
   subst h0
   exact hs.1
  ·exact ih (k + 1) (fun j => by have := h (j + 1); rw [List.getElem?_cons_succ] at this; rw [this]; congr 1; omega) hs.2 i o (by omega) hi
theorem cons_all {P : Program} {ops : Array Oper} {a : Act} {vals : List (Option Value)} {Base : World → Prop} {ia ib ic : Nat} (h : ConsFrom P ops a vals Base ia ib ic 0 ops.toList) :
  ∀ i o, ops[i]? = some o → i = ia ∨ i = ib ∨ i = ic ∨ ConOk P ops a vals Base ia ib ic i o := fun i o hi => cons_of ops.toList 0 (fun j => by simp) h i o (Nat.zero_le _) hi

theorem wp_region_app {P : Program} {ops : Array Oper} {Q : Exit → Act → World → Prop} {id : Nat} {a : Act} {w : World} (hm : P.follows .mixedOrders = true) (hok : regionOk ops = true)
  (ia ib ic : Nat) (hab : ((ops[ib]?).map fun o => o.after.any fun e => Region.binds .any e && e.on == ia) = some true) (hcov : ((ops[ic]?).map fun o => covers o ic ops.size) = some true)
  (hne : ia ≠ ib ∧ ib ≠ ic ∧ ia ≠ ic) (hlt : ia < ops.size ∧ ib < ops.size ∧ ic < ops.size) {oA oB oC : Oper} (hA : ops[ia]? = some oA) (hB : ops[ib]? = some oB) (hC : ops[ic]? = some oC)
  (vals : List (Option Value)) (va : Value) (w1 : World) (App Fin : Value → World → Prop) (Base : World → Prop)
  (hb0 : Base { w with drawn := w.drawn + 1 }) (hb1 : Base w1) (hb2 : ∀ v w2, App v w2 → Base w2)
  (con : ∀ (i : Nat) (o : Oper), ops[i]? = some o → i = ia ∨ i = ib ∨ i = ic ∨ ConOk P ops a vals Base ia ib ic i o)
  (stA : ∀ xs : List Value, xs.length = ops.size → (∀ e ∈ oA.after, Region.binds .any e = true → e.on ≠ ia → e.on ≠ ib → e.on ≠ ic → ∀ u, vals[e.on]? = some (some u) → xs[e.on]? = some u) →
   ∀ K : Act → World → Prop, K ((fill a (ops.toList.map (·.dst)) xs).put oA.dst va) w1 → wpList P ops (Sw K) [oA] (fill a (ops.toList.map (·.dst)) xs) { w with drawn := w.drawn + 1 })
  (stB : ∀ xs : List Value, xs.length = ops.size → (∀ e ∈ oB.after, Region.binds .any e = true → e.on ≠ ia → e.on ≠ ib → e.on ≠ ic → ∀ u, vals[e.on]? = some (some u) → xs[e.on]? = some u) → xs[ia]? = some va →
   ∀ K : Act → World → Prop, (∀ v w2, App v w2 → K ((fill a (ops.toList.map (·.dst)) xs).put oB.dst v) w2) → wpList P ops (Sw K) [oB] (fill a (ops.toList.map (·.dst)) xs) w1)
  (stC : ∀ (xs : List Value) (v : Value) (w2 : World), xs.length = ops.size → (∀ e ∈ oC.after, Region.binds .any e = true → e.on ≠ ia → e.on ≠ ib → e.on ≠ ic → ∀ u, vals[e.on]? = some (some u) → xs[e.on]? = some u) → xs[ib]? = some v → App v w2 →
   ∀ K : Act → World → Prop, (∀ u w3, Fin v w3 → K ((fill a (ops.toList.map (·.dst)) xs).put oC.dst u) w3) → wpList P ops (Sw K) [oC] (fill a (ops.toList.map (·.dst)) xs) w2)
  (done : ∀ (xs : List Value) (v : Value) (w' : World), xs.length = ops.size → (∀ i, i < ops.size → i ≠ ia → i ≠ ib → i ≠ ic → ∀ u, vals[i]? = some (some u) → xs[i]? = some u) → xs[ia]? = some va → xs[ib]? = some v → Fin v w' → Q .normal (fill a (ops.toList.map (·.dst)) xs) w') :
  (Code.region id ops true).wp P Q a w := by
 obtain ⟨n1, n2, n3⟩ := hne
 obtain ⟨l1, l2, l3⟩ := hlt
 refine wp_region_inv hm hok (AppJ ops.size ia ib ic vals va (origs a (ops.toList.map (·.dst))) { w with drawn := w.drawn + 1 } w1 App Fin) ?_ ?_ ?_
 ·have hz : ∀ i, (Array.replicate ops.size false).getD i false = false := by intro i; simp [Array.getD]
  have hf : ∀ i, (Array.replicate ops.size false).getD i false = true → False := fun i h => by rw [hz] at h; cases h
  exact ⟨fun i _ _ _ _ h => (hf i h).elim, fun h => (hf _ h).elim, fun h => (hf _ h).elim, fun h => (hf _ h).elim, fun _ => rfl, fun h _ => (hf _ h).elim, fun h _ => (hf _ h).elim, fun h => (hf _ h).elim, fun _ _ _ => rfl, fun h => (hf _ h).elim⟩
 ·intro i o ho L xs w' hs hx hL hafter hJ K hK
  have hi := (Array.getElem?_eq_some_iff.1 ho).1
  have hdep : ∀ e ∈ o.after, Region.binds .any e = true → e.on ≠ ia → e.on ≠ ib → e.on ≠ ic → ∀ u, vals[e.on]? = some (some u) → xs[e.on]? = some u := fun e he hb h1 h2 h3 => by
   have hdone := hafter e he hb
   have hsz : e.on < ops.size := by
    have := regionOk_after hok ho e he
    omega
   exact hJ.con e.on hsz h1 h2 h3 hdone
  have hp : ∀ j, (L.setIfInBounds i true).getD j false = (decide (j = i) || L.getD j false) := fun j => getD_put (by rw [hs]; exact hi)
  have hxs : ∀ (v : Value) (j : Nat), j ≠ i → (xs.set i v)[j]? = xs[j]? := fun v j hj => List.getElem?_set_ne (fun h => hj h.symm)
  have hxi : ∀ (v : Value), (xs.set i v)[i]? = some v := fun v => List.getElem?_set_self (by omega)
  have hold : ∀ (v : Value) (j : Nat), j < ops.size → (L.setIfInBounds i true).getD j false = false → (xs.set i v)[j]? = (origs a (ops.toList.map (·.dst)))[j]? := fun v j hj hf => by
   rw [hp, Bool.or_eq_false_iff, decide_eq_false_iff_not] at hf
   rw [hxs v j hf.1]
   exact hJ.old j hj hf.2
  by_cases ea : i = ia
  ·subst ea
   have hA' := hA
   have hbf : L.getD ib false = false := by
    cases h : L.getD ib false
    ·rfl
    ·rw [hJ.ab h] at hL; cases hL
   have hcf : L.getD ic false = false := by
    cases h : L.getD ic false
    ·rfl
    ·rw [hJ.bc h] at hbf; cases hbf
   obtain rfl := hJ.s0 hL
   rw [hA] at ho; cases ho
   refine stA xs hx hdep K (hK va w1 ⟨?_, fun _ => hxi va, fun _ => by rw [hp]; simp, fun h => ?_, fun h => ?_, fun _ _ => rfl, fun h => ?_, fun h => ?_, hold va, fun h => ?_⟩)
   ·intro j hj h1 h2 h3 hd u hu
    rw [hp, Bool.or_eq_true, decide_eq_true_eq] at hd
    rw [hxs _ _ h1]
    exact hJ.con j hj h1 h2 h3 (hd.resolve_left h1) u hu
   ·rw [hp, hcf] at h; simp at h; exact absurd h.symm n3
   ·rw [hp] at h; simp at h
   ·rw [hp, hbf] at h; simp at h; exact absurd h.symm n1
   ·rw [hp, hcf] at h; simp at h; exact absurd h.symm n3
   ·rw [hp, hcf] at h; simp at h; exact absurd h.symm n3
  ·by_cases eb : i = ib
   ·subst eb
    obtain ⟨e, he, hbd, hon⟩ : ∃ e ∈ o.after, Region.binds .any e = true ∧ e.on = ia := by
     rw [ho, Option.map_some, Option.some.injEq, Array.any_eq_true'] at hab
     obtain ⟨e, h1, h2⟩ := hab
     rw [Bool.and_eq_true, beq_iff_eq] at h2
     exact ⟨e, h1, h2.1, h2.2⟩
    have hat : L.getD ia false = true := hon ▸ hafter e he hbd
    have hcf : L.getD ic false = false := by
     cases h : L.getD ic false
     ·rfl
     ·rw [hJ.bc h] at hL; cases hL
    obtain rfl := hJ.s1 hat hL
    rw [hB] at ho; cases ho
    refine stB xs hx hdep (hJ.a hat) K (fun v w2 hApp => hK v w2 ⟨?_, fun _ => ?_, fun _ => ?_, fun h => ?_, fun h => ?_, fun _ h => ?_, fun _ _ => ⟨v, hxi v, hApp⟩, fun h => ?_, hold v, fun h => ?_⟩)
    ·intro j hj h1 h2 h3 hd u hu
     rw [hp, Bool.or_eq_true, decide_eq_true_eq] at hd
     rw [hxs _ _ h2]
     exact hJ.con j hj h1 h2 h3 (hd.resolve_left h2) u hu
    ·rw [hxs _ _ n1]; exact hJ.a hat
    ·rw [hp, hat]; simp
    ·rw [hp, hcf] at h; simp at h; exact absurd h.symm n2
    ·rw [hp, hat] at h; simp at h
    ·rw [hp] at h; simp at h
    ·rw [hp, hcf] at h; simp at h; exact absurd h.symm n2
    ·rw [hp, hcf] at h; simp at h; exact absurd h.symm n2
   ·by_cases ec : i = ic
    ·subst ec
     have hall : ∀ j, j < ops.size → j ≠ i → L.getD j false = true := fun j hj hji => by
      have hc := hcov
      rw [ho, Option.map_some, Option.some.injEq] at hc
      unfold covers at hc
      rw [List.all_eq_true] at hc
      have := hc j (by simpa using hj)
      rw [Bool.or_eq_true, beq_iff_eq] at this
      rcases this with h | h
      ·exact absurd h hji
      ·rw [Array.any_eq_true'] at h
       obtain ⟨d, hd1, hd2⟩ := h
       rw [Bool.and_eq_true, beq_iff_eq] at hd2
       rw [← hd2.2]; exact hafter d hd1 hd2.1
     have hbt : L.getD ib false = true := hall ib l2 n2
     have hat := hJ.ab hbt
     obtain ⟨v, hv, hApp⟩ := hJ.s2 hbt hL
     rw [hC] at ho; cases ho
     refine stC xs v w' hx hdep hv hApp K (fun u w3 hF => hK u w3 ⟨?_, fun _ => ?_, fun _ => ?_, fun _ => ?_, fun h => ?_, fun _ h => ?_, fun _ h => ?_, fun _ => ⟨v, ?_, hF⟩, hold u, fun _ j hj => ?_⟩)
     ·intro j hj h1 h2 h3 hd u hu
      rw [hp, Bool.or_eq_true, decide_eq_true_eq] at hd
      rw [hxs _ _ h3]
      exact hJ.con j hj h1 h2 h3 (hd.resolve_left h3) u hu
     ·rw [hxs _ _ n3]; exact hJ.a hat
     ·rw [hp, hat]; simp
     ·rw [hp, hbt]; simp
     ·rw [hp, hat] at h; simp at h
     ·rw [hp, hbt] at h; simp at h
     ·rw [hp] at h; simp at h
     ·rw [hxs _ _ n2]; exact hv
     ·rw [hp, Bool.or_eq_true, decide_eq_true_eq]
      by_cases e : j = i
      ·exact .inl e
      ·exact .inr (hall j hj e)
    ·have hbase : Base w' := by
      cases hA : L.getD ia false
      ·rw [hJ.s0 hA]; exact hb0
      ·cases hB : L.getD ib false
       ·rw [hJ.s1 hA hB]; exact hb1
       ·cases hC : L.getD ic false
        ·obtain ⟨v, _, h⟩ := hJ.s2 hB hC; exact hb2 v _ h
        ·rw [hJ.fin hC i hi] at hL; cases hL
     have hpa : (L.setIfInBounds i true).getD ia false = L.getD ia false := by rw [hp, decide_eq_false (fun h => ea h.symm), Bool.false_or]
     have hpb : (L.setIfInBounds i true).getD ib false = L.getD ib false := by rw [hp, decide_eq_false (fun h => eb h.symm), Bool.false_or]
     have hpc : (L.setIfInBounds i true).getD ic false = L.getD ic false := by rw [hp, decide_eq_false (fun h => ec h.symm), Bool.false_or]
     refine ((((con i o ho).resolve_left ea).resolve_left eb).resolve_left ec) xs w' hx (hJ.old i hi hL) hdep hbase K (fun v hv => hK v w' ⟨?_, fun h => ?_, fun h => ?_, fun h => ?_, fun h => ?_, fun h1 h2 => ?_, fun h1 h2 => ?_, fun h => ?_, hold v, fun h => ?_⟩)
     ·intro j hj h1 h2 h3 hd u hu
      by_cases ej : j = i
      ·subst ej; rw [hxi, hv u hu]
      ·rw [hp, Bool.or_eq_true, decide_eq_true_eq] at hd
       rw [hxs _ _ ej]
       exact hJ.con j hj h1 h2 h3 (hd.resolve_left ej) u hu
     ·rw [hpa] at h; rw [hxs _ _ (fun h => ea h.symm)]; exact hJ.a h
     ·rw [hpb] at h; rw [hpa]; exact hJ.ab h
     ·rw [hpc] at h; rw [hpb]; exact hJ.bc h
     ·rw [hpa] at h; exact hJ.s0 h
     ·rw [hpa] at h1; rw [hpb] at h2; exact hJ.s1 h1 h2
     ·rw [hpb] at h1; rw [hpc] at h2; rw [hxs _ _ (fun h => eb h.symm)]; exact hJ.s2 h1 h2
     ·rw [hpc] at h; rw [hxs _ _ (fun h => eb h.symm)]; exact hJ.s3 h
     ·rw [hpc] at h; rw [hJ.fin h i hi] at hL; cases hL
 ·intro L xs w' hx hall hJ
  obtain ⟨v, hv, hF⟩ := hJ.s3 (hall ic l3)
  exact done xs v w' hx (fun i hi h1 h2 h3 => hJ.con i hi h1 h2 h3 (hall i hi)) (hJ.a (hall ia l1)) hv hF

end Go.Proofs.YtlegeancmcmbaaaDoor

/- What a function with a struct and another result hands back; boxes. Over any program. -/
namespace Go.Proofs.YtlegeancmcmbaaaDoor
open Go.RowKit

theorem results_cell2 {P : Program} {fn : Func} {p u : Tmp} {ty : TypeId} (h : fn.results = #[.cell p ty, .tmp u]) (tmps : Array Value) (w : World) (g : Nat) (t : TypeId) (cs : Array Value) (fr : Nat × Nat) (d : TypeDesc)
  (hp : tmps.getD p undef = .pointer (some ⟨g, 0, none⟩)) (hg : w.heap[g]? = some (.cells cs t fr))
  (hu : P.underlying ty = some d) (hd : (match d with | .struct _ | .array _ _ => true | _ => false) = true) (hi : (P.info? ty).map (·.size) = some cs.size) :
  (results fn tmps).run P w = .ok (.tuple #[.agg cs, tmps.getD u undef]) w := by
 have hp' : tmps[p]?.getD undef = .pointer (some ⟨g, 0, none⟩) := by simpa using hp
 rw [results_cell_tmp h]
 simp [hp', asAddr, run_loadVar_row w g t ty cs fr d hg hu hd hi, Result.andThen]

theorem mbox {w : World} {g : Nat} {arr : Array Value} {ty : TypeId} (h : w.heap[g]? = some (.cells arr ty (0, 0))) {w' : World} (hb : Below w.heap.size w w') : w'.heap[g]? = some (.cells arr ty (0, 0)) :=
 (hb.block g (Array.getElem?_eq_some_iff.1 h).1).trans h
theorem mlt {w : World} {g : Nat} {o : Obj} (h : w.heap[g]? = some o) : g < w.heap.size := (Array.getElem?_eq_some_iff.1 h).1

end Go.Proofs.YtlegeancmcmbaaaDoor
