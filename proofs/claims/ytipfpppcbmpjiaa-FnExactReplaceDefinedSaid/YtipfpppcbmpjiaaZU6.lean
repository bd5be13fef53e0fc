/- Texts that the proof of U stands on, in one file. -/
import Derived.Test.YtipfpppcbmpjiaaZU5
import Derived.Test.YtipfpppcbmpjiaaZU2
import Derived.IntWalk
import Derived.Outline
import Derived.Laws.BitsAllLaws
import Derived.Deep.QuietTactic
import Derived.BigQuiet
import Derived.Laws.Concat
import Derived.Test.YtipfpppcbmpjiaaZU4
set_option linter.unusedVariables false
set_option linter.unusedSimpArgs false
/- MacroValid of the model. (Made by gen_mac3.py.) -/
namespace Go.Proofs.Ytipfpppcbmpjiaa
open Go.RowKit

set_option maxHeartbeats 16000000 in
set_option maxRecDepth 100000 in
theorem spec_MacroValid_no (m : DMacro) (h2 h3 : Value) (fp2 fp3 : List Nat) (w : World) (k0 : okStr m.name) (K2 : (sSlice sStr).R w [h2] m.params fp2) (K3 : (sSlice sTok).R w [h3] m.body fp3) (hf : m.function = false) :
    Calls Try.prog 57 #[.agg #[.string m.name, .bool m.function, h2, h3]] w (Says (macOk m) w) := by
  obtain ⟨a2, cap2, rfl, hc2, hm2, hcell2, hsz2⟩ := open_strs K2
  have K3' := K3
  obtain ⟨a3, cap3, rfl, hc3, hm3, hrow3⟩ := open_rows K3
  unfold maxLen at hm2 hm3
  rw [hf]
  have HN := Lib.hid (fun W => spec_l5Name m.name W k0)
  have hb0 := alloc_below' w (.cells #[.string m.name, .bool false, .slice a2 m.params.length cap2, .slice a3 m.body.length cap3] 70)
  have HX := Lib.hid (heap_alloc_new w (.cells #[.string m.name, .bool false, .slice a2 m.params.length cap2, .slice a3 m.body.length cap3] 70))
  go_enter Try.func57, Try.ntmps57
  rcases head_ways m with ⟨g1, HF⟩ | ⟨g1, g2, HF⟩ | ⟨g1, g2, g3, HF⟩ | ⟨g1, g2, g3, g4, g5, HF⟩ | ⟨g1, g2, g3, g4, g5, HF⟩ | ⟨g1, g2, g3, g4, g5, HH⟩
  · rw [g1] at HN
    clear g1
    go_wp2_with (go_at_call 74; refine (HN.out _).mono ?_; rintro e w1 ⟨rfl, hb1⟩)
    go_ret
    exact ⟨ret_bool HF.out.symm, hb0.trans (hb1.mono hb0.size)⟩
  · rw [g1] at HN
    have e2 := txt_t (l := [100, 101, 102, 105, 110, 101, 100]) g2
    clear g1 g2
    go_wp2_with (go_at_call 74; refine (HN.out _).mono ?_; rintro e w1 ⟨rfl, hb1⟩; have q0 : w1.cell? ⟨w.heap.size, 0, none⟩ = some _ := cell_of_row _ _ 0 _ _ _ ((hb1.block _ (Array.getElem?_eq_some_iff.1 HX.out).1).trans HX.out))
    go_ret
    exact ⟨ret_bool HF.out.symm, hb0.trans (hb1.mono hb0.size)⟩
  · rw [g1] at HN
    have e2 := txt_f (l := [100, 101, 102, 105, 110, 101, 100]) g2
    clear g1 g2
    go_wp2_with (go_at_call 74; refine (HN.out _).mono ?_; rintro e w1 ⟨rfl, hb1⟩; have q0 : w1.cell? ⟨w.heap.size, 0, none⟩ = some _ := cell_of_row _ _ 0 _ _ _ ((hb1.block _ (Array.getElem?_eq_some_iff.1 HX.out).1).trans HX.out); have q2 : w1.cell? ⟨w.heap.size, 2, none⟩ = some _ := cell_of_row _ _ 2 _ _ _ ((hb1.block _ (Array.getElem?_eq_some_iff.1 HX.out).1).trans HX.out))
    go_ret
    exact ⟨ret_bool HF.out.symm, hb0.trans (hb1.mono hb0.size)⟩
  · rw [g1] at HN
    have e2 := txt_f (l := [100, 101, 102, 105, 110, 101, 100]) g2
    clear g1 g2
    go_wp2_with (go_at_call 74; refine (HN.out _).mono ?_; rintro e w1 ⟨rfl, hb1⟩; have q0 : w1.cell? ⟨w.heap.size, 0, none⟩ = some _ := cell_of_row _ _ 0 _ _ _ ((hb1.block _ (Array.getElem?_eq_some_iff.1 HX.out).1).trans HX.out); have q1 : w1.cell? ⟨w.heap.size, 1, none⟩ = some _ := cell_of_row _ _ 1 _ _ _ ((hb1.block _ (Array.getElem?_eq_some_iff.1 HX.out).1).trans HX.out); have q2 : w1.cell? ⟨w.heap.size, 2, none⟩ = some _ := cell_of_row _ _ 2 _ _ _ ((hb1.block _ (Array.getElem?_eq_some_iff.1 HX.out).1).trans HX.out))
    go_ret
    exact ⟨ret_bool HF.out.symm, hb0.trans (hb1.mono hb0.size)⟩
  · rw [g1] at HN
    have e2 := txt_f (l := [100, 101, 102, 105, 110, 101, 100]) g2
    have g6 : ¬ (0 : Int) < (m.params.length : Int) := by rcases g4 with h | h; rw [hf] at h; simp at h; omega
    have g7 : ¬ 0 < m.params.length := by omega
    clear g1 g2 g4
    go_wp2_with (go_at_call 74; refine (HN.out _).mono ?_; rintro e w1 ⟨rfl, hb1⟩; have q0 : w1.cell? ⟨w.heap.size, 0, none⟩ = some _ := cell_of_row _ _ 0 _ _ _ ((hb1.block _ (Array.getElem?_eq_some_iff.1 HX.out).1).trans HX.out); have q1 : w1.cell? ⟨w.heap.size, 1, none⟩ = some _ := cell_of_row _ _ 1 _ _ _ ((hb1.block _ (Array.getElem?_eq_some_iff.1 HX.out).1).trans HX.out); have q2 : w1.cell? ⟨w.heap.size, 2, none⟩ = some _ := cell_of_row _ _ 2 _ _ _ ((hb1.block _ (Array.getElem?_eq_some_iff.1 HX.out).1).trans HX.out); have q3 : w1.cell? ⟨w.heap.size, 3, none⟩ = some _ := cell_of_row _ _ 3 _ _ _ ((hb1.block _ (Array.getElem?_eq_some_iff.1 HX.out).1).trans HX.out))
    go_ret
    exact ⟨ret_bool HF.out.symm, hb0.trans (hb1.mono hb0.size)⟩
  · rw [g1] at HN
    have e2 := txt_f (l := [100, 101, 102, 105, 110, 101, 100]) g2
    have g6 : ¬ (0 : Int) < (m.params.length : Int) := by rcases g4 with h | h; rw [hf] at h; simp at h; omega
    have g7 : ¬ 0 < m.params.length := by omega
    clear g1 g2 g4
    go_wp2_with (go_at_call 74; refine (HN.out _).mono ?_; rintro e w1 ⟨rfl, hb1⟩; have q0 : w1.cell? ⟨w.heap.size, 0, none⟩ = some _ := cell_of_row _ _ 0 _ _ _ ((hb1.block _ (Array.getElem?_eq_some_iff.1 HX.out).1).trans HX.out); have q1 : w1.cell? ⟨w.heap.size, 1, none⟩ = some _ := cell_of_row _ _ 1 _ _ _ ((hb1.block _ (Array.getElem?_eq_some_iff.1 HX.out).1).trans HX.out); have q2 : w1.cell? ⟨w.heap.size, 2, none⟩ = some _ := cell_of_row _ _ 2 _ _ _ ((hb1.block _ (Array.getElem?_eq_some_iff.1 HX.out).1).trans HX.out); have q3 : w1.cell? ⟨w.heap.size, 3, none⟩ = some _ := cell_of_row _ _ 3 _ _ _ ((hb1.block _ (Array.getElem?_eq_some_iff.1 HX.out).1).trans HX.out))
    have hB1 := hb0.trans (hb1.mono hb0.size)
    have HX1 := Lib.hid ((hb1.block _ (Array.getElem?_eq_some_iff.1 HX.out).1).trans HX.out)
    have HM := Lib.hid (fun W (hb : Below w.heap.size w W) => sMacro.below (show sMacro.R w [.string m.name, .bool false, .slice a2 m.params.length cap2, .slice a3 m.body.length cap3] m (fp2 ++ fp3) from ⟨_, _, fp2, fp3, by rw [hf], k0, K2, K3, rfl⟩) hb)
    clear q0 q1 q2 q3 HN hb0 HX hb1 K3' K2 K3
    go_loopw [3] (fun i wr => ∃ k : Nat, k ≤ m.params.length ∧ i = .int .i64 k ∧ ParUpto m.params k ∧ Below w1.heap.size w1 wr) (fun i _ => m.params.length - (intOf i).toNat)
    case atStart => exact ⟨0, by omega, rfl, ParUpto.zero _, Below.refl _ _⟩
    case round =>
      obtain ⟨k, hk, rfl, hall, hb⟩ := hrel
      have HX2 := Lib.hid ((hb.block _ (Array.getElem?_eq_some_iff.1 HX1.out).1).trans HX1.out)
      have q2 : wr.cell? ⟨w.heap.size, 2, none⟩ = some _ := cell_of_row _ _ 2 _ _ _ HX2.out
      have q3 : wr.cell? ⟨w.heap.size, 3, none⟩ = some _ := cell_of_row _ _ 3 _ _ _ HX2.out
      have hbw := hB1.trans (hb.mono hB1.size)
      by_cases hlt : k < m.params.length
      · omega
      · have HP := Lib.hid (show ParUpto m.params m.params.length from fun j hj => hall j (by omega))
        have hz : decide (k < m.params.length) = false := decide_eq_false hlt
        clear hall hk
        go_wp2
        try rw [hz]
        clear q2 q3 HX2 hbw hlt hz
        go_loopw [6] (fun i wr => ∃ k : Nat, k ≤ m.body.length ∧ i = .int .i64 k ∧ BodUpto (bodOk m) k ∧ Below w1.heap.size w1 wr) (fun i _ => m.body.length - (intOf i).toNat)
        case atStart => exact ⟨0, by omega, rfl, BodUpto.zero _, hb⟩
        case round =>
          clear hb
          obtain ⟨k, hk, rfl, hall, hb⟩ := hrel
          have HX3 := Lib.hid ((hb.block _ (Array.getElem?_eq_some_iff.1 HX1.out).1).trans HX1.out)
          have q3 : wr.cell? ⟨w.heap.size, 3, none⟩ = some _ := cell_of_row _ _ 3 _ _ _ HX3.out
          have hbw := hB1.trans (hb.mono hB1.size)
          by_cases hlt : k < m.body.length
          · obtain ⟨b1, off1, fps1, rfl, hb1', -, he1⟩ := hrow3 (by omega)
            obtain ⟨es1, hE1, hR1⟩ := he1 k hlt
            have hR1' := hR1
            obtain ⟨hh, rfl, -, -, K1⟩ := hR1
            obtain ⟨ah, caph, rfl, -⟩ := open_rows K1
            replace hE1 := hE1.frame (hbw.block b1 hb1')
            have c10 : wr.cell? ⟨b1, off1 + k * 4, none⟩ = some _ := elem_cell0 hE1 (by decide) rfl
            have c11 : wr.cell? ⟨b1, off1 + k * 4 + 1, none⟩ = some _ := elem_cell (j := 1) hE1 (by decide) rfl
            have c12 : wr.cell? ⟨b1, off1 + k * 4 + 2, none⟩ = some _ := elem_cell (j := 2) hE1 (by decide) rfl
            have c13 : wr.cell? ⟨b1, off1 + k * 4 + 3, none⟩ = some _ := elem_cell (j := 3) hE1 (by decide) rfl
            have hbx : Below wr.heap.size wr (wr.alloc (.cells #[.int .i64 m.body[k].kind, .string m.body[k].text, .bool m.body[k].spaced, .slice ah m.body[k].hidden.length caph] 33)) := alloc_below' _ _
            have HT := Lib.hid (heap_alloc_new wr (.cells #[.int .i64 m.body[k].kind, .string m.body[k].text, .bool m.body[k].spaced, .slice ah m.body[k].hidden.length caph] 33))
            have HV := Lib.hid (fun W (hW : Below (wr.alloc (.cells #[.int .i64 m.body[k].kind, .string m.body[k].text, .bool m.body[k].spaced, .slice ah m.body[k].hidden.length caph] 33)).heap.size (wr.alloc (.cells #[.int .i64 m.body[k].kind, .string m.body[k].text, .bool m.body[k].spaced, .slice ah m.body[k].hidden.length caph] 33)) W) => spec_TokenValid _ _ _ W (sTok.below (sTok.below (sTok.below hR1' hbw) hbx) hW))
            clear K1 hR1' hE1
            go_wp2_with fail
            refine (HV.out _ (Below.refl _ _)).mono ?_
            rintro e w2 ⟨rfl, hb2⟩
            have HT2 := Lib.hid ((hb2.block _ (Array.getElem?_eq_some_iff.1 HT.out).1).trans HT.out)
            have hb02 := hbx.trans (hb2.mono hbx.size)
            have hbq := hb.trans (hb02.mono hb.size)
            have hbw2 := hB1.trans (hbq.mono hB1.size)
            have HX4 := Lib.hid ((hb02.block _ (Array.getElem?_eq_some_iff.1 HX3.out).1).trans HX3.out)
            have p1 : w2.cell? ⟨wr.heap.size, 1, none⟩ = some _ := cell_of_row _ _ 1 _ _ _ HT2.out
            have p2 : w2.cell? ⟨wr.heap.size, 2, none⟩ = some _ := cell_of_row _ _ 2 _ _ _ HT2.out
            have p3 : w2.cell? ⟨wr.heap.size, 3, none⟩ = some _ := cell_of_row _ _ 3 _ _ _ HT2.out
            clear q3 c10 c11 c12 c13 HV HT hb2 HX3 hbx hb02 hbw hb
            have q0 : w2.cell? ⟨w.heap.size, 0, none⟩ = some _ := cell_of_row _ _ 0 _ _ _ HX4.out
            have q1 : w2.cell? ⟨w.heap.size, 1, none⟩ = some _ := cell_of_row _ _ 1 _ _ _ HX4.out
            have q2 : w2.cell? ⟨w.heap.size, 2, none⟩ = some _ := cell_of_row _ _ 2 _ _ _ HX4.out
            have q3 : w2.cell? ⟨w.heap.size, 3, none⟩ = some _ := cell_of_row _ _ 3 _ _ _ HX4.out
            cases hv : tokOk m.body[k]
            · have HF := Lib.hid (macOk_bod hlt (by rw [bodOk_split _ _ hlt, hv]; rfl))
              clear hv hall
              go_wp2
              go_ret
              exact ⟨ret_bool HF.out.symm, hbw2⟩
            have HS := Lib.hid (bodOk_split m k hlt)
            rw [hv] at HS
            clear hv
            have g00 : ((k : Int) == 0) = decide (k = 0) := by rw [Bool.eq_iff_iff]; simp
            have g01 : ((k : Int) == (m.body.length : Int) - 1) = decide (k + 1 = m.body.length) := by rw [Bool.eq_iff_iff]; simp; omega
            rcases bodI_ways hlt with ⟨e1, HI⟩ | ⟨e1, e2, e3, HI⟩ | ⟨e1, e2, e3, e4, HI⟩ | ⟨e1, e2, e3, e4, HI⟩ | ⟨e1, e2, e4, e5, HI⟩ | ⟨e1, e2, e4, e5, e6, HI⟩ | ⟨e1, e2, e4, e5, e6, HI⟩ | ⟨e1, e2, e4, HI⟩
            · have HF := Lib.hid (macOk_bod hlt (by rw [HS.out, HI.out]; simp))
              have f0 : (0 : Int) < (m.body[k].hidden.length : Int) := by omega
              have f01 : 0 < m.body[k].hidden.length := by omega
              have f02 : decide ((0 : Int) < (m.body[k].hidden.length : Int)) = true := decide_eq_true f0
              clear e1 hall
              go_wp2
              go_ret
              exact ⟨ret_bool HF.out.symm, hbw2⟩
            · have HF := Lib.hid (macOk_bod hlt (by rw [HS.out, HI.out]; simp))
              have f0 : ¬ (0 : Int) < (m.body[k].hidden.length : Int) := by omega
              have f01 : ¬ 0 < m.body[k].hidden.length := by omega
              rw [decide_eq_true e2] at g00
              rw [e3] at p2
              clear e2 e3
              clear e1 hall
              go_wp2
              go_ret
              exact ⟨ret_bool HF.out.symm, hbw2⟩
            · have HF := Lib.hid (macOk_bod hlt (by rw [HS.out, HI.out]; simp))
              have f0 : ¬ (0 : Int) < (m.body[k].hidden.length : Int) := by omega
              have f01 : ¬ 0 < m.body[k].hidden.length := by omega
              rw [decide_eq_true e2] at g00
              rw [e3] at p2
              have f4 := txt_t (l := [35, 35]) e4
              have E4 := Lib.hid e4
              clear e4
              clear e2 e3
              clear e1 hall
              go_wp2
              go_ret
              exact ⟨ret_bool HF.out.symm, hbw2⟩
            · have f0 : ¬ (0 : Int) < (m.body[k].hidden.length : Int) := by omega
              have f01 : ¬ 0 < m.body[k].hidden.length := by omega
              rw [decide_eq_true e2] at g00
              rw [e3] at p2
              have f4 := txt_f (l := [35, 35]) e4
              have E4 := Lib.hid e4
              clear e4
              clear e1 e2 e3
              have HN := Lib.hid (hall.succ (by rw [HS.out, HI.out, hf]; rfl))
              clear hall
              go_wp2
              go_quiet (fail)
              go_wp2
              go_roundw
              case rel => first | exact ⟨k + 1, by omega, by go_num, HN.out, belowN hbq _⟩ | ((repeat apply Exists.intro); exact ⟨⟨k + 1, by omega, by go_num, HN.out, belowN hbq _⟩, rfl⟩)
              case measure => simp [intOf]; omega
            · have HF := Lib.hid (macOk_bod hlt (by rw [HS.out, HI.out]; simp))
              have f0 : ¬ (0 : Int) < (m.body[k].hidden.length : Int) := by omega
              have f01 : ¬ 0 < m.body[k].hidden.length := by omega
              rw [decide_eq_false e2] at g00
              have f4 := txt_t (l := [35, 35]) e4
              have E4 := Lib.hid e4
              clear e4
              rw [decide_eq_true e5] at g01
              clear e2 e5
              clear e1 hall
              go_wp2
              go_ret
              exact ⟨ret_bool HF.out.symm, hbw2⟩
            · have HF := Lib.hid (macOk_bod hlt (by rw [HS.out, HI.out]; simp))
              have f0 : ¬ (0 : Int) < (m.body[k].hidden.length : Int) := by omega
              have f01 : ¬ 0 < m.body[k].hidden.length := by omega
              rw [decide_eq_false e2] at g00
              have f4 := txt_t (l := [35, 35]) e4
              have E4 := Lib.hid e4
              clear e4
              rw [decide_eq_false e5] at g01
              obtain ⟨es2, hE2, hR2⟩ := he1 (k - 1) (by omega)
              obtain ⟨h9, rfl, -, -, -⟩ := hR2
              replace hE2 := hE2.frame (hbw2.block b1 hb1')
              have c21 : w2.cell? ⟨b1, off1 + (k - 1) * 4 + 1, none⟩ = some _ := elem_cell (j := 1) hE2 (by decide) rfl
              have h6 : ((k : Int) - 1).toNat = k - 1 := by omega
              have hwl : IntKind.i64.wrap ((k : Int) - 1) = (k : Int) - 1 := IntWalk.i64_in _ (by omega)
              have hi1 : (0 : Int) ≤ (k : Int) - 1 := by omega
              have hi2 : (k : Int) - 1 < (m.body.length : Int) := by omega
              clear hE2
              have f6 := txt_t (l := [35, 35]) e6
              clear e2 e5 e6
              clear e1 hall
              go_wp2
              go_ret
              exact ⟨ret_bool HF.out.symm, hbw2⟩
            · have f0 : ¬ (0 : Int) < (m.body[k].hidden.length : Int) := by omega
              have f01 : ¬ 0 < m.body[k].hidden.length := by omega
              rw [decide_eq_false e2] at g00
              have f4 := txt_t (l := [35, 35]) e4
              have E4 := Lib.hid e4
              clear e4
              rw [decide_eq_false e5] at g01
              obtain ⟨es2, hE2, hR2⟩ := he1 (k - 1) (by omega)
              obtain ⟨h9, rfl, -, -, -⟩ := hR2
              replace hE2 := hE2.frame (hbw2.block b1 hb1')
              have c21 : w2.cell? ⟨b1, off1 + (k - 1) * 4 + 1, none⟩ = some _ := elem_cell (j := 1) hE2 (by decide) rfl
              have h6 : ((k : Int) - 1).toNat = k - 1 := by omega
              have hwl : IntKind.i64.wrap ((k : Int) - 1) = (k : Int) - 1 := IntWalk.i64_in _ (by omega)
              have hi1 : (0 : Int) ≤ (k : Int) - 1 := by omega
              have hi2 : (k : Int) - 1 < (m.body.length : Int) := by omega
              clear hE2
              have f6 := txt_f (l := [35, 35]) e6
              clear e1 e2 e5 e6
              have HN := Lib.hid (hall.succ (by rw [HS.out, HI.out, hf]; rfl))
              clear hall
              go_wp2
              go_quiet (fail)
              go_wp2
              go_roundw
              case rel => first | exact ⟨k + 1, by omega, by go_num, HN.out, belowN hbq _⟩ | ((repeat apply Exists.intro); exact ⟨⟨k + 1, by omega, by go_num, HN.out, belowN hbq _⟩, rfl⟩)
              case measure => simp [intOf]; omega
            · have f0 : ¬ (0 : Int) < (m.body[k].hidden.length : Int) := by omega
              have f01 : ¬ 0 < m.body[k].hidden.length := by omega
              rw [decide_eq_false e2] at g00
              have f4 := txt_f (l := [35, 35]) e4
              have E4 := Lib.hid e4
              clear e4
              clear e1 e2
              have HN := Lib.hid (hall.succ (by rw [HS.out, HI.out, hf]; rfl))
              clear hall
              go_wp2
              go_quiet (fail)
              go_wp2
              go_roundw
              case rel => first | exact ⟨k + 1, by omega, by go_num, HN.out, belowN hbq _⟩ | ((repeat apply Exists.intro); exact ⟨⟨k + 1, by omega, by go_num, HN.out, belowN hbq _⟩, rfl⟩)
              case measure => simp [intOf]; omega
          · have HF := Lib.hid (macOk_yes HH.out HP.out (fun j hj => hall j (by omega)))
            clear hall
            go_wp2
            go_ret
            exact ⟨ret_bool HF.out.symm, hbw⟩

set_option maxHeartbeats 16000000 in
set_option maxRecDepth 100000 in
theorem spec_MacroValid_yes (m : DMacro) (h2 h3 : Value) (fp2 fp3 : List Nat) (w : World) (k0 : okStr m.name) (K2 : (sSlice sStr).R w [h2] m.params fp2) (K3 : (sSlice sTok).R w [h3] m.body fp3) (hf : m.function = true) :
    Calls Try.prog 57 #[.agg #[.string m.name, .bool m.function, h2, h3]] w (Says (macOk m) w) := by
  obtain ⟨a2, cap2, rfl, hc2, hm2, hcell2, hsz2⟩ := open_strs K2
  have K3' := K3
  obtain ⟨a3, cap3, rfl, hc3, hm3, hrow3⟩ := open_rows K3
  unfold maxLen at hm2 hm3
  rw [hf]
  have HN := Lib.hid (fun W => spec_l5Name m.name W k0)
  have hb0 := alloc_below' w (.cells #[.string m.name, .bool true, .slice a2 m.params.length cap2, .slice a3 m.body.length cap3] 70)
  have HX := Lib.hid (heap_alloc_new w (.cells #[.string m.name, .bool true, .slice a2 m.params.length cap2, .slice a3 m.body.length cap3] 70))
  go_enter Try.func57, Try.ntmps57
  rcases head_ways m with ⟨g1, HF⟩ | ⟨g1, g2, HF⟩ | ⟨g1, g2, g3, HF⟩ | ⟨g1, g2, g3, g4, g5, HF⟩ | ⟨g1, g2, g3, g4, g5, HF⟩ | ⟨g1, g2, g3, g4, g5, HH⟩
  · rw [g1] at HN
    clear g1
    go_wp2_with (go_at_call 74; refine (HN.out _).mono ?_; rintro e w1 ⟨rfl, hb1⟩)
    go_ret
    exact ⟨ret_bool HF.out.symm, hb0.trans (hb1.mono hb0.size)⟩
  · rw [g1] at HN
    have e2 := txt_t (l := [100, 101, 102, 105, 110, 101, 100]) g2
    clear g1 g2
    go_wp2_with (go_at_call 74; refine (HN.out _).mono ?_; rintro e w1 ⟨rfl, hb1⟩; have q0 : w1.cell? ⟨w.heap.size, 0, none⟩ = some _ := cell_of_row _ _ 0 _ _ _ ((hb1.block _ (Array.getElem?_eq_some_iff.1 HX.out).1).trans HX.out))
    go_ret
    exact ⟨ret_bool HF.out.symm, hb0.trans (hb1.mono hb0.size)⟩
  · rw [g1] at HN
    have e2 := txt_f (l := [100, 101, 102, 105, 110, 101, 100]) g2
    clear g1 g2
    go_wp2_with (go_at_call 74; refine (HN.out _).mono ?_; rintro e w1 ⟨rfl, hb1⟩; have q0 : w1.cell? ⟨w.heap.size, 0, none⟩ = some _ := cell_of_row _ _ 0 _ _ _ ((hb1.block _ (Array.getElem?_eq_some_iff.1 HX.out).1).trans HX.out); have q2 : w1.cell? ⟨w.heap.size, 2, none⟩ = some _ := cell_of_row _ _ 2 _ _ _ ((hb1.block _ (Array.getElem?_eq_some_iff.1 HX.out).1).trans HX.out))
    go_ret
    exact ⟨ret_bool HF.out.symm, hb0.trans (hb1.mono hb0.size)⟩
  · rw [hf] at g4; exact absurd g4 (by simp)
  · rw [g1] at HN
    have e2 := txt_f (l := [100, 101, 102, 105, 110, 101, 100]) g2
    clear g1 g2 g4
    go_wp2_with (go_at_call 74; refine (HN.out _).mono ?_; rintro e w1 ⟨rfl, hb1⟩; have q0 : w1.cell? ⟨w.heap.size, 0, none⟩ = some _ := cell_of_row _ _ 0 _ _ _ ((hb1.block _ (Array.getElem?_eq_some_iff.1 HX.out).1).trans HX.out); have q1 : w1.cell? ⟨w.heap.size, 1, none⟩ = some _ := cell_of_row _ _ 1 _ _ _ ((hb1.block _ (Array.getElem?_eq_some_iff.1 HX.out).1).trans HX.out); have q2 : w1.cell? ⟨w.heap.size, 2, none⟩ = some _ := cell_of_row _ _ 2 _ _ _ ((hb1.block _ (Array.getElem?_eq_some_iff.1 HX.out).1).trans HX.out); have q3 : w1.cell? ⟨w.heap.size, 3, none⟩ = some _ := cell_of_row _ _ 3 _ _ _ ((hb1.block _ (Array.getElem?_eq_some_iff.1 HX.out).1).trans HX.out))
    go_ret
    exact ⟨ret_bool HF.out.symm, hb0.trans (hb1.mono hb0.size)⟩
  · rw [g1] at HN
    have e2 := txt_f (l := [100, 101, 102, 105, 110, 101, 100]) g2
    clear g1 g2 g4
    go_wp2_with (go_at_call 74; refine (HN.out _).mono ?_; rintro e w1 ⟨rfl, hb1⟩; have q0 : w1.cell? ⟨w.heap.size, 0, none⟩ = some _ := cell_of_row _ _ 0 _ _ _ ((hb1.block _ (Array.getElem?_eq_some_iff.1 HX.out).1).trans HX.out); have q1 : w1.cell? ⟨w.heap.size, 1, none⟩ = some _ := cell_of_row _ _ 1 _ _ _ ((hb1.block _ (Array.getElem?_eq_some_iff.1 HX.out).1).trans HX.out); have q2 : w1.cell? ⟨w.heap.size, 2, none⟩ = some _ := cell_of_row _ _ 2 _ _ _ ((hb1.block _ (Array.getElem?_eq_some_iff.1 HX.out).1).trans HX.out); have q3 : w1.cell? ⟨w.heap.size, 3, none⟩ = some _ := cell_of_row _ _ 3 _ _ _ ((hb1.block _ (Array.getElem?_eq_some_iff.1 HX.out).1).trans HX.out))
    have hB1 := hb0.trans (hb1.mono hb0.size)
    have HX1 := Lib.hid ((hb1.block _ (Array.getElem?_eq_some_iff.1 HX.out).1).trans HX.out)
    have HM := Lib.hid (fun W (hb : Below w.heap.size w W) => sMacro.below (show sMacro.R w [.string m.name, .bool true, .slice a2 m.params.length cap2, .slice a3 m.body.length cap3] m (fp2 ++ fp3) from ⟨_, _, fp2, fp3, by rw [hf], k0, K2, K3, rfl⟩) hb)
    clear q0 q1 q2 q3 HN hb0 HX hb1 K3' K2 K3
    go_loopw [3] (fun i wr => ∃ k : Nat, k ≤ m.params.length ∧ i = .int .i64 k ∧ ParUpto m.params k ∧ Below w1.heap.size w1 wr) (fun i _ => m.params.length - (intOf i).toNat)
    case atStart => exact ⟨0, by omega, rfl, ParUpto.zero _, Below.refl _ _⟩
    case round =>
      obtain ⟨k, hk, rfl, hall, hb⟩ := hrel
      have HX2 := Lib.hid ((hb.block _ (Array.getElem?_eq_some_iff.1 HX1.out).1).trans HX1.out)
      have q2 : wr.cell? ⟨w.heap.size, 2, none⟩ = some _ := cell_of_row _ _ 2 _ _ _ HX2.out
      have q3 : wr.cell? ⟨w.heap.size, 3, none⟩ = some _ := cell_of_row _ _ 3 _ _ _ HX2.out
      have hbw := hB1.trans (hb.mono hB1.size)
      by_cases hlt : k < m.params.length
      · obtain ⟨b, off, rfl, hbl, _, hce⟩ := hcell2 (by omega)
        have hck := (hbw.cell (p := ⟨b, off + k, none⟩) hbl).trans (hce k hlt)
        have HN := Lib.hid (fun W => spec_l5Name m.params[k] W (hsz2 k hlt))
        cases h1 : oneTok m.params[k] 1
        · rw [h1] at HN
          have HF := Lib.hid (macOk_par hlt (par_name hlt h1))
          clear h1 hce hall
          go_wp2_with (go_at_call 74; refine (HN.out _).mono ?_; rintro e w2 ⟨rfl, hb2⟩)
          go_ret
          exact ⟨ret_bool HF.out.symm, hbw.trans (hb2.mono hbw.size)⟩
        · rw [h1] at HN
          have H1 := Lib.hid h1
          clear h1
          go_wp2_with (go_at_call 74; refine (HN.out _).mono ?_; rintro e w2 ⟨rfl, hb2⟩)
          have HX3 := Lib.hid ((hb2.block _ (Array.getElem?_eq_some_iff.1 HX2.out).1).trans HX2.out)
          have hb12 := hb.trans (hb2.mono hb.size)
          clear q2 q3 hck HX2
          go_loopw [4] (fun i wr => ∃ j : Nat, j ≤ k ∧ i = .int .i64 j ∧ NotUpto m.params m.params[k] j ∧ Below w2.heap.size w2 wr) (fun i _ => k - (intOf i).toNat)
          case atStart => exact ⟨0, by omega, rfl, NotUpto.zero _ _, Below.refl _ _⟩
          case round =>
            obtain ⟨j, hj, rfl, hnot, hb3⟩ := hrel
            have HX4 := Lib.hid ((hb3.block _ (Array.getElem?_eq_some_iff.1 HX3.out).1).trans HX3.out)
            have hb13 := hb12.trans (hb3.mono hb12.size)
            have hbw3 := hB1.trans (hb13.mono hB1.size)
            have q2 : wr.cell? ⟨w.heap.size, 2, none⟩ = some _ := cell_of_row _ _ 2 _ _ _ HX4.out
            by_cases hjk : j < k
            · have hcj := (hbw3.cell (p := ⟨b, off + j, none⟩) hbl).trans (hce j (by omega))
              have hck := (hbw3.cell (p := ⟨b, off + k, none⟩) hbl).trans (hce k hlt)
              by_cases e : m.params[j] = m.params[k]
              · have e' := bytes_beq e
                have HF := Lib.hid (macOk_par hlt (par_twice hlt hjk e))
                clear e hce hall hnot
                go_wp2
                go_quiet (fail)
                go_wp2
                go_ret
                exact ⟨ret_bool HF.out.symm, belowN hbw3 _⟩
              · have e' : (m.params[j].toList == m.params[k].toList) = false := bytes_bne e
                have HG := Lib.hid (hnot.succ (by omega) e)
                clear e hce hall hnot
                go_wp2
                go_quiet (fail)
                go_wp2
                go_roundw
                case rel => exact ⟨j + 1, by omega, by go_num, HG.out, belowN hb3 _⟩
                case measure => simp [intOf]; omega
            · have hjk' : j = k := by omega
              subst hjk'
              have HG := Lib.hid (hall.succ (par_yes hlt H1.out hnot))
              clear hce hall hnot
              go_wp2
              go_roundw
              case rel => exact ⟨j + 1, by omega, by go_num, HG.out, hb13⟩
              case measure => simp [intOf]; omega
      · have HP := Lib.hid (show ParUpto m.params m.params.length from fun j hj => hall j (by omega))
        have hz : decide (k < m.params.length) = false := decide_eq_false hlt
        clear hall hk
        go_wp2
        try rw [hz]
        clear q2 q3 HX2 hbw hlt hz
        go_loopw [6] (fun i wr => ∃ k : Nat, k ≤ m.body.length ∧ i = .int .i64 k ∧ BodUpto (bodOk m) k ∧ Below w1.heap.size w1 wr) (fun i _ => m.body.length - (intOf i).toNat)
        case atStart => exact ⟨0, by omega, rfl, BodUpto.zero _, hb⟩
        case round =>
          clear hb
          obtain ⟨k, hk, rfl, hall, hb⟩ := hrel
          have HX3 := Lib.hid ((hb.block _ (Array.getElem?_eq_some_iff.1 HX1.out).1).trans HX1.out)
          have q3 : wr.cell? ⟨w.heap.size, 3, none⟩ = some _ := cell_of_row _ _ 3 _ _ _ HX3.out
          have hbw := hB1.trans (hb.mono hB1.size)
          by_cases hlt : k < m.body.length
          · obtain ⟨b1, off1, fps1, rfl, hb1', -, he1⟩ := hrow3 (by omega)
            obtain ⟨es1, hE1, hR1⟩ := he1 k hlt
            have hR1' := hR1
            obtain ⟨hh, rfl, -, -, K1⟩ := hR1
            obtain ⟨ah, caph, rfl, -⟩ := open_rows K1
            replace hE1 := hE1.frame (hbw.block b1 hb1')
            have c10 : wr.cell? ⟨b1, off1 + k * 4, none⟩ = some _ := elem_cell0 hE1 (by decide) rfl
            have c11 : wr.cell? ⟨b1, off1 + k * 4 + 1, none⟩ = some _ := elem_cell (j := 1) hE1 (by decide) rfl
            have c12 : wr.cell? ⟨b1, off1 + k * 4 + 2, none⟩ = some _ := elem_cell (j := 2) hE1 (by decide) rfl
            have c13 : wr.cell? ⟨b1, off1 + k * 4 + 3, none⟩ = some _ := elem_cell (j := 3) hE1 (by decide) rfl
            have hbx : Below wr.heap.size wr (wr.alloc (.cells #[.int .i64 m.body[k].kind, .string m.body[k].text, .bool m.body[k].spaced, .slice ah m.body[k].hidden.length caph] 33)) := alloc_below' _ _
            have HT := Lib.hid (heap_alloc_new wr (.cells #[.int .i64 m.body[k].kind, .string m.body[k].text, .bool m.body[k].spaced, .slice ah m.body[k].hidden.length caph] 33))
            have HV := Lib.hid (fun W (hW : Below (wr.alloc (.cells #[.int .i64 m.body[k].kind, .string m.body[k].text, .bool m.body[k].spaced, .slice ah m.body[k].hidden.length caph] 33)).heap.size (wr.alloc (.cells #[.int .i64 m.body[k].kind, .string m.body[k].text, .bool m.body[k].spaced, .slice ah m.body[k].hidden.length caph] 33)) W) => spec_TokenValid _ _ _ W (sTok.below (sTok.below (sTok.below hR1' hbw) hbx) hW))
            clear K1 hR1' hE1
            go_wp2_with fail
            refine (HV.out _ (Below.refl _ _)).mono ?_
            rintro e w2 ⟨rfl, hb2⟩
            have HT2 := Lib.hid ((hb2.block _ (Array.getElem?_eq_some_iff.1 HT.out).1).trans HT.out)
            have hb02 := hbx.trans (hb2.mono hbx.size)
            have hbq := hb.trans (hb02.mono hb.size)
            have hbw2 := hB1.trans (hbq.mono hB1.size)
            have HX4 := Lib.hid ((hb02.block _ (Array.getElem?_eq_some_iff.1 HX3.out).1).trans HX3.out)
            have p1 : w2.cell? ⟨wr.heap.size, 1, none⟩ = some _ := cell_of_row _ _ 1 _ _ _ HT2.out
            have p2 : w2.cell? ⟨wr.heap.size, 2, none⟩ = some _ := cell_of_row _ _ 2 _ _ _ HT2.out
            have p3 : w2.cell? ⟨wr.heap.size, 3, none⟩ = some _ := cell_of_row _ _ 3 _ _ _ HT2.out
            clear q3 c10 c11 c12 c13 HV HT hb2 HX3 hbx hb02 hbw hb
            have q0 : w2.cell? ⟨w.heap.size, 0, none⟩ = some _ := cell_of_row _ _ 0 _ _ _ HX4.out
            have q1 : w2.cell? ⟨w.heap.size, 1, none⟩ = some _ := cell_of_row _ _ 1 _ _ _ HX4.out
            have q2 : w2.cell? ⟨w.heap.size, 2, none⟩ = some _ := cell_of_row _ _ 2 _ _ _ HX4.out
            have q3 : w2.cell? ⟨w.heap.size, 3, none⟩ = some _ := cell_of_row _ _ 3 _ _ _ HX4.out
            cases hv : tokOk m.body[k]
            · have HF := Lib.hid (macOk_bod hlt (by rw [bodOk_split _ _ hlt, hv]; rfl))
              clear hv hall
              go_wp2
              go_ret
              exact ⟨ret_bool HF.out.symm, hbw2⟩
            have HS := Lib.hid (bodOk_split m k hlt)
            rw [hv] at HS
            clear hv
            have g00 : ((k : Int) == 0) = decide (k = 0) := by rw [Bool.eq_iff_iff]; simp
            have g01 : ((k : Int) == (m.body.length : Int) - 1) = decide (k + 1 = m.body.length) := by rw [Bool.eq_iff_iff]; simp; omega
            rcases bodI_ways hlt with ⟨e1, HI⟩ | ⟨e1, e2, e3, HI⟩ | ⟨e1, e2, e3, e4, HI⟩ | ⟨e1, e2, e3, e4, HI⟩ | ⟨e1, e2, e4, e5, HI⟩ | ⟨e1, e2, e4, e5, e6, HI⟩ | ⟨e1, e2, e4, e5, e6, HI⟩ | ⟨e1, e2, e4, HI⟩
            · have HF := Lib.hid (macOk_bod hlt (by rw [HS.out, HI.out]; simp))
              have f0 : (0 : Int) < (m.body[k].hidden.length : Int) := by omega
              have f01 : 0 < m.body[k].hidden.length := by omega
              have f02 : decide ((0 : Int) < (m.body[k].hidden.length : Int)) = true := decide_eq_true f0
              clear e1 hall
              go_wp2
              go_ret
              exact ⟨ret_bool HF.out.symm, hbw2⟩
            · have HF := Lib.hid (macOk_bod hlt (by rw [HS.out, HI.out]; simp))
              have f0 : ¬ (0 : Int) < (m.body[k].hidden.length : Int) := by omega
              have f01 : ¬ 0 < m.body[k].hidden.length := by omega
              rw [decide_eq_true e2] at g00
              rw [e3] at p2
              clear e2 e3
              clear e1 hall
              go_wp2
              go_ret
              exact ⟨ret_bool HF.out.symm, hbw2⟩
            · have HF := Lib.hid (macOk_bod hlt (by rw [HS.out, HI.out]; simp))
              have f0 : ¬ (0 : Int) < (m.body[k].hidden.length : Int) := by omega
              have f01 : ¬ 0 < m.body[k].hidden.length := by omega
              rw [decide_eq_true e2] at g00
              rw [e3] at p2
              have f4 := txt_t (l := [35, 35]) e4
              have E4 := Lib.hid e4
              clear e4
              clear e2 e3
              clear e1 hall
              go_wp2
              go_ret
              exact ⟨ret_bool HF.out.symm, hbw2⟩
            · have f0 : ¬ (0 : Int) < (m.body[k].hidden.length : Int) := by omega
              have f01 : ¬ 0 < m.body[k].hidden.length := by omega
              rw [decide_eq_true e2] at g00
              rw [e3] at p2
              have f4 := txt_f (l := [35, 35]) e4
              have E4 := Lib.hid e4
              clear e4
              clear e1 e2 e3
              by_cases e7 : m.body[k].text = hash1
              · have f7 := txt_t (l := [35]) e7
                have E7 := Lib.hid e7
                clear e7
                by_cases e8 : k + 1 = m.body.length
                · have HF := Lib.hid (macOk_bod hlt (by rw [HS.out, HI.out, hf, signS_last hlt E7.out e8]; rfl))
                  rw [decide_eq_true e8] at g01
                  clear e8 hall
                  go_wp2
                  go_quiet (fail)
                  go_wp2
                  go_ret
                  exact ⟨ret_bool HF.out.symm, belowN hbw2 _⟩
                · have hk1 : k + 1 < m.body.length := by omega
                  obtain ⟨es3, hE3, hR3⟩ := he1 (k + 1) hk1
                  have hR3' := hR3
                  obtain ⟨h9, rfl, -, -, -⟩ := hR3
                  replace hE3 := hE3.frame (hbw2.block b1 hb1')
                  have c30 : w2.cell? ⟨b1, off1 + (k + 1) * 4, none⟩ = some _ := elem_cell0 hE3 (by decide) rfl
                  have c31 : w2.cell? ⟨b1, off1 + (k + 1) * 4 + 1, none⟩ = some _ := elem_cell (j := 1) hE3 (by decide) rfl
                  have c32 : w2.cell? ⟨b1, off1 + (k + 1) * 4 + 2, none⟩ = some _ := elem_cell (j := 2) hE3 (by decide) rfl
                  have c33 : w2.cell? ⟨b1, off1 + (k + 1) * 4 + 3, none⟩ = some _ := elem_cell (j := 3) hE3 (by decide) rfl
                  have HC := Lib.hid (fun W (hW : Below w2.heap.size w2 W) => spec_l5Param _ _ m m.body[k + 1] _ _ W (HM.out W (hbw2.trans (hW.mono hbw2.size))) (sTok.below (sTok.below hR3' hbw2) hW))
                  have h6 : ((k : Int) + 1).toNat = k + 1 := by omega
                  have hwl : IntKind.i64.wrap ((k : Int) + 1) = (k : Int) + 1 := IntWalk.i64_in _ (by omega)
                  have hi1 : (0 : Int) ≤ (k : Int) + 1 := by omega
                  have hi2 : (k : Int) + 1 < (m.body.length : Int) := by omega
                  rw [decide_eq_false e8] at g01
                  clear hE3 hR3' e8 he1 hrow3
                  go_wp2
                  go_still_tail 19, (by kernel_rfl)
                  change wpList _ _ _ _ _ w2.drew
                  have hd : Below w2.heap.size w2 w2.drew := belowN (Below.refl _ _) 1
                  generalize w2.drew = w3 at *
                  by_cases e9 : parOf m.params m.body[k + 1] < 0
                  · have HF := Lib.hid (macOk_bod hlt (by rw [HS.out, HI.out, hf, signS_no hk1 E7.out e9]; rfl))
                    clear hall
                    go_wp2_with (go_at_call 75; refine (HC.out _ hd).mono ?_; rintro e w4 ⟨rfl, hb4⟩)
                    go_ret
                    exact ⟨ret_bool HF.out.symm, (hbw2.trans (hd.mono hbw2.size)).trans (hb4.mono (Nat.le_trans hbw2.size hd.size))⟩
                  · have HN := Lib.hid (hall.succ (by rw [HS.out, HI.out, hf, signS_yes hk1 E7.out e9]; rfl))
                    clear hall
                    go_wp2_with (go_at_call 75; refine (HC.out _ hd).mono ?_; rintro e w4 ⟨rfl, hb4⟩)
                    go_roundw
                    case rel => first | exact ⟨k + 1, by omega, by go_num, HN.out, (hbq.trans (hd.mono hbq.size)).trans (hb4.mono (Nat.le_trans hbq.size hd.size))⟩ | ((repeat apply Exists.intro); exact ⟨⟨k + 1, by omega, by go_num, HN.out, (hbq.trans (hd.mono hbq.size)).trans (hb4.mono (Nat.le_trans hbq.size hd.size))⟩, rfl⟩)
                    case measure => simp [intOf]; omega
              · have f7 := txt_f (l := [35]) e7
                have HN := Lib.hid (hall.succ (by rw [HS.out, HI.out, hf, signS_other hlt e7]; rfl))
                clear e7 hall
                go_wp2
                go_quiet (fail)
                go_wp2
                go_roundw
                case rel => first | exact ⟨k + 1, by omega, by go_num, HN.out, belowN hbq _⟩ | ((repeat apply Exists.intro); exact ⟨⟨k + 1, by omega, by go_num, HN.out, belowN hbq _⟩, rfl⟩)
                case measure => simp [intOf]; omega
            · have HF := Lib.hid (macOk_bod hlt (by rw [HS.out, HI.out]; simp))
              have f0 : ¬ (0 : Int) < (m.body[k].hidden.length : Int) := by omega
              have f01 : ¬ 0 < m.body[k].hidden.length := by omega
              rw [decide_eq_false e2] at g00
              have f4 := txt_t (l := [35, 35]) e4
              have E4 := Lib.hid e4
              clear e4
              rw [decide_eq_true e5] at g01
              clear e2 e5
              clear e1 hall
              go_wp2
              go_ret
              exact ⟨ret_bool HF.out.symm, hbw2⟩
            · have HF := Lib.hid (macOk_bod hlt (by rw [HS.out, HI.out]; simp))
              have f0 : ¬ (0 : Int) < (m.body[k].hidden.length : Int) := by omega
              have f01 : ¬ 0 < m.body[k].hidden.length := by omega
              rw [decide_eq_false e2] at g00
              have f4 := txt_t (l := [35, 35]) e4
              have E4 := Lib.hid e4
              clear e4
              rw [decide_eq_false e5] at g01
              obtain ⟨es2, hE2, hR2⟩ := he1 (k - 1) (by omega)
              obtain ⟨h9, rfl, -, -, -⟩ := hR2
              replace hE2 := hE2.frame (hbw2.block b1 hb1')
              have c21 : w2.cell? ⟨b1, off1 + (k - 1) * 4 + 1, none⟩ = some _ := elem_cell (j := 1) hE2 (by decide) rfl
              have h6 : ((k : Int) - 1).toNat = k - 1 := by omega
              have hwl : IntKind.i64.wrap ((k : Int) - 1) = (k : Int) - 1 := IntWalk.i64_in _ (by omega)
              have hi1 : (0 : Int) ≤ (k : Int) - 1 := by omega
              have hi2 : (k : Int) - 1 < (m.body.length : Int) := by omega
              clear hE2
              have f6 := txt_t (l := [35, 35]) e6
              clear e2 e5 e6
              clear e1 hall
              go_wp2
              go_ret
              exact ⟨ret_bool HF.out.symm, hbw2⟩
            · have f0 : ¬ (0 : Int) < (m.body[k].hidden.length : Int) := by omega
              have f01 : ¬ 0 < m.body[k].hidden.length := by omega
              rw [decide_eq_false e2] at g00
              have f4 := txt_t (l := [35, 35]) e4
              have E4 := Lib.hid e4
              clear e4
              rw [decide_eq_false e5] at g01
              obtain ⟨es2, hE2, hR2⟩ := he1 (k - 1) (by omega)
              obtain ⟨h9, rfl, -, -, -⟩ := hR2
              replace hE2 := hE2.frame (hbw2.block b1 hb1')
              have c21 : w2.cell? ⟨b1, off1 + (k - 1) * 4 + 1, none⟩ = some _ := elem_cell (j := 1) hE2 (by decide) rfl
              have h6 : ((k : Int) - 1).toNat = k - 1 := by omega
              have hwl : IntKind.i64.wrap ((k : Int) - 1) = (k : Int) - 1 := IntWalk.i64_in _ (by omega)
              have hi1 : (0 : Int) ≤ (k : Int) - 1 := by omega
              have hi2 : (k : Int) - 1 < (m.body.length : Int) := by omega
              clear hE2
              have f6 := txt_f (l := [35, 35]) e6
              clear e1 e2 e5 e6
              by_cases e7 : m.body[k].text = hash1
              · exact absurd (e7.symm.trans E4.out) (by decide)
              · have f7 := txt_f (l := [35]) e7
                have HN := Lib.hid (hall.succ (by rw [HS.out, HI.out, hf, signS_other hlt e7]; rfl))
                clear e7 hall
                go_wp2
                go_quiet (fail)
                go_wp2
                go_roundw
                case rel => first | exact ⟨k + 1, by omega, by go_num, HN.out, belowN hbq _⟩ | ((repeat apply Exists.intro); exact ⟨⟨k + 1, by omega, by go_num, HN.out, belowN hbq _⟩, rfl⟩)
                case measure => simp [intOf]; omega
            · have f0 : ¬ (0 : Int) < (m.body[k].hidden.length : Int) := by omega
              have f01 : ¬ 0 < m.body[k].hidden.length := by omega
              rw [decide_eq_false e2] at g00
              have f4 := txt_f (l := [35, 35]) e4
              have E4 := Lib.hid e4
              clear e4
              clear e1 e2
              by_cases e7 : m.body[k].text = hash1
              · have f7 := txt_t (l := [35]) e7
                have E7 := Lib.hid e7
                clear e7
                by_cases e8 : k + 1 = m.body.length
                · have HF := Lib.hid (macOk_bod hlt (by rw [HS.out, HI.out, hf, signS_last hlt E7.out e8]; rfl))
                  rw [decide_eq_true e8] at g01
                  clear e8 hall
                  go_wp2
                  go_quiet (fail)
                  go_wp2
                  go_ret
                  exact ⟨ret_bool HF.out.symm, belowN hbw2 _⟩
                · have hk1 : k + 1 < m.body.length := by omega
                  obtain ⟨es3, hE3, hR3⟩ := he1 (k + 1) hk1
                  have hR3' := hR3
                  obtain ⟨h9, rfl, -, -, -⟩ := hR3
                  replace hE3 := hE3.frame (hbw2.block b1 hb1')
                  have c30 : w2.cell? ⟨b1, off1 + (k + 1) * 4, none⟩ = some _ := elem_cell0 hE3 (by decide) rfl
                  have c31 : w2.cell? ⟨b1, off1 + (k + 1) * 4 + 1, none⟩ = some _ := elem_cell (j := 1) hE3 (by decide) rfl
                  have c32 : w2.cell? ⟨b1, off1 + (k + 1) * 4 + 2, none⟩ = some _ := elem_cell (j := 2) hE3 (by decide) rfl
                  have c33 : w2.cell? ⟨b1, off1 + (k + 1) * 4 + 3, none⟩ = some _ := elem_cell (j := 3) hE3 (by decide) rfl
                  have HC := Lib.hid (fun W (hW : Below w2.heap.size w2 W) => spec_l5Param _ _ m m.body[k + 1] _ _ W (HM.out W (hbw2.trans (hW.mono hbw2.size))) (sTok.below (sTok.below hR3' hbw2) hW))
                  have h6 : ((k : Int) + 1).toNat = k + 1 := by omega
                  have hwl : IntKind.i64.wrap ((k : Int) + 1) = (k : Int) + 1 := IntWalk.i64_in _ (by omega)
                  have hi1 : (0 : Int) ≤ (k : Int) + 1 := by omega
                  have hi2 : (k : Int) + 1 < (m.body.length : Int) := by omega
                  rw [decide_eq_false e8] at g01
                  clear hE3 hR3' e8 he1 hrow3
                  go_wp2
                  go_still_tail 19, (by kernel_rfl)
                  change wpList _ _ _ _ _ w2.drew
                  have hd : Below w2.heap.size w2 w2.drew := belowN (Below.refl _ _) 1
                  generalize w2.drew = w3 at *
                  by_cases e9 : parOf m.params m.body[k + 1] < 0
                  · have HF := Lib.hid (macOk_bod hlt (by rw [HS.out, HI.out, hf, signS_no hk1 E7.out e9]; rfl))
                    clear hall
                    go_wp2_with (go_at_call 75; refine (HC.out _ hd).mono ?_; rintro e w4 ⟨rfl, hb4⟩)
                    go_ret
                    exact ⟨ret_bool HF.out.symm, (hbw2.trans (hd.mono hbw2.size)).trans (hb4.mono (Nat.le_trans hbw2.size hd.size))⟩
                  · have HN := Lib.hid (hall.succ (by rw [HS.out, HI.out, hf, signS_yes hk1 E7.out e9]; rfl))
                    clear hall
                    go_wp2_with (go_at_call 75; refine (HC.out _ hd).mono ?_; rintro e w4 ⟨rfl, hb4⟩)
                    go_roundw
                    case rel => first | exact ⟨k + 1, by omega, by go_num, HN.out, (hbq.trans (hd.mono hbq.size)).trans (hb4.mono (Nat.le_trans hbq.size hd.size))⟩ | ((repeat apply Exists.intro); exact ⟨⟨k + 1, by omega, by go_num, HN.out, (hbq.trans (hd.mono hbq.size)).trans (hb4.mono (Nat.le_trans hbq.size hd.size))⟩, rfl⟩)
                    case measure => simp [intOf]; omega
              · have f7 := txt_f (l := [35]) e7
                have HN := Lib.hid (hall.succ (by rw [HS.out, HI.out, hf, signS_other hlt e7]; rfl))
                clear e7 hall
                go_wp2
                go_quiet (fail)
                go_wp2
                go_roundw
                case rel => first | exact ⟨k + 1, by omega, by go_num, HN.out, belowN hbq _⟩ | ((repeat apply Exists.intro); exact ⟨⟨k + 1, by omega, by go_num, HN.out, belowN hbq _⟩, rfl⟩)
                case measure => simp [intOf]; omega
          · have HF := Lib.hid (macOk_yes HH.out HP.out (fun j hj => hall j (by omega)))
            clear hall
            go_wp2
            go_ret
            exact ⟨ret_bool HF.out.symm, hbw⟩


end Go.Proofs.Ytipfpppcbmpjiaa

/- The drawing of inputs: the reader. -/
namespace Go.Proofs.Ytipfpppcbmpjiaa
open Go.RowKit

/-- A reader: block rb holds the bytes' slice and the place p. -/
structure Rd (w : World) (rb : Nat) (p : Nat) : Prop where
  mk ::
  ex : ∃ (a : Option Addr) (l : List UInt8) (cap : Nat) (fp : List Nat), w.heap[rb]? = some (.cells #[.slice a l.length cap, .int .i64 p] 78 (0, 0)) ∧ (sSlice sByte).R w [.slice a l.length cap] l fp ∧ Under rb fp ∧ l.length ≤ 2000
  hp : p ≤ 1000000

theorem Rd.step {w : World} {rb p : Nat} (H : Rd w rb p) (hp : p < 1000000) : Rd (w.setCell ⟨rb, 1, none⟩ (.int .i64 ((p : Int) + 1))) rb (p + 1) ∧ Kept [rb] w (w.setCell ⟨rb, 1, none⟩ (.int .i64 ((p : Int) + 1))) := by
  obtain ⟨⟨a, l, cap, fp, hb, hr, hu, hl⟩, hp'⟩ := H
  have hk : Kept [rb] w (w.setCell ⟨rb, 1, none⟩ (.int .i64 ((p : Int) + 1))) := (Kept.refl _ _).setCell (by simp) _
  refine ⟨⟨⟨a, l, cap, fp, ?_, (sSlice sByte).kept hr (fun b hb' => by have := hu b hb'; simp; omega) hk, hu, hl⟩, by omega⟩, hk⟩
  simp [World.setCell, Array.getElem?_modify, hb]

/-- The reader's next number is in 0..n-1; its place has moved by one. -/
def Picked (rb p : Nat) (n : Int) (w : World) (e : Ending) (w' : World) : Prop :=
  ∃ r : Int, e = .returned (.int .i64 r) ∧ 0 ≤ r ∧ (r < n ∨ n < 1 ∧ r = 0) ∧ Rd w' rb (p + 1) ∧ Kept [rb] w w'

theorem Picked.of {rb p : Nat} {n r : Int} {w : World} (H : Rd w rb p) (hp : p < 1000000) (h0 : 0 ≤ r) (h1 : r < n ∨ n < 1 ∧ r = 0) (m : Nat) :
    Picked rb p n w (.returned (.int .i64 r)) ((w.setCell ⟨rb, 1, none⟩ (.int .i64 ((p : Int) + 1))).drewN m) :=
  ⟨r, rfl, h0, h1, ⟨(H.step hp).1.ex, (H.step hp).1.hp⟩, (H.step hp).2.drewN m⟩

theorem xor_i64_nonneg (a b : Nat) (ha : a < 4611686018427387904) (hb : b < 4611686018427387904) : 0 ≤ bits .xor .i64 (a : Int) (b : Int) := by
  have hx : a ^^^ b < 2 ^ 62 := Nat.xor_lt_two_pow (by omega) (by omega)
  have h1 : (BitVec.ofInt 64 (a : Int)).toNat = a := by
    rw [BitVec.ofInt_natCast, BitVec.toNat_ofNat]; exact Nat.mod_eq_of_lt (by omega)
  have h2 : (BitVec.ofInt 64 (b : Int)).toNat = b := by
    rw [BitVec.ofInt_natCast, BitVec.toNat_ofNat]; exact Nat.mod_eq_of_lt (by omega)
  show 0 ≤ IntKind.i64.wrap ((BitVec.ofInt 64 (a : Int) ^^^ BitVec.ofInt 64 (b : Int)).toNat : Int)
  rw [BitVec.toNat_xor, h1, h2, IntWalk.i64_in _ (by omega)]
  omega
theorem xor_pick {X : Int} (h : 0 ≤ X ∧ X ≤ 1000000000) : 0 ≤ bits .xor .i64 X (X / 64) := by
  obtain ⟨x, rfl⟩ := Int.eq_ofNat_of_zero_le h.1
  have := xor_i64_nonneg x (x / 64) (by omega) (by omega)
  simpa using this
theorem wrap_byte (b : UInt8) : 0 ≤ wrap64 (b.toNat : Int) ∧ wrap64 (b.toNat : Int) ≤ 255 := by
  have := b.toNat_lt
  rw [show wrap64 (b.toNat : Int) = (b.toNat : Int) from by unfold wrap64; omega]
  omega
theorem rem_pick {x n : Int} (h : 0 ≤ x) (hn : 1 ≤ n) : 0 ≤ x.tmod n ∧ x.tmod n < n := by
  rw [Int.tmod_eq_emod_of_nonneg h]
  exact ⟨Int.emod_nonneg _ (by omega), Int.emod_lt_of_pos _ (by omega)⟩

set_option maxHeartbeats 2000000 in
theorem pick (rb p : Nat) (n : Int) (w : World) (H : Rd w rb p) (hp : p < 1000000) (hn : n ≤ 1000000) (hn0 : -1000000 ≤ n) :
    Calls Try.prog 47 #[.pointer (some ⟨rb, 0, none⟩), .int .i64 n] w (Picked rb p n w) := by
  have HP := fun (r : Int) h0 h1 m => Picked.of (n := n) (r := r) H hp h0 h1 m
  have HH := Lib.hid HP; clear HP
  obtain ⟨⟨a, l, cap, fp, hb, hr, hu, hl⟩, _⟩ := H
  have h0 : w.cell? ⟨rb, 0, none⟩ = some (.slice a l.length cap) := by simp [World.cell?, hb]
  have h1 : w.cell? ⟨rb, 1, none⟩ = some (.int .i64 p) := by simp [World.cell?, hb]
  have hf : w.frozen? ⟨rb, 1, none⟩ = false := by simp [World.frozen?, hb]
  clear hb
  obtain ⟨_, _, hv, _, _, hcell, _⟩ := open_flat hr
  simp only [Value.slice.injEq] at hv
  obtain ⟨rfl, _, rfl⟩ := hv
  clear hr
  by_cases hn1 : n < 1
  · go_enter Try.func47, Try.ntmps47
    go_wp2
    go_ret
    exact HH.out 0 (by omega) (.inr ⟨hn1, rfl⟩) 0
  by_cases hl0 : l.length = 0
  · have hl1 : ((l.length : Int) == 0) = true := by simp [hl0]
    go_enter Try.func47, Try.ntmps47
    go_wp2
    go_ret
    exact HH.out 0 (by omega) (.inl (by omega)) 0
  obtain ⟨b, off, rfl, hbw, hbf, hc⟩ := hcell (by omega)
  clear hcell
  have hlt := hu b hbf
  have hne : ¬ rb = b := by omega
  have hl1 : ((l.length : Int) == 0) = false := beq_eq_false_iff_ne.2 (by omega)
  by_cases hk : p < l.length
  · have hcp := hc p hk
    simp only [encByte] at hcp
    have HZ := Lib.hid (rem_pick (wrap_byte l[p]).1 (show 1 ≤ n by omega))
    clear hc
    go_enter Try.func47, Try.ntmps47
    go_wp2
    go_ret
    exact HH.out _ HZ.out.1 (.inl HZ.out.2) 0
  · obtain ⟨i1, hi1⟩ : ∃ i, i = p % l.length := ⟨_, rfl⟩
    obtain ⟨m3, hm3⟩ : ∃ m, m = p * 7 + 3 := ⟨_, rfl⟩
    obtain ⟨i2, hi2⟩ : ∃ i, i = m3 % l.length := ⟨_, rfl⟩
    obtain ⟨q1, hq1⟩ : ∃ q, q = p / l.length := ⟨_, rfl⟩
    have hi1l : i1 < l.length := by rw [hi1]; exact Nat.mod_lt _ (by omega)
    have hi2l : i2 < l.length := by rw [hi2]; exact Nat.mod_lt _ (by omega)
    have hq1l : q1 ≤ p := by rw [hq1]; exact Nat.div_le_self _ _
    obtain ⟨c1, hd1, hd2, hc1⟩ : ∃ c : Int, 0 ≤ c ∧ c ≤ 255 ∧ w.cell? ⟨b, off + i1, none⟩ = some (.int .u8 c) := ⟨_, by omega, by have := l[i1].toNat_lt; omega, hc i1 hi1l⟩
    obtain ⟨c2, hd3, hd4, hc2⟩ : ∃ c : Int, 0 ≤ c ∧ c ≤ 255 ∧ w.cell? ⟨b, off + i2, none⟩ = some (.int .u8 c) := ⟨_, by omega, by have := l[i2].toNat_lt; omega, hc i2 hi2l⟩
    have e1 : IntKind.i64.wrap ((p : Int).tmod (l.length : Int)) = (i1 : Int) := by
      rw [Int.tmod_eq_emod_of_nonneg (by omega), ← Int.natCast_emod, ← hi1]; exact IntWalk.i64_in _ (by omega)
    have e3 : IntKind.i64.wrap ((p : Int) * 7) = (p : Int) * 7 := IntWalk.i64_in _ (by omega)
    have e4 : IntKind.i64.wrap ((p : Int) * 7 + 3) = (m3 : Int) := by rw [IntWalk.i64_in _ (by omega)]; omega
    have e5 : IntKind.i64.wrap ((m3 : Int).tmod (l.length : Int)) = (i2 : Int) := by
      rw [Int.tmod_eq_emod_of_nonneg (by omega), ← Int.natCast_emod, ← hi2]; exact IntWalk.i64_in _ (by omega)
    have e6 : IntKind.i64.wrap c1 = c1 := IntWalk.i64_in _ (by omega)
    have e7 : IntKind.i64.wrap c2 = c2 := IntWalk.i64_in _ (by omega)
    have e8 : IntKind.i64.wrap (c1 * 131) = c1 * 131 := IntWalk.i64_in _ (by omega)
    have e9 : IntKind.i64.wrap (c2 * 1117) = c2 * 1117 := IntWalk.i64_in _ (by omega)
    have e10 : IntKind.i64.wrap (c1 * 131 + c2 * 1117) = c1 * 131 + c2 * 1117 := IntWalk.i64_in _ (by omega)
    have e11 : IntKind.i64.wrap ((p : Int) * 29) = (p : Int) * 29 := IntWalk.i64_in _ (by omega)
    have e12 : IntKind.i64.wrap (c1 * 131 + c2 * 1117 + (p : Int) * 29) = c1 * 131 + c2 * 1117 + (p : Int) * 29 := IntWalk.i64_in _ (by omega)
    have e13 : IntKind.i64.wrap ((p : Int).tdiv (l.length : Int)) = (q1 : Int) := by
      rw [Int.tdiv_eq_ediv_of_nonneg (by omega), ← Int.natCast_ediv, ← hq1]; exact IntWalk.i64_in _ (by omega)
    have e14 : IntKind.i64.wrap ((q1 : Int) * 53) = (q1 : Int) * 53 := IntWalk.i64_in _ (by omega)
    obtain ⟨X, hX⟩ : ∃ X : Int, X = c1 * 131 + c2 * 1117 + (p : Int) * 29 + (q1 : Int) * 53 := ⟨_, rfl⟩
    have hX0 : 0 ≤ X ∧ X ≤ 1000000000 := by omega
    have e15 : IntKind.i64.wrap (c1 * 131 + c2 * 1117 + (p : Int) * 29 + (q1 : Int) * 53) = X := by rw [← hX]; exact IntWalk.i64_in _ (by omega)
    have f1 : (p : Int) % (l.length : Int) = (i1 : Int) := by rw [hi1, Int.natCast_emod]
    have f2 : ((p : Int) * 7 + 3) % (l.length : Int) = (i2 : Int) := by rw [hi2, hm3, Int.natCast_emod]; rfl
    have f3 : (m3 : Int) % (l.length : Int) = (i2 : Int) := by rw [hi2, Int.natCast_emod]
    have f4 : (p : Int) / (l.length : Int) = (q1 : Int) := by rw [hq1, Int.natCast_ediv]
    have f5 := hX.symm
    have HX := Lib.hid hX0
    clear hX0 hX hi1 hm3 hi2 hq1 hc
    go_enter Try.func47, Try.ntmps47
    go_wp2
    go_quiet (fail)
    clear f1 f2 f3 f4 f5 e1 e3 e4 e5 e6 e7 e8 e9 e10 e11 e12 e13 e14 e15
    have hX0 := HX.out
    go_wp2
    go_ret
    have hr := rem_pick (xor_pick HX.out) (show 1 ≤ n by omega)
    exact HH.out _ hr.1 (.inl hr.2) _

/-- .. 'odd' answers some bool. -/
def Odd (rb p : Nat) (w : World) (e : Ending) (w' : World) : Prop := ∃ b : Bool, ∃ q : Nat, e = .returned (.bool b) ∧ p ≤ q ∧ q ≤ p + 1 ∧ Rd w' rb q ∧ Kept [rb] w w'

set_option maxHeartbeats 1000000 in
theorem odd (rb p : Nat) (n : Int) (w : World) (H : Rd w rb p) (hp : p < 1000000) (hn : n ≤ 1000000) (hn0 : 0 ≤ n) :
    Calls Try.prog 21 #[.pointer (some ⟨rb, 0, none⟩), .int .i64 n] w (Odd rb p w) := by
  by_cases h0 : 0 < n
  · go_enter Try.func21, Try.ntmps21
    go_wp2_with (go_at_call 47; refine (pick _ _ _ _ H hp hn (by omega)).mono ?_; rintro e w' ⟨r, rfl, hr0, hr1, hr2, hr3⟩)
    go_ret
    exact ⟨_, p + 1, rfl, by omega, by omega, hr2, hr3⟩
  · have e0 : n = 0 := by omega
    subst e0
    go_enter Try.func21, Try.ntmps21
    go_wp2
    go_ret
    exact ⟨_, p, rfl, by omega, by omega, H, Kept.refl _ _⟩

end Go.Proofs.Ytipfpppcbmpjiaa

/- The drawing of inputs: readers, and texts out of a list. -/
namespace Go.Proofs.Ytipfpppcbmpjiaa
open Go.RowKit

theorem Rd.grow {w w' : World} {rb p : Nat} (H : Rd w rb p) (hb : Below w.heap.size w w') : Rd w' rb p := by
  obtain ⟨⟨a, l, cap, fp, h1, h2, h3, h4⟩, h5⟩ := H
  exact ⟨⟨a, l, cap, fp, (hb.block rb (Array.getElem?_eq_some_iff.1 h1).1).trans h1, (sSlice sByte).below h2 hb, h3, h4⟩, h5⟩
theorem Rd.lt {w : World} {rb p : Nat} (H : Rd w rb p) : rb < w.heap.size := by
  obtain ⟨⟨a, l, cap, fp, h1, h2, h3, h4⟩, h5⟩ := H
  exact (Array.getElem?_eq_some_iff.1 h1).1
theorem kept_below {B rb : Nat} {w0 w w' : World} (hb : Below B w0 w) (hk : Kept [rb] w w') (hr : B ≤ rb) (hs : B ≤ w.heap.size) : Below B w0 w' :=
  hb.trans (hk.below (fun b hb => by
    obtain rfl : b = rb := by simpa using hb
    exact hr) hs)

/-- A text out of a list. -/
theorem lit_get (L : List ByteArray) (r : Int) (h0 : 0 ≤ r) (h1 : r < L.length) : ∃ s, s ∈ L ∧ ∀ A : Array Value, A = (L.map Value.string).toArray → A[r.toNat]? = some (.string s) := by
  have h : r.toNat < L.length := by omega
  refine ⟨L[r.toNat], List.getElem_mem h, ?_⟩
  rintro A rfl
  simp [List.getElem?_eq_getElem h]

theorem Kept.cell {fp : List Nat} {w w' : World} (hk : Kept fp w w') {p : Addr} (h1 : p.block < w.heap.size) (h2 : p.block ∉ fp) : w'.cell? p = w.cell? p :=
  World.cell?_of_block (hk.block p.block h1 h2)
/-- A text out of a list of texts that the call has just made, behind a pick. -/
theorem lit_pick (L : List ByteArray) (M : Nat) (hM : ∀ s ∈ L, s.size ≤ M) {rb : Nat} {wr w2 : World} {r : Int} (h0 : 0 ≤ r) (h1 : r < L.length) (hr : rb < wr.heap.size) (hK : Kept [rb] (wr.alloc (.cells (L.map Value.string).toArray 9)) w2) :
    ∃ s : ByteArray, s.size ≤ M ∧ w2.cell? ⟨wr.heap.size, r.toNat, none⟩ = some (.string s) := by
  obtain ⟨s, hs, hl⟩ := lit_get L r h0 h1
  refine ⟨s, hM s hs, ?_⟩
  rw [hK.cell (p := ⟨wr.heap.size, r.toNat, none⟩) (by simp) (by simp; omega), World.cell?_alloc_at _ _ _ _ rfl]
  exact hl _ rfl
/-- A reader of a slice of bytes. -/
def Opened (B : Nat) (w0 : World) (e : Ending) (w' : World) : Prop := ∃ rb, e = .returned (.pointer (some ⟨rb, 0, none⟩)) ∧ B ≤ rb ∧ Rd w' rb 0 ∧ Below B w0 w'

theorem slice_take {α : Type} {S : Shape α} {w : World} {a : Option Addr} {cap : Nat} {l : List α} {fp : List Nat} (n : Nat) (hn : n ≤ l.length) (H : (sSlice S).R w [.slice a l.length cap] l fp) :
    ∃ fp', (sSlice S).R w [.slice a n cap] (l.take n) fp' ∧ ∀ b ∈ fp', b ∈ fp := by
  obtain ⟨a', cap', hv, hc, hm, h⟩ := H
  simp only [List.cons.injEq, Value.slice.injEq, and_true, true_and] at hv
  obtain ⟨rfl, rfl⟩ := hv
  have hl : (l.take n).length = n := by simp; omega
  by_cases h0 : n = 0
  · subst h0
    exact ⟨[], ⟨a, cap, by simp, by simp, hm, .inl ⟨by simp, rfl⟩⟩, by simp⟩
  · rcases h with ⟨rfl, _⟩ | ⟨_, b, off, fps, ha, rfl, hb, he⟩
    · simp at hn; omega
    · refine ⟨b :: (List.range n).flatMap fps, ⟨a, cap, by rw [hl], by omega, hm, .inr ⟨by omega, b, off, fps, ha, by rw [hl], hb, fun i hi => ?_⟩⟩, ?_⟩
      · rw [hl] at hi
        obtain ⟨es, h1, h2⟩ := he i (by omega)
        exact ⟨es, h1, by rw [List.getElem_take]; exact h2⟩
      · intro x hx
        rcases List.mem_cons.1 hx with rfl | hx
        · simp
        · obtain ⟨i, hi, hx⟩ := List.mem_flatMap.1 hx
          refine List.mem_cons_of_mem _ (List.mem_flatMap.2 ⟨i, ?_, hx⟩)
          simp only [List.mem_range] at hi ⊢
          omega

theorem Opened.of {v : Value} {l : List UInt8} {a : Option Addr} {cap : Nat} {fp : List Nat} {w : World} (hv : v = .slice a l.length cap) (H : (sSlice sByte).R w [v] l fp) (hl : l.length ≤ 2000) :
    Opened w.heap.size w (.returned (.pointer (some ⟨w.heap.size, 0, none⟩))) (w.alloc (.cells #[v, .int .i64 0] 78)) := by
  subst hv
  have hb : Below w.heap.size w (w.alloc (.cells #[.slice a l.length cap, .int .i64 0] 78)) := (Below.refl _ _).alloc (Nat.le_refl _) _
  refine ⟨w.heap.size, rfl, Nat.le_refl _, ⟨⟨a, l, cap, fp, ?_, (sSlice sByte).below H hb, (sSlice sByte).lt H, hl⟩, by omega⟩, hb⟩
  show (w.heap.push _)[w.heap.size]? = _
  simp

set_option maxHeartbeats 1000000 in
theorem l20Open (v : Value) (l : List UInt8) (fp : List Nat) (w : World) (H : (sSlice sByte).R w [v] l fp) :
    Calls Try.prog 19 #[v] w (Opened w.heap.size w) := by
  obtain ⟨a, cap, hv, hc, hm, h⟩ := H
  obtain rfl : v = .slice a l.length cap := by simpa using hv
  unfold maxLen at hm
  by_cases hl : 2000 < l.length
  · obtain ⟨fp', h', _⟩ := slice_take (S := sByte) 2000 (by omega) ⟨a, cap, rfl, hc, hm, h⟩
    have HO := Lib.hid (fun v hv (h : (sSlice sByte).R w [v] (l.take 2000) fp') => Opened.of (v := v) (a := a) (cap := cap) hv h (by simp; omega))
    go_enter Try.func19, Try.ntmps19
    go_wp2
    go_ret
    exact HO.out _ (by rw [List.length_take, Nat.min_eq_left (by omega)]) h'
  · have HO := Lib.hid (Opened.of (v := .slice a l.length cap) rfl ⟨a, cap, rfl, hc, hm, h⟩ (by omega))
    go_enter Try.func19, Try.ntmps19
    go_wp2
    go_ret
    exact HO.out

end Go.Proofs.Ytipfpppcbmpjiaa

/- MacroValid of the program. -/
namespace Go.Proofs.Ytipfpppcbmpjiaa
open Go.RowKit

/-- The place of a text among others, from k on, or -1. -/
def idxTx (ps : List ByteArray) (x : ByteArray) (k : Nat) : Int := if h : k < ps.length then (if x = ps[k] then (k : Int) else idxTx ps x (k + 1)) else -1
termination_by ps.length - k
theorem idx_end {ps : List ByteArray} {x : ByteArray} {k : Nat} (h : ps.length ≤ k) : idxTx ps x k = -1 := by rw [idxTx, dif_neg (by omega)]
theorem idx_hit {ps : List ByteArray} {x : ByteArray} {k : Nat} (h : k < ps.length) (h1 : x = ps[k]) : idxTx ps x k = k := by rw [idxTx, dif_pos h, if_pos h1]
theorem idx_miss {ps : List ByteArray} {x : ByteArray} {k : Nat} (h : k < ps.length) (h1 : x ≠ ps[k]) : idxTx ps x k = idxTx ps x (k + 1) := by rw [idxTx, dif_pos h, if_neg h1]
theorem idx_has (ps : List ByteArray) (x : ByteArray) (k : Nat) : decide (0 ≤ idxTx ps x k) = hasTx (ps.drop k) x := by
  induction k using idxTx.induct (ps := ps) (x := x) with
  | case1 k h hc =>
    rw [idx_hit h hc, List.drop_eq_getElem_cons h]
    unfold hasTx
    rw [List.any_cons, decide_eq_true hc.symm, Bool.true_or, decide_eq_true (by omega)]
  | case2 k h hc ih =>
    have hc' : ¬ ps[k] = x := fun e => hc e.symm
    rw [idx_miss h hc, ih, List.drop_eq_getElem_cons h]
    unfold hasTx
    rw [List.any_cons, decide_eq_false hc', Bool.false_or]
  | case3 k h => rw [idx_end (by omega), List.drop_eq_nil_iff.2 (by omega)]; rfl
theorem idx_has0 (ps : List ByteArray) (x : ByteArray) : decide (0 ≤ idxTx ps x 0) = hasTx ps x := idx_has ps x 0

set_option maxHeartbeats 2000000 in
theorem lib_Index (v : Value) (l : List ByteArray) (fp : List Nat) (x : ByteArray) (w : World) (H : (sSlice sStr).R w [v] l fp) :
    Calls Try.prog 87 #[v, .string x] w fun e w' => e = .returned (.int .i64 (idxTx l x 0)) ∧ w' = w := by
  obtain ⟨a, cap, rfl, hc, hm, hcell, hsz⟩ := open_strs H
  unfold maxLen at hm
  clear H
  go_enter Try.func87, Try.ntmps87
  go_wp2
  go_loopw [8] (fun i wr => ∃ k : Nat, k ≤ l.length ∧ i = .int .i64 k ∧ Hid (idxTx l x 0 = idxTx l x k) ∧ wr = w) (fun i _ => l.length - (intOf i).toNat)
  case atStart => exact ⟨0, by omega, rfl, rfl, rfl⟩
  case round =>
    obtain ⟨k, hk, rfl, HP, rfl⟩ := hrel
    by_cases hlt : k < l.length
    · obtain ⟨b, off, rfl, hbl, _, hc2⟩ := hcell (by omega)
      have hck := hc2 k hlt
      clear hcell hc2
      by_cases e : x = l[k]
      · have g := bytes_beq e
        have HF := Lib.hid (idx_hit hlt e)
        clear e
        go_wp2
        go_ret
        exact ⟨ret_int (by rw [HP.out, HF.out]), by first | rfl | trivial⟩
      · have g : (x.toList == l[k].toList) = false := bytes_bne e
        have HF := Lib.hid (idx_miss hlt e)
        clear e
        go_wp2
        go_roundw
        case rel => exact ⟨k + 1, by omega, by go_num, by show _ = _; rw [HP.out, HF.out], by first | rfl | trivial⟩
        case measure => simp [intOf]; omega
    · have HF := Lib.hid (idx_end (x := x) (by omega : l.length ≤ k))
      go_wp2
      go_ret
      exact ⟨ret_int (by rw [HP.out, HF.out]), by first | rfl | trivial⟩
theorem lib_Contains (v : Value) (l : List ByteArray) (fp : List Nat) (x : ByteArray) (w : World) (H : (sSlice sStr).R w [v] l fp) :
    Calls Try.prog 84 #[v, .string x] w fun e w' => e = .returned (.bool (hasTx l x)) ∧ w' = w := by
  have HC := Lib.hid (lib_Index v l fp x w H)
  have HF := Lib.hid (idx_has0 l x)
  clear H
  go_enter Try.func84, Try.ntmps84
  go_wp2_with (go_at_call 87; refine HC.out.mono ?_; rintro e w' ⟨rfl, rfl⟩)
  go_ret
  exact ⟨ret_bool HF.out, by first | rfl | trivial⟩

theorem par_take {ps : List ByteArray} {k : Nat} (hk : k < ps.length) : parOk ps k = (oneTok ps[k] 1 && !hasTx (ps.take k) ps[k]) := by
  unfold parOk
  rw [dif_pos hk]
  congr 1
  cases h : hasTx (ps.take k) ps[k]
  · rw [Bool.not_false, List.all_eq_true]
    intro j hj
    have hj' : j < k := by simpa using hj
    rw [List.getElem?_eq_getElem (by omega), Bool.not_eq_true', decide_eq_false_iff_not]
    intro e
    have : hasTx (ps.take k) ps[k] = true := hasTx_iff.2 (by rw [← Option.some.inj e]; exact List.mem_take_iff_getElem.2 ⟨j, by omega, rfl⟩)
    rw [h] at this
    exact absurd this (by simp)
  · rw [Bool.not_true, List.all_eq_false]
    obtain ⟨j, hj, he⟩ := List.mem_take_iff_getElem.1 (hasTx_iff.1 h)
    exact ⟨j, by simp; omega, by rw [List.getElem?_eq_getElem (by omega), he]; simp⟩
theorem parsOk_long {ps : List ByteArray} (h : 4 < ps.length) : parsOk ps = false := by unfold parsOk; rw [decide_eq_false (by omega)]; rfl
theorem parsOk_no {ps : List ByteArray} {k : Nat} (hk : k < ps.length) (h : parOk ps k = false) : parsOk ps = false := by unfold parsOk; rw [range_no hk h, Bool.and_false]
theorem parsOk_yes {ps : List ByteArray} (hl : ps.length ≤ 4) (h : ParUpto ps ps.length) : parsOk ps = true := by unfold parsOk; rw [range_yes h, decide_eq_true hl]; rfl

set_option maxHeartbeats 4000000 in
set_option maxRecDepth 100000 in
theorem impl_paramsValid (v : Value) (l : List ByteArray) (fp : List Nat) (w : World) (H : (sSlice sStr).R w [v] l fp) :
    Calls Try.prog 68 #[v] w (Says (parsOk l) w) := by
  have H' := H
  obtain ⟨a, cap, rfl, hc, hm, hcell, hsz⟩ := open_strs H
  unfold maxLen at hm
  clear H
  by_cases hl : 4 < l.length
  · have HF := Lib.hid (parsOk_long hl)
    go_enter Try.func68, Try.ntmps68
    go_wp2
    go_ret
    exact ⟨ret_bool HF.out.symm, Below.refl _ _⟩
  go_enter Try.func68, Try.ntmps68
  go_wp2
  go_loopw [10] (fun i wr => ∃ k : Nat, k ≤ l.length ∧ i = .int .i64 k ∧ ParUpto l k ∧ Below w.heap.size w wr) (fun i _ => l.length - (intOf i).toNat)
  case atStart => exact ⟨0, by omega, rfl, ParUpto.zero _, Below.refl _ _⟩
  case round =>
    obtain ⟨k, hk, rfl, hall, hb⟩ := hrel
    by_cases hlt : k < l.length
    · obtain ⟨b, off, rfl, hbl, _, hc2⟩ := hcell (by omega)
      have hck := (hb.cell (p := ⟨b, off + k, none⟩) hbl).trans (hc2 k hlt)
      have HC := Lib.hid (fun W => impl_isOneToken l[k] 1 W (hsz k hlt))
      obtain ⟨fpt, HT, -⟩ := slice_take k hk H'
      have HD := Lib.hid (fun W (hW : Below wr.heap.size wr W) => lib_Contains _ _ _ l[k] W ((sSlice sStr).below ((sSlice sStr).below HT hb) hW))
      have hpk := par_take hlt
      clear hcell hc2 HT H'
      cases h1 : oneTok l[k] 1
      · rw [h1] at HC hpk
        have HF := Lib.hid (parsOk_no hlt (hpk.trans rfl))
        clear h1 hpk hall HD
        go_wp2_with (go_at_call 66; refine (HC.out _).mono ?_; rintro e w1 ⟨rfl, hb1⟩)
        go_ret
        exact ⟨ret_bool HF.out.symm, hb.trans (hb1.mono hb.size)⟩
      · rw [h1] at HC hpk
        clear h1
        go_wp2_with fail
        refine (HC.out _).mono ?_
        rintro e w1 ⟨rfl, hb1⟩
        go_wp2_with fail
        refine (HD.out _ hb1).mono ?_
        rintro e w2 ⟨rfl, rfl⟩
        have hbq := hb.trans (hb1.mono hb.size)
        cases h2 : hasTx (l.take k) l[k]
        · rw [h2] at hpk
          have HN := Lib.hid (hall.succ (hpk.trans rfl))
          clear h2 hpk hall hck HD HC hb1
          go_wp2
          go_roundw
          case rel => exact ⟨k + 1, by omega, by go_num, HN.out, hbq⟩
          case measure => simp [intOf]; omega
        · rw [h2] at hpk
          have HF := Lib.hid (parsOk_no hlt (hpk.trans rfl))
          clear h2 hpk hall hck HD HC hb1
          go_wp2
          go_ret
          exact ⟨ret_bool HF.out.symm, hbq⟩
    · have HF := Lib.hid (parsOk_yes (by omega) (fun j hj => hall j (by omega)))
      clear hall
      go_wp2
      go_ret
      exact ⟨ret_bool HF.out.symm, hb⟩

end Go.Proofs.Ytipfpppcbmpjiaa

/- MacroValid of the program, from its parts. (Made by gen_mac5.py.) -/
namespace Go.Proofs.Ytipfpppcbmpjiaa
open Go.RowKit

theorem bodyI_long {b : List Tok} (h : 20 < b.length) : bodyOkI b = false := by unfold bodyOkI; rw [decide_eq_false (by omega)]; rfl
theorem bodyI_toks {b : List Tok} (h : toksOk b = false) : bodyOkI b = false := by unfold bodyOkI; rw [h]; simp
theorem bodyI_no {b : List Tok} {k : Nat} (hk : k < b.length) (h : bodI b k = false) : bodyOkI b = false := by unfold bodyOkI; rw [range_no hk h, Bool.and_false]
theorem bodyI_yes {b : List Tok} (h1 : b.length ≤ 20) (h2 : toksOk b = true) (h3 : BodUpto (bodI b) b.length) : bodyOkI b = true := by unfold bodyOkI; rw [range_yes h3, decide_eq_true h1, h2]; rfl

set_option maxHeartbeats 16000000 in
set_option maxRecDepth 100000 in
theorem impl_bodyValid (v : Value) (l : List Tok) (fp : List Nat) (w : World) (H : (sSlice sTok).R w [v] l fp) :
    Calls Try.prog 67 #[v] w (Says (bodyOkI l) w) := by
  have HV := Lib.hid (impl_TokensValid v l fp w H)
  obtain ⟨a, cap, rfl, hc, hm, hrow⟩ := open_rows H
  unfold maxLen at hm
  clear H
  by_cases hl : 20 < l.length
  · have HF := Lib.hid (bodyI_long hl)
    go_enter Try.func67, Try.ntmps67
    go_wp2
    go_ret
    exact ⟨ret_bool HF.out.symm, Below.refl _ _⟩
  cases hv : toksOk l
  · rw [hv] at HV
    have HF := Lib.hid (bodyI_toks hv)
    clear hv
    go_enter Try.func67, Try.ntmps67
    go_wp2_with (go_at_call 25; refine HV.out.mono ?_; rintro e w1 ⟨rfl, hb1⟩)
    go_ret
    exact ⟨ret_bool HF.out.symm, hb1⟩
  rw [hv] at HV
  have HTV := Lib.hid hv
  clear hv
  go_enter Try.func67, Try.ntmps67
  go_wp2_with (go_at_call 25; refine HV.out.mono ?_; rintro e w1 ⟨rfl, hb1⟩)
  go_loopw [15] (fun i wr => ∃ k : Nat, k ≤ l.length ∧ i = .int .i64 k ∧ BodUpto (bodI l) k ∧ Below w.heap.size w wr) (fun i _ => l.length - (intOf i).toNat)
  case atStart => exact ⟨0, by omega, rfl, BodUpto.zero _, hb1⟩
  case round =>
    clear hb1
    obtain ⟨k, hk, rfl, hall, hb⟩ := hrel
    by_cases hlt : k < l.length
    · obtain ⟨b1, off1, fps1, rfl, hb1', -, he1⟩ := hrow (by omega)
      obtain ⟨es1, hE1, hR1⟩ := he1 k hlt
      obtain ⟨hh, rfl, -, -, K1⟩ := hR1
      obtain ⟨ah, caph, rfl, -⟩ := open_rows K1
      replace hE1 := hE1.frame (hb.block b1 hb1')
      have c10 : wr.cell? ⟨b1, off1 + k * 4, none⟩ = some _ := elem_cell0 hE1 (by decide) rfl
      have c11 : wr.cell? ⟨b1, off1 + k * 4 + 1, none⟩ = some _ := elem_cell (j := 1) hE1 (by decide) rfl
      have c12 : wr.cell? ⟨b1, off1 + k * 4 + 2, none⟩ = some _ := elem_cell (j := 2) hE1 (by decide) rfl
      have c13 : wr.cell? ⟨b1, off1 + k * 4 + 3, none⟩ = some _ := elem_cell (j := 3) hE1 (by decide) rfl
      have hbx : Below wr.heap.size wr (wr.alloc (.cells #[.int .i64 l[k].kind, .string l[k].text, .bool l[k].spaced, .slice ah l[k].hidden.length caph] 33)) := alloc_below' _ _
      have HT := Lib.hid (heap_alloc_new wr (.cells #[.int .i64 l[k].kind, .string l[k].text, .bool l[k].spaced, .slice ah l[k].hidden.length caph] 33))
      have hbq := hb.trans (hbx.mono hb.size)
      clear K1 hE1
      have g00 : ((k : Int) == 0) = decide (k = 0) := by rw [Bool.eq_iff_iff]; simp
      have g01 : ((k : Int) == (l.length : Int) - 1) = decide (k + 1 = l.length) := by rw [Bool.eq_iff_iff]; simp; omega
      rcases bodI_ways hlt with ⟨e1, HI⟩ | ⟨e1, e2, e3, HI⟩ | ⟨e1, e2, e3, e4, HI⟩ | ⟨e1, e2, e3, e4, HI⟩ | ⟨e1, e2, e4, e5, HI⟩ | ⟨e1, e2, e4, e5, e6, HI⟩ | ⟨e1, e2, e4, e5, e6, HI⟩ | ⟨e1, e2, e4, HI⟩
      · have HF := Lib.hid (bodyI_no hlt HI.out)
        have f0 : (0 : Int) < (l[k].hidden.length : Int) := by omega
        have f01 : 0 < l[k].hidden.length := by omega
        have f02 : decide ((0 : Int) < (l[k].hidden.length : Int)) = true := decide_eq_true f0
        clear e1
        clear hall
        go_wp2
        go_ret
        exact ⟨ret_bool HF.out.symm, hb.trans ((alloc_below' wr _).mono hb.size)⟩
      · have HF := Lib.hid (bodyI_no hlt HI.out)
        have f0 : ¬ (0 : Int) < (l[k].hidden.length : Int) := by omega
        have f01 : ¬ 0 < l[k].hidden.length := by omega
        rw [decide_eq_true e2] at g00
        rw [e3] at c12
        clear e1 e2 e3
        clear hall
        go_wp2
        go_ret
        exact ⟨ret_bool HF.out.symm, hb.trans ((alloc_below' wr _).mono hb.size)⟩
      · have HF := Lib.hid (bodyI_no hlt HI.out)
        have f0 : ¬ (0 : Int) < (l[k].hidden.length : Int) := by omega
        have f01 : ¬ 0 < l[k].hidden.length := by omega
        rw [decide_eq_true e2] at g00
        rw [e3] at c12
        have f4 := txt_t (l := [35, 35]) e4
        clear e4
        clear e1 e2 e3
        clear hall
        go_wp2
        go_ret
        exact ⟨ret_bool HF.out.symm, hb.trans ((alloc_below' wr _).mono hb.size)⟩
      · have HN := Lib.hid (hall.succ HI.out)
        have f0 : ¬ (0 : Int) < (l[k].hidden.length : Int) := by omega
        have f01 : ¬ 0 < l[k].hidden.length := by omega
        rw [decide_eq_true e2] at g00
        rw [e3] at c12
        have f4 := txt_f (l := [35, 35]) e4
        clear e4
        clear e1 e2 e3
        clear hall
        go_wp2
        go_roundw
        case rel => first | exact ⟨k + 1, by omega, by go_num, HN.out, hb.trans ((alloc_below' wr _).mono hb.size)⟩ | ((repeat apply Exists.intro); exact ⟨⟨k + 1, by omega, by go_num, HN.out, hb.trans ((alloc_below' wr _).mono hb.size)⟩, rfl⟩)
        case measure => simp [intOf]; omega
      · have HF := Lib.hid (bodyI_no hlt HI.out)
        have f0 : ¬ (0 : Int) < (l[k].hidden.length : Int) := by omega
        have f01 : ¬ 0 < l[k].hidden.length := by omega
        rw [decide_eq_false e2] at g00
        have f4 := txt_t (l := [35, 35]) e4
        clear e4
        rw [decide_eq_true e5] at g01
        clear e1 e2 e5
        clear hall
        go_wp2
        go_ret
        exact ⟨ret_bool HF.out.symm, hb.trans ((alloc_below' wr _).mono hb.size)⟩
      · have HF := Lib.hid (bodyI_no hlt HI.out)
        have f0 : ¬ (0 : Int) < (l[k].hidden.length : Int) := by omega
        have f01 : ¬ 0 < l[k].hidden.length := by omega
        rw [decide_eq_false e2] at g00
        have f4 := txt_t (l := [35, 35]) e4
        clear e4
        rw [decide_eq_false e5] at g01
        obtain ⟨es2, hE2, hR2⟩ := he1 (k - 1) (by omega)
        obtain ⟨h9, rfl, -, -, -⟩ := hR2
        replace hE2 := hE2.frame (hbq.block b1 hb1')
        have c21 : (wr.alloc (.cells #[.int .i64 l[k].kind, .string l[k].text, .bool l[k].spaced, .slice ah l[k].hidden.length caph] 33)).cell? ⟨b1, off1 + (k - 1) * 4 + 1, none⟩ = some _ := elem_cell (j := 1) hE2 (by decide) rfl
        have h6 : ((k : Int) - 1).toNat = k - 1 := by omega
        have hwl : IntKind.i64.wrap ((k : Int) - 1) = (k : Int) - 1 := IntWalk.i64_in _ (by omega)
        have hi1 : (0 : Int) ≤ (k : Int) - 1 := by omega
        have hi2 : (k : Int) - 1 < (l.length : Int) := by omega
        clear hE2
        have f6 := txt_t (l := [35, 35]) e6
        clear e1 e2 e5 e6
        clear hall
        go_wp2
        go_ret
        exact ⟨ret_bool HF.out.symm, hb.trans ((alloc_below' wr _).mono hb.size)⟩
      · have HN := Lib.hid (hall.succ HI.out)
        have f0 : ¬ (0 : Int) < (l[k].hidden.length : Int) := by omega
        have f01 : ¬ 0 < l[k].hidden.length := by omega
        rw [decide_eq_false e2] at g00
        have f4 := txt_t (l := [35, 35]) e4
        clear e4
        rw [decide_eq_false e5] at g01
        obtain ⟨es2, hE2, hR2⟩ := he1 (k - 1) (by omega)
        obtain ⟨h9, rfl, -, -, -⟩ := hR2
        replace hE2 := hE2.frame (hbq.block b1 hb1')
        have c21 : (wr.alloc (.cells #[.int .i64 l[k].kind, .string l[k].text, .bool l[k].spaced, .slice ah l[k].hidden.length caph] 33)).cell? ⟨b1, off1 + (k - 1) * 4 + 1, none⟩ = some _ := elem_cell (j := 1) hE2 (by decide) rfl
        have h6 : ((k : Int) - 1).toNat = k - 1 := by omega
        have hwl : IntKind.i64.wrap ((k : Int) - 1) = (k : Int) - 1 := IntWalk.i64_in _ (by omega)
        have hi1 : (0 : Int) ≤ (k : Int) - 1 := by omega
        have hi2 : (k : Int) - 1 < (l.length : Int) := by omega
        clear hE2
        have f6 := txt_f (l := [35, 35]) e6
        clear e1 e2 e5 e6
        clear hall
        go_wp2
        go_roundw
        case rel => first | exact ⟨k + 1, by omega, by go_num, HN.out, hb.trans ((alloc_below' wr _).mono hb.size)⟩ | ((repeat apply Exists.intro); exact ⟨⟨k + 1, by omega, by go_num, HN.out, hb.trans ((alloc_below' wr _).mono hb.size)⟩, rfl⟩)
        case measure => simp [intOf]; omega
      · have HN := Lib.hid (hall.succ HI.out)
        have f0 : ¬ (0 : Int) < (l[k].hidden.length : Int) := by omega
        have f01 : ¬ 0 < l[k].hidden.length := by omega
        rw [decide_eq_false e2] at g00
        have f4 := txt_f (l := [35, 35]) e4
        clear e4
        clear e1 e2
        clear hall
        go_wp2
        go_roundw
        case rel => first | exact ⟨k + 1, by omega, by go_num, HN.out, hb.trans ((alloc_below' wr _).mono hb.size)⟩ | ((repeat apply Exists.intro); exact ⟨⟨k + 1, by omega, by go_num, HN.out, hb.trans ((alloc_below' wr _).mono hb.size)⟩, rfl⟩)
        case measure => simp [intOf]; omega
    · have HF := Lib.hid (bodyI_yes (by omega) HTV.out (fun j hj => hall j (by omega)))
      clear hall
      go_wp2
      go_ret
      exact ⟨ret_bool HF.out.symm, hb⟩

/-! ### Number signs -/
theorem signI_other {m : DMacro} {k : Nat} (hk : k < m.body.length) (h : m.body[k].text ≠ hash1) : signI m k = true := by unfold signI; rw [dif_pos hk, decide_eq_false h]; rfl
theorem signI_last {m : DMacro} {k : Nat} (hk : k < m.body.length) (h : m.body[k].text = hash1) (hl : k + 1 = m.body.length) : signI m k = false := by unfold signI; rw [dif_pos hk, decide_eq_true h, dif_neg (by omega)]; rfl
theorem signI_in {m : DMacro} {k : Nat} (hk : k + 1 < m.body.length) (h : (m.body[k]'(by omega)).text = hash1) : signI m k = hasTx m.params m.body[k + 1].text := by unfold signI; rw [dif_pos (by omega), decide_eq_true h, dif_pos hk]; simp
theorem signs_no {m : DMacro} {k : Nat} (hk : k < m.body.length) (h : signI m k = false) : signsOk m = false := range_no hk h
theorem signs_yes {m : DMacro} (h : BodUpto (signI m) m.body.length) : signsOk m = true := range_yes h

set_option maxHeartbeats 16000000 in
set_option maxRecDepth 100000 in
theorem impl_numberSignsFit (m : DMacro) (h2 h3 : Value) (fp2 fp3 : List Nat) (w : World) (K2 : (sSlice sStr).R w [h2] m.params fp2) (K3 : (sSlice sTok).R w [h3] m.body fp3) (hl : m.body.length ≤ 1000) :
    Calls Try.prog 69 #[.agg #[.string m.name, .bool m.function, h2, h3]] w (Says (signsOk m) w) := by
  obtain ⟨a2, cap2, rfl, -⟩ := open_strs K2
  obtain ⟨a3, cap3, rfl, hc3, hm3, hrow⟩ := open_rows K3
  unfold maxLen at hm3
  clear K3
  have hb0 := alloc_below' w (.cells #[.string m.name, .bool m.function, .slice a2 m.params.length cap2, .slice a3 m.body.length cap3] 70)
  have HX := Lib.hid (heap_alloc_new w (.cells #[.string m.name, .bool m.function, .slice a2 m.params.length cap2, .slice a3 m.body.length cap3] 70))
  go_enter Try.func69, Try.ntmps69
  go_wp2
  generalize (w.alloc (.cells #[.string m.name, .bool m.function, .slice a2 m.params.length cap2, .slice a3 m.body.length cap3] 70)) = W1 at *
  go_loopw [8] (fun i wr => ∃ k : Nat, k ≤ m.body.length ∧ i = .int .i64 k ∧ BodUpto (signI m) k ∧ Below W1.heap.size W1 wr) (fun i _ => m.body.length - (intOf i).toNat)
  case atStart => exact ⟨0, by omega, rfl, BodUpto.zero _, Below.refl _ _⟩
  case round =>
    obtain ⟨k, hk, rfl, hall, hb⟩ := hrel
    have hbw := hb0.trans (hb.mono hb0.size)
    by_cases hlt : k < m.body.length
    · obtain ⟨b1, off1, fps1, rfl, hb1', -, he1⟩ := hrow (by omega)
      obtain ⟨es1, hE1, hR1⟩ := he1 k hlt
      obtain ⟨hh, rfl, -, -, K1⟩ := hR1
      obtain ⟨ah, caph, rfl, -⟩ := open_rows K1
      replace hE1 := hE1.frame (hbw.block b1 hb1')
      have c10 : wr.cell? ⟨b1, off1 + k * 4, none⟩ = some _ := elem_cell0 hE1 (by decide) rfl
      have c11 : wr.cell? ⟨b1, off1 + k * 4 + 1, none⟩ = some _ := elem_cell (j := 1) hE1 (by decide) rfl
      have c12 : wr.cell? ⟨b1, off1 + k * 4 + 2, none⟩ = some _ := elem_cell (j := 2) hE1 (by decide) rfl
      have c13 : wr.cell? ⟨b1, off1 + k * 4 + 3, none⟩ = some _ := elem_cell (j := 3) hE1 (by decide) rfl
      have hbx : Below wr.heap.size wr (wr.alloc (.cells #[.int .i64 m.body[k].kind, .string m.body[k].text, .bool m.body[k].spaced, .slice ah m.body[k].hidden.length caph] 33)) := alloc_below' _ _
      have HT := Lib.hid (heap_alloc_new wr (.cells #[.int .i64 m.body[k].kind, .string m.body[k].text, .bool m.body[k].spaced, .slice ah m.body[k].hidden.length caph] 33))
      have hbq := hb.trans (hbx.mono hb.size)
      have hbw2 := hbw.trans (hbx.mono hbw.size)
      have HX2 := Lib.hid ((hbq.block _ (Array.getElem?_eq_some_iff.1 HX.out).1).trans HX.out)
      have HC := Lib.hid (fun x W (hW : Below (wr.alloc (.cells #[.int .i64 m.body[k].kind, .string m.body[k].text, .bool m.body[k].spaced, .slice ah m.body[k].hidden.length caph] 33)).heap.size (wr.alloc (.cells #[.int .i64 m.body[k].kind, .string m.body[k].text, .bool m.body[k].spaced, .slice ah m.body[k].hidden.length caph] 33)) W) => lib_Contains _ _ _ x W ((sSlice sStr).below ((sSlice sStr).below K2 hbw2) hW))
      clear K1 hE1 hbx
      by_cases e7 : m.body[k].text = hash1
      · have f7 := txt_t (l := [35]) e7
        have E7 := Lib.hid e7
        clear e7
        go_wp2
        generalize wr.alloc (.cells #[.int .i64 m.body[k].kind, .string m.body[k].text, .bool m.body[k].spaced, .slice ah m.body[k].hidden.length caph] 33) = W2 at *
        have p1 : W2.cell? ⟨wr.heap.size, 1, none⟩ = some (.string m.body[k].text) := cell_of_row _ _ 1 _ _ _ HT.out
        clear c10 c11 c12 c13
        have q2 : W2.cell? ⟨w.heap.size, 2, none⟩ = some (.slice a2 m.params.length cap2) := cell_of_row _ _ 2 _ _ _ HX2.out
        have q3 : W2.cell? ⟨w.heap.size, 3, none⟩ = some (.slice (some ⟨b1, off1, none⟩) m.body.length cap3) := cell_of_row _ _ 3 _ _ _ HX2.out
        have g01 : ((k : Int) == (m.body.length : Int) - 1) = decide (k + 1 = m.body.length) := by rw [Bool.eq_iff_iff]; simp; omega
        have hwm : IntKind.i64.wrap ((m.body.length : Int) - 1) = (m.body.length : Int) - 1 := IntWalk.i64_in _ (by omega)
        by_cases e8 : k + 1 = m.body.length
        · have HF := Lib.hid (signs_no hlt (signI_last hlt E7.out e8))
          rw [decide_eq_true e8] at g01
          clear e8 hall
          go_quiet (fail)
          go_wp2
          go_ret
          exact ⟨ret_bool HF.out.symm, belowN hbw2 _⟩
        · have hk1 : k + 1 < m.body.length := by omega
          obtain ⟨es3, hE3, hR3⟩ := he1 (k + 1) hk1
          obtain ⟨h9, rfl, -, -, -⟩ := hR3
          replace hE3 := hE3.frame (hbw2.block b1 hb1')
          have c31 : W2.cell? ⟨b1, off1 + (k + 1) * 4 + 1, none⟩ = some _ := elem_cell (j := 1) hE3 (by decide) rfl
          have h6 : ((k : Int) + 1).toNat = k + 1 := by omega
          have hwl : IntKind.i64.wrap ((k : Int) + 1) = (k : Int) + 1 := IntWalk.i64_in _ (by omega)
          have hi1 : (0 : Int) ≤ (k : Int) + 1 := by omega
          have hi2 : (k : Int) + 1 < (m.body.length : Int) := by omega
          have hs := signI_in hk1 E7.out
          rw [decide_eq_false e8] at g01
          clear hE3 e8 he1 hrow
          go_still_tail 16, (by kernel_rfl)
          change wpList _ _ _ _ _ W2.drew
          have hd : Below W2.heap.size W2 W2.drew := belowN (Below.refl _ _) 1
          generalize W2.drew = w3 at *
          have hbw3 := hbw2.trans (hd.mono hbw2.size)
          have hbq3 := hbq.trans (hd.mono hbq.size)
          cases e9 : hasTx m.params m.body[k + 1].text
          · rw [e9] at hs
            have HF := Lib.hid (signs_no hlt hs)
            clear hall hs
            go_wp2_with (go_at_call 84; refine (HC.out _ _ hd).mono ?_; rintro e w4 ⟨rfl, rfl⟩; rw [e9]; clear e9)
            go_ret
            exact ⟨ret_bool HF.out.symm, hbw3⟩
          · rw [e9] at hs
            have HN := Lib.hid (hall.succ hs)
            clear hall hs
            go_wp2_with (go_at_call 84; refine (HC.out _ _ hd).mono ?_; rintro e w4 ⟨rfl, rfl⟩; rw [e9]; clear e9)
            go_roundw
            case rel => first | exact ⟨k + 1, by omega, by go_num, HN.out, hbq3⟩ | ((repeat apply Exists.intro); exact ⟨⟨k + 1, by omega, by go_num, HN.out, hbq3⟩, rfl⟩)
            case measure => simp [intOf]; omega
      · have f7 := txt_f (l := [35]) e7
        have HN := Lib.hid (hall.succ (signI_other hlt e7))
        clear e7 hall
        go_wp2
        go_roundw
        case rel => first | exact ⟨k + 1, by omega, by go_num, HN.out, hbq⟩ | ((repeat apply Exists.intro); exact ⟨⟨k + 1, by omega, by go_num, HN.out, hbq⟩, rfl⟩)
        case measure => simp [intOf]; omega
    · have HF := Lib.hid (signs_yes (fun j hj => hall j (by omega)))
      clear hall
      go_wp2
      go_ret
      exact ⟨ret_bool HF.out.symm, hbw⟩

end Go.Proofs.Ytipfpppcbmpjiaa

/- Lists of texts and of numbers are compared by the laws. -/
namespace Go.Proofs.Ytipfpppcbmpjiaa
open Go.RowKit

set_option maxHeartbeats 400000 in
theorem sameTexts (v1 v2 : Value) (l1 l2 : List ByteArray) (fp1 fp2 : List Nat) (w : World) (H1 : (sSlice sStr).R w [v1] l1 fp1) (H2 : (sSlice sStr).R w [v2] l2 fp2) :
    Calls Try.prog 36 #[v1, v2] w fun e w' => e = .returned (.bool (decide (l1 = l2))) ∧ ∃ n, w' = w.drewN n := by
  obtain ⟨a1, cap1, rfl, hc1, hm1, hcell1, hsz1⟩ := open_strs H1
  obtain ⟨a2, cap2, rfl, hc2, hm2, hcell2, hsz2⟩ := open_strs H2
  unfold maxLen at hm1 hm2
  by_cases hl : l1.length = l2.length
  · have hnb : ((l1.length : Int) != (l2.length : Int)) = false := by simp [hl]
    have HL := Lib.hid hl; clear hl
    go_enter Try.func36, Try.ntmps36
    go_wp2
    go_loopw [5] (fun i wr => ∃ k : Nat, k ≤ l1.length ∧ i = .int .i64 k ∧ (∃ n, wr = w.drewN n) ∧ EqUpto l1 l2 k) (fun i _ => l1.length - (intOf i).toNat)
    case atStart => exact ⟨0, by omega, rfl, ⟨0, rfl⟩, by intro j h h' hj; omega⟩
    case round =>
      obtain ⟨k, hk, rfl, ⟨n, rfl⟩, hall⟩ := hrel
      by_cases hlt : k < l1.length
      · have hlt2 : k < l2.length := by have := HL.out; omega
        obtain ⟨b1, off1, rfl, hb1, _, hd1⟩ := hcell1 (by omega)
        obtain ⟨b2, off2, rfl, hb2, _, hd2⟩ := hcell2 (by omega)
        have hck1 := hd1 k hlt
        have hck2 := hd2 k hlt2
        clear hd1 hd2
        by_cases heq : l1[k] = l2[k]
        · have hne := bytes_beq heq
          have hn := hall.succ hlt hlt2 heq
          clear heq
          go_wp2
          go_quiet (fail)
          go_wp2
          go_roundw
          case rel => exact ⟨k + 1, by omega, by go_num, ⟨_, rfl⟩, hn⟩
          case measure => simp [intOf]; omega
        · have hne := bytes_bne heq
          have HF := Lib.hid (eq_no hlt hlt2 heq)
          clear heq
          go_wp2
          go_quiet (fail)
          go_wp2
          go_ret
          exact ⟨ret_bool HF.out.symm, _, World.drewN_drewN _ _ _⟩
      · have HF := Lib.hid (hall.eq HL.out (by omega))
        go_wp2
        go_ret
        exact ⟨ret_bool HF.out.symm, _, rfl⟩
  · have hnb : ((l1.length : Int) != (l2.length : Int)) = true := by simp; omega
    have HF : Hid (decide (l1 = l2) = false) := decide_eq_false (by rintro rfl; exact hl rfl)
    clear hl
    go_enter Try.func36, Try.ntmps36
    go_wp2
    go_ret
    exact ⟨ret_bool HF.out.symm, 0, rfl⟩


end Go.Proofs.Ytipfpppcbmpjiaa

/- Lists of tokens are compared by the laws. -/
namespace Go.Proofs.Ytipfpppcbmpjiaa
open Go.RowKit

set_option maxHeartbeats 8000000 in
set_option maxRecDepth 100000 in
theorem sameTokens_same (v1 v2 : Value) (l : List Tok) (fp1 fp2 : List Nat) (w : World) (H1 : (sSlice sTok).R w [v1] l fp1) (H2 : (sSlice sTok).R w [v2] l fp2) :
    Calls Try.prog 8 #[v1, v2] w fun e w' => e = .returned (.bool true) ∧ Below w.heap.size w w' := by
  obtain ⟨a1, cap1, rfl, hc1, hm1, hrow1⟩ := open_rows H1
  obtain ⟨a2, cap2, rfl, hc2, hm2, hrow2⟩ := open_rows H2
  unfold maxLen at hm1 hm2
  clear H1 H2
  have hnb : ((l.length : Int) != (l.length : Int)) = false := by simp
  go_enter Try.func8, Try.ntmps8
  go_wp2
  go_loopw [5] (fun i wr => ∃ k : Nat, k ≤ l.length ∧ i = .int .i64 k ∧ Below w.heap.size w wr) (fun i _ => l.length - (intOf i).toNat)
  case atStart => exact ⟨0, by omega, rfl, Below.refl _ _⟩
  case round =>
    obtain ⟨k, hk, rfl, hb⟩ := hrel
    by_cases hlt : k < l.length
    · obtain ⟨b1, off1, fps1, rfl, hb1, -, he1⟩ := hrow1 (by omega)
      obtain ⟨b2, off2, fps2, rfl, hb2, -, he2⟩ := hrow2 (by omega)
      obtain ⟨es1, hE1, hR1⟩ := he1 k hlt
      obtain ⟨es2, hE2, hR2⟩ := he2 k hlt
      clear hrow1 hrow2 he1 he2
      obtain ⟨h1, rfl, -, -, K1⟩ := hR1
      obtain ⟨h2, rfl, -, -, K2⟩ := hR2
      replace hE1 := hE1.frame (hb.block b1 hb1)
      replace hE2 := hE2.frame (hb.block b2 hb2)
      have HC : Hid (∀ n, Calls Try.prog 36 #[h1, h2] (wr.drewN n) fun e w' => e = .returned (.bool true) ∧ ∃ m, w' = (wr.drewN n).drewN m) := fun n =>
        (sameTexts h1 h2 _ _ _ _ (wr.drewN n) ((sSlice sStr).frame (w := wr) (fun _ _ => rfl) ((sSlice sStr).below K1 hb)) ((sSlice sStr).frame (w := wr) (fun _ _ => rfl) ((sSlice sStr).below K2 hb))).mono
          fun e w' ⟨a, m, c⟩ => ⟨by rw [a, decide_eq_true rfl], m, c⟩
      have c10 : wr.cell? ⟨b1, off1 + k * 4, none⟩ = some _ := elem_cell0 hE1 (by decide) rfl
      have c11 : wr.cell? ⟨b1, off1 + k * 4 + 1, none⟩ = some _ := elem_cell (j := 1) hE1 (by decide) rfl
      have c12 : wr.cell? ⟨b1, off1 + k * 4 + 2, none⟩ = some _ := elem_cell (j := 2) hE1 (by decide) rfl
      have c13 : wr.cell? ⟨b1, off1 + k * 4 + 3, none⟩ = some _ := elem_cell (j := 3) hE1 (by decide) rfl
      have c20 : wr.cell? ⟨b2, off2 + k * 4, none⟩ = some _ := elem_cell0 hE2 (by decide) rfl
      have c21 : wr.cell? ⟨b2, off2 + k * 4 + 1, none⟩ = some _ := elem_cell (j := 1) hE2 (by decide) rfl
      have c22 : wr.cell? ⟨b2, off2 + k * 4 + 2, none⟩ = some _ := elem_cell (j := 2) hE2 (by decide) rfl
      have c23 : wr.cell? ⟨b2, off2 + k * 4 + 3, none⟩ = some _ := elem_cell (j := 3) hE2 (by decide) rfl
      clear hE1 hE2 K1 K2
      have q1 : (l[k].kind != l[k].kind) = false := by simp
      have q2 := bytes_beq (rfl : l[k].text = l[k].text)
      have q3 : (l[k].spaced != l[k].spaced) = false := by simp
      go_wp2
      go_quiet (first | (go_at_call 36; refine Calls.quiet_of (HC.out _)))
      go_wp2
      go_roundw
      case rel => exact ⟨k + 1, by omega, by go_num, belowN hb _⟩
      case measure => simp [intOf]; omega
    · go_wp2
      go_ret
      exact ⟨rfl, hb⟩

end Go.Proofs.Ytipfpppcbmpjiaa

/- MacroValid of both; the laws' helpers over macros by value. -/
namespace Go.Proofs.Ytipfpppcbmpjiaa
open Go.RowKit

theorem spec_MacroValid (cs : List Value) (m : DMacro) (fp : List Nat) (w : World) (H : sMacro.R w cs m fp) : Calls Try.prog 57 #[.agg cs.toArray] w (Says (macOk m) w) := by
  obtain ⟨h2, h3, fp2, fp3, rfl, k0, K2, K3, rfl⟩ := H
  cases hf : m.function
  · have := spec_MacroValid_no m h2 h3 fp2 fp3 w k0 K2 K3 hf
    rw [hf] at this
    exact this
  · have := spec_MacroValid_yes m h2 h3 fp2 fp3 w k0 K2 K3 hf
    rw [hf] at this
    exact this

theorem mi_name {m : DMacro} (h : oneTok m.name 1 = false) : macOk m = false := by rw [mac_impl, h]; rfl
theorem mi_def {m : DMacro} (h : m.name = definedB) : macOk m = false := by rw [mac_impl, decide_eq_true h]; simp
theorem mi_no {m : DMacro} (h1 : oneTok m.name 1 = true) (h2 : m.name ≠ definedB) (hf : m.function = false) : macOk m = (decide (m.params.length = 0) && bodyOkI m.body) := by rw [mac_impl, h1, decide_eq_false h2, hf]; rfl
theorem mi_yes {m : DMacro} (h1 : oneTok m.name 1 = true) (h2 : m.name ≠ definedB) (hf : m.function = true) : macOk m = (parsOk m.params && bodyOkI m.body && signsOk m) := by rw [mac_impl, h1, decide_eq_false h2, hf]; rfl
theorem mi_big {m : DMacro} (h : bodyOkI m.body = true) : m.body.length ≤ 20 := by unfold bodyOkI at h; rw [Bool.and_eq_true, Bool.and_eq_true] at h; simpa using h.1.1

set_option maxHeartbeats 8000000 in
set_option maxRecDepth 100000 in
theorem impl_MacroValid (cs : List Value) (m : DMacro) (fp : List Nat) (w : World) (H : sMacro.R w cs m fp) : Calls Try.prog 52 #[.agg cs.toArray] w (Says (macOk m) w) := by
  obtain ⟨h2, h3, fp2, fp3, rfl, k0, K2, K3, rfl⟩ := H
  obtain ⟨a2, cap2, rfl, -⟩ := open_strs K2
  obtain ⟨a3, cap3, rfl, -⟩ := open_rows K3
  have HN := Lib.hid (fun W => impl_isOneToken m.name 1 W k0)
  have HP := Lib.hid (fun W (hW : Below w.heap.size w W) => impl_paramsValid _ _ _ W ((sSlice sStr).below K2 hW))
  have HB := Lib.hid (fun W (hW : Below w.heap.size w W) => impl_bodyValid _ _ _ W ((sSlice sTok).below K3 hW))
  have HS := Lib.hid (fun W (hl : m.body.length ≤ 1000) (hW : Below w.heap.size w W) => impl_numberSignsFit m _ _ _ _ W ((sSlice sStr).below K2 hW) ((sSlice sTok).below K3 hW) hl)
  have hb0 := alloc_below' w (.cells #[.string m.name, .bool m.function, .slice a2 m.params.length cap2, .slice a3 m.body.length cap3] 70)
  have HX := Lib.hid (heap_alloc_new w (.cells #[.string m.name, .bool m.function, .slice a2 m.params.length cap2, .slice a3 m.body.length cap3] 70))
  clear K2 K3
  cases h1 : oneTok m.name 1
  · rw [h1] at HN
    have HF := Lib.hid (mi_name h1)
    clear h1
    go_enter Try.func52, Try.ntmps52
    go_wp2_with (go_at_call 66; refine (HN.out _).mono ?_; rintro e w1 ⟨rfl, hb1⟩)
    go_ret
    exact ⟨ret_bool HF.out.symm, hb0.trans (hb1.mono hb0.size)⟩
  rw [h1] at HN
  go_enter Try.func52, Try.ntmps52
  go_wp2_with fail
  refine (HN.out _).mono ?_
  rintro e w1 ⟨rfl, hb1⟩
  have hB1 := hb0.trans (hb1.mono hb0.size)
  replace HX := Lib.hid ((hb1.block _ (Array.getElem?_eq_some_iff.1 HX.out).1).trans HX.out)
  have q0 : w1.cell? ⟨w.heap.size, 0, none⟩ = some (.string m.name) := cell_of_row _ _ 0 _ _ _ HX.out
  by_cases hd : m.name = definedB
  · have e2 := txt_t (l := [100, 101, 102, 105, 110, 101, 100]) hd
    have HF := Lib.hid (mi_def hd)
    clear h1 hd
    go_wp2
    go_ret
    exact ⟨ret_bool HF.out.symm, hB1⟩
  have e2 := txt_f (l := [100, 101, 102, 105, 110, 101, 100]) hd
  have q1 : w1.cell? ⟨w.heap.size, 1, none⟩ = some (.bool m.function) := cell_of_row _ _ 1 _ _ _ HX.out
  have q2 : w1.cell? ⟨w.heap.size, 2, none⟩ = some (.slice a2 m.params.length cap2) := cell_of_row _ _ 2 _ _ _ HX.out
  have q3 : w1.cell? ⟨w.heap.size, 3, none⟩ = some (.slice a3 m.body.length cap3) := cell_of_row _ _ 3 _ _ _ HX.out
  cases hf : m.function
  · have HM := Lib.hid (mi_no h1 hd hf)
    rw [hf] at q1
    clear h1 hd hf
    by_cases hz : m.params.length = 0
    · have hz1 : ((m.params.length : Int) == 0) = true := by rw [hz]; rfl
      rw [decide_eq_true hz, Bool.true_and] at HM
      clear hz
      go_wp2_with fail
      refine (HB.out _ hB1).mono ?_
      rintro e w2 ⟨rfl, hb2⟩
      go_wp2
      go_ret
      exact ⟨ret_bool HM.out.symm, hB1.trans (hb2.mono hB1.size)⟩
    · have hz1 : ((m.params.length : Int) == 0) = false := by simp; intro h; exact hz (by simp [h])
      rw [decide_eq_false hz, Bool.false_and] at HM
      clear hz
      go_wp2
      go_ret
      exact ⟨ret_bool HM.out.symm, hB1⟩
  · have HM := Lib.hid (mi_yes h1 hd hf)
    have HF := Lib.hid hf
    rw [hf] at q1
    clear h1 hd hf
    go_wp2_with fail
    refine (HP.out _ hB1).mono ?_
    rintro e w2 ⟨rfl, hb2⟩
    have hB2 := hB1.trans (hb2.mono hB1.size)
    cases hp : parsOk m.params
    · rw [hp, Bool.false_and, Bool.false_and] at HM
      clear hp q0 q1 q2 q3
      go_wp2
      go_ret
      exact ⟨ret_bool HM.out.symm, hB2⟩
    · rw [hp, Bool.true_and] at HM
      replace HX := Lib.hid ((hb2.block _ (Array.getElem?_eq_some_iff.1 HX.out).1).trans HX.out)
      clear hp q0 q1 q2 q3
      have q3 : w2.cell? ⟨w.heap.size, 3, none⟩ = some (.slice a3 m.body.length cap3) := cell_of_row _ _ 3 _ _ _ HX.out
      go_wp2_with fail
      refine (HB.out _ hB2).mono ?_
      rintro e w3 ⟨rfl, hb3⟩
      have hB3 := hB2.trans (hb3.mono hB2.size)
      cases hb : bodyOkI m.body
      · rw [hb, Bool.false_and] at HM
        clear hb q3
        go_wp2
        go_ret
        exact ⟨ret_bool HM.out.symm, hB3⟩
      · have hl := mi_big hb
        rw [hb, Bool.true_and] at HM
        replace HX := Lib.hid ((hb3.block _ (Array.getElem?_eq_some_iff.1 HX.out).1).trans HX.out)
        clear hb q3
        have q0 : w3.cell? ⟨w.heap.size, 0, none⟩ = some (.string m.name) := cell_of_row _ _ 0 _ _ _ HX.out
        have q1 : w3.cell? ⟨w.heap.size, 1, none⟩ = some (.bool m.function) := cell_of_row _ _ 1 _ _ _ HX.out
        have q2 : w3.cell? ⟨w.heap.size, 2, none⟩ = some (.slice a2 m.params.length cap2) := cell_of_row _ _ 2 _ _ _ HX.out
        have q3 : w3.cell? ⟨w.heap.size, 3, none⟩ = some (.slice a3 m.body.length cap3) := cell_of_row _ _ 3 _ _ _ HX.out
        have HS' := Lib.hid (fun W hW => HS.out W (by omega) hW)
        clear hl
        go_wp2_with fail
        refine (HS'.out _ hB3).mono ?_
        rintro e w4 ⟨rfl, hb4⟩
        go_wp2
        go_ret
        exact ⟨ret_bool HM.out.symm, hB3.trans (hb4.mono hB3.size)⟩

end Go.Proofs.Ytipfpppcbmpjiaa
