/- MacroValid of the model. (Made by gen_mac3.py.) -/
import Derived.Test.YtigbaeokccknaaaMac2
import Derived.Test.YtigbaeokccknaaaMac2a
namespace Go.Proofs.Ytigbaeokccknaaa
open Go.RowKit

set_option maxHeartbeats 16000000 in
set_option maxRecDepth 100000 in
theorem spec_MacroValid_no (m : DMacro) (h2 h3 : Value) (fp2 fp3 : List Nat) (w : World) (k0 : okStr m.name) (K2 : (sSlice sStr).R w [h2] m.params fp2) (K3 : (sSlice sTok).R w [h3] m.body fp3) (hf : m.function = false) :
    Calls Try.prog 11 #[.agg #[.string m.name, .bool m.function, h2, h3]] w (Says (macOk m) w) := by
  obtain ⟨a2, cap2, rfl, hc2, hm2, hcell2, hsz2⟩ := open_strs K2
  have K3' := K3
  obtain ⟨a3, cap3, rfl, hc3, hm3, hrow3⟩ := open_rows K3
  unfold maxLen at hm2 hm3
  rw [hf]
  have HN := Lib.hid (fun W => spec_l5Name m.name W k0)
  have hb0 := alloc_below' w (.cells #[.string m.name, .bool false, .slice a2 m.params.length cap2, .slice a3 m.body.length cap3] 26)
  have HX := Lib.hid (heap_alloc_new w (.cells #[.string m.name, .bool false, .slice a2 m.params.length cap2, .slice a3 m.body.length cap3] 26))
  go_enter Try.func11, Try.ntmps11
  rcases head_ways m with ⟨g1, HF⟩ | ⟨g1, g2, HF⟩ | ⟨g1, g2, g3, HF⟩ | ⟨g1, g2, g3, g4, g5, HF⟩ | ⟨g1, g2, g3, g4, g5, HF⟩ | ⟨g1, g2, g3, g4, g5, HH⟩
  · rw [g1] at HN
    clear g1
    go_wp2_with (go_at_call 38; refine (HN.out _).mono ?_; rintro e w1 ⟨rfl, hb1⟩)
    go_ret
    exact ⟨ret_bool HF.out.symm, hb0.trans (hb1.mono hb0.size)⟩
  · rw [g1] at HN
    have e2 := txt_t (l := [100, 101, 102, 105, 110, 101, 100]) g2
    clear g1 g2
    go_wp2_with (go_at_call 38; refine (HN.out _).mono ?_; rintro e w1 ⟨rfl, hb1⟩; have q0 : w1.cell? ⟨w.heap.size, 0, none⟩ = some _ := cell_of_row _ _ 0 _ _ _ ((hb1.block _ (Array.getElem?_eq_some_iff.1 HX.out).1).trans HX.out))
    go_ret
    exact ⟨ret_bool HF.out.symm, hb0.trans (hb1.mono hb0.size)⟩
  · rw [g1] at HN
    have e2 := txt_f (l := [100, 101, 102, 105, 110, 101, 100]) g2
    clear g1 g2
    go_wp2_with (go_at_call 38; refine (HN.out _).mono ?_; rintro e w1 ⟨rfl, hb1⟩; have q0 : w1.cell? ⟨w.heap.size, 0, none⟩ = some _ := cell_of_row _ _ 0 _ _ _ ((hb1.block _ (Array.getElem?_eq_some_iff.1 HX.out).1).trans HX.out); have q2 : w1.cell? ⟨w.heap.size, 2, none⟩ = some _ := cell_of_row _ _ 2 _ _ _ ((hb1.block _ (Array.getElem?_eq_some_iff.1 HX.out).1).trans HX.out))
    go_ret
    exact ⟨ret_bool HF.out.symm, hb0.trans (hb1.mono hb0.size)⟩
  · rw [g1] at HN
    have e2 := txt_f (l := [100, 101, 102, 105, 110, 101, 100]) g2
    clear g1 g2
    go_wp2_with (go_at_call 38; refine (HN.out _).mono ?_; rintro e w1 ⟨rfl, hb1⟩; have q0 : w1.cell? ⟨w.heap.size, 0, none⟩ = some _ := cell_of_row _ _ 0 _ _ _ ((hb1.block _ (Array.getElem?_eq_some_iff.1 HX.out).1).trans HX.out); have q1 : w1.cell? ⟨w.heap.size, 1, none⟩ = some _ := cell_of_row _ _ 1 _ _ _ ((hb1.block _ (Array.getElem?_eq_some_iff.1 HX.out).1).trans HX.out); have q2 : w1.cell? ⟨w.heap.size, 2, none⟩ = some _ := cell_of_row _ _ 2 _ _ _ ((hb1.block _ (Array.getElem?_eq_some_iff.1 HX.out).1).trans HX.out))
    go_ret
    exact ⟨ret_bool HF.out.symm, hb0.trans (hb1.mono hb0.size)⟩
  · rw [g1] at HN
    have e2 := txt_f (l := [100, 101, 102, 105, 110, 101, 100]) g2
    have g6 : ¬ (0 : Int) < (m.params.length : Int) := by rcases g4 with h | h; rw [hf] at h; simp at h; omega
    have g7 : ¬ 0 < m.params.length := by omega
    clear g1 g2 g4
    go_wp2_with (go_at_call 38; refine (HN.out _).mono ?_; rintro e w1 ⟨rfl, hb1⟩; have q0 : w1.cell? ⟨w.heap.size, 0, none⟩ = some _ := cell_of_row _ _ 0 _ _ _ ((hb1.block _ (Array.getElem?_eq_some_iff.1 HX.out).1).trans HX.out); have q1 : w1.cell? ⟨w.heap.size, 1, none⟩ = some _ := cell_of_row _ _ 1 _ _ _ ((hb1.block _ (Array.getElem?_eq_some_iff.1 HX.out).1).trans HX.out); have q2 : w1.cell? ⟨w.heap.size, 2, none⟩ = some _ := cell_of_row _ _ 2 _ _ _ ((hb1.block _ (Array.getElem?_eq_some_iff.1 HX.out).1).trans HX.out); have q3 : w1.cell? ⟨w.heap.size, 3, none⟩ = some _ := cell_of_row _ _ 3 _ _ _ ((hb1.block _ (Array.getElem?_eq_some_iff.1 HX.out).1).trans HX.out))
    go_ret
    exact ⟨ret_bool HF.out.symm, hb0.trans (hb1.mono hb0.size)⟩
  · rw [g1] at HN
    have e2 := txt_f (l := [100, 101, 102, 105, 110, 101, 100]) g2
    have g6 : ¬ (0 : Int) < (m.params.length : Int) := by rcases g4 with h | h; rw [hf] at h; simp at h; omega
    have g7 : ¬ 0 < m.params.length := by omega
    clear g1 g2 g4
    go_wp2_with (go_at_call 38; refine (HN.out _).mono ?_; rintro e w1 ⟨rfl, hb1⟩; have q0 : w1.cell? ⟨w.heap.size, 0, none⟩ = some _ := cell_of_row _ _ 0 _ _ _ ((hb1.block _ (Array.getElem?_eq_some_iff.1 HX.out).1).trans HX.out); have q1 : w1.cell? ⟨w.heap.size, 1, none⟩ = some _ := cell_of_row _ _ 1 _ _ _ ((hb1.block _ (Array.getElem?_eq_some_iff.1 HX.out).1).trans HX.out); have q2 : w1.cell? ⟨w.heap.size, 2, none⟩ = some _ := cell_of_row _ _ 2 _ _ _ ((hb1.block _ (Array.getElem?_eq_some_iff.1 HX.out).1).trans HX.out); have q3 : w1.cell? ⟨w.heap.size, 3, none⟩ = some _ := cell_of_row _ _ 3 _ _ _ ((hb1.block _ (Array.getElem?_eq_some_iff.1 HX.out).1).trans HX.out))
    have hB1 := hb0.trans (hb1.mono hb0.size)
    have HX1 := Lib.hid ((hb1.block _ (Array.getElem?_eq_some_iff.1 HX.out).1).trans HX.out)
    have HM := Lib.hid (fun W (hb : Below w.heap.size w W) => sMacro.below (show sMacro.R w [.string m.name, .bool false, .slice a2 m.params.length cap2, .slice a3 m.body.length cap3] m (fp2 ++ fp3) from ⟨_, _, fp2, fp3, by rw [hf], k0, K2, K3, rfl⟩) hb)
    clear q0 q1 q2 q3 HN hb0 HX hb1 K3' K2 K3
    go_loopw [3] (fun i wr => ∃ k : Nat, k ≤ m.params.length ∧ i = .int .i64 k ∧ ParUpto m.params k ∧ Below w1.heap.size w1 wr) (fun i _ => m.params.length - (intOf i).toNat)
    case atStart => exact ⟨0, by omega, rfl, ParUpto.zero _, Below.refl _ _⟩
    case round =>
      obtain ⟨k, hk, rfl, hall, hb⟩ := hrel
      have HX2 := Lib.hid ((hb.block _ (Array.getElem?_eq_some_iff.1 HX1.out).1).trans HX1.out)
      have q2 : wr.cell? ⟨w.heap.size, 2, none⟩ = some _ := cell_of_row _ _ 2 _ _ _ HX2.out
      have q3 : wr.cell? ⟨w.heap.size, 3, none⟩ = some _ := cell_of_row _ _ 3 _ _ _ HX2.out
      have hbw := hB1.trans (hb.mono hB1.size)
      by_cases hlt : k < m.params.length
      · omega
      · have HP := Lib.hid (show ParUpto m.params m.params.length from fun j hj => hall j (by omega))
        have hz : decide (k < m.params.length) = false := decide_eq_false hlt
        clear hall hk
        go_wp2
        try rw [hz]
        clear q2 q3 HX2 hbw hlt hz
        go_loopw [6] (fun i wr => ∃ k : Nat, k ≤ m.body.length ∧ i = .int .i64 k ∧ BodUpto (bodOk m) k ∧ Below w1.heap.size w1 wr) (fun i _ => m.body.length - (intOf i).toNat)
        case atStart => exact ⟨0, by omega, rfl, BodUpto.zero _, hb⟩
        case round =>
          clear hb
          obtain ⟨k, hk, rfl, hall, hb⟩ := hrel
          have HX3 := Lib.hid ((hb.block _ (Array.getElem?_eq_some_iff.1 HX1.out).1).trans HX1.out)
          have q3 : wr.cell? ⟨w.heap.size, 3, none⟩ = some _ := cell_of_row _ _ 3 _ _ _ HX3.out
          have hbw := hB1.trans (hb.mono hB1.size)
          by_cases hlt : k < m.body.length
          · obtain ⟨b1, off1, fps1, rfl, hb1', -, he1⟩ := hrow3 (by omega)
            obtain ⟨es1, hE1, hR1⟩ := he1 k hlt
            have hR1' := hR1
            obtain ⟨hh, rfl, -, -, K1⟩ := hR1
            obtain ⟨ah, caph, rfl, -⟩ := open_rows K1
            replace hE1 := hE1.frame (hbw.block b1 hb1')
            have c10 : wr.cell? ⟨b1, off1 + k * 4, none⟩ = some _ := elem_cell0 hE1 (by decide) rfl
            have c11 : wr.cell? ⟨b1, off1 + k * 4 + 1, none⟩ = some _ := elem_cell (j := 1) hE1 (by decide) rfl
            have c12 : wr.cell? ⟨b1, off1 + k * 4 + 2, none⟩ = some _ := elem_cell (j := 2) hE1 (by decide) rfl
            have c13 : wr.cell? ⟨b1, off1 + k * 4 + 3, none⟩ = some _ := elem_cell (j := 3) hE1 (by decide) rfl
            have hbx : Below wr.heap.size wr (wr.alloc (.cells #[.int .i64 m.body[k].kind, .string m.body[k].text, .bool m.body[k].spaced, .slice ah m.body[k].hidden.length caph] 60)) := alloc_below' _ _
            have HT := Lib.hid (heap_alloc_new wr (.cells #[.int .i64 m.body[k].kind, .string m.body[k].text, .bool m.body[k].spaced, .slice ah m.body[k].hidden.length caph] 60))
            have HV := Lib.hid (fun W (hW : Below (wr.alloc (.cells #[.int .i64 m.body[k].kind, .string m.body[k].text, .bool m.body[k].spaced, .slice ah m.body[k].hidden.length caph] 60)).heap.size (wr.alloc (.cells #[.int .i64 m.body[k].kind, .string m.body[k].text, .bool m.body[k].spaced, .slice ah m.body[k].hidden.length caph] 60)) W) => spec_TokenValid _ _ _ W (sTok.below (sTok.below (sTok.below hR1' hbw) hbx) hW))
            clear K1 hR1' hE1
            go_wp2_with fail
            refine (HV.out _ (Below.refl _ _)).mono ?_
            rintro e w2 ⟨rfl, hb2⟩
            have HT2 := Lib.hid ((hb2.block _ (Array.getElem?_eq_some_iff.1 HT.out).1).trans HT.out)
            have hb02 := hbx.trans (hb2.mono hbx.size)
            have hbq := hb.trans (hb02.mono hb.size)
            have hbw2 := hB1.trans (hbq.mono hB1.size)
            have HX4 := Lib.hid ((hb02.block _ (Array.getElem?_eq_some_iff.1 HX3.out).1).trans HX3.out)
            have p1 : w2.cell? ⟨wr.heap.size, 1, none⟩ = some _ := cell_of_row _ _ 1 _ _ _ HT2.out
            have p2 : w2.cell? ⟨wr.heap.size, 2, none⟩ = some _ := cell_of_row _ _ 2 _ _ _ HT2.out
            have p3 : w2.cell? ⟨wr.heap.size, 3, none⟩ = some _ := cell_of_row _ _ 3 _ _ _ HT2.out
            clear q3 c10 c11 c12 c13 HV HT hb2 HX3 hbx hb02 hbw hb
            have q0 : w2.cell? ⟨w.heap.size, 0, none⟩ = some _ := cell_of_row _ _ 0 _ _ _ HX4.out
            have q1 : w2.cell? ⟨w.heap.size, 1, none⟩ = some _ := cell_of_row _ _ 1 _ _ _ HX4.out
            have q2 : w2.cell? ⟨w.heap.size, 2, none⟩ = some _ := cell_of_row _ _ 2 _ _ _ HX4.out
            have q3 : w2.cell? ⟨w.heap.size, 3, none⟩ = some _ := cell_of_row _ _ 3 _ _ _ HX4.out
            cases hv : tokOk m.body[k]
            · have HF := Lib.hid (macOk_bod hlt (by rw [bodOk_split _ _ hlt, hv]; rfl))
              clear hv hall
              go_wp2
              go_ret
              exact ⟨ret_bool HF.out.symm, hbw2⟩
            have HS := Lib.hid (bodOk_split m k hlt)
            rw [hv] at HS
            clear hv
            have g00 : ((k : Int) == 0) = decide (k = 0) := by rw [Bool.eq_iff_iff]; simp
            have g01 : ((k : Int) == (m.body.length : Int) - 1) = decide (k + 1 = m.body.length) := by rw [Bool.eq_iff_iff]; simp; omega
            rcases bodI_ways hlt with ⟨e1, HI⟩ | ⟨e1, e2, e3, HI⟩ | ⟨e1, e2, e3, e4, HI⟩ | ⟨e1, e2, e3, e4, HI⟩ | ⟨e1, e2, e4, e5, HI⟩ | ⟨e1, e2, e4, e5, e6, HI⟩ | ⟨e1, e2, e4, e5, e6, HI⟩ | ⟨e1, e2, e4, HI⟩
            · have HF := Lib.hid (macOk_bod hlt (by rw [HS.out, HI.out]; simp))
              have f0 : (0 : Int) < (m.body[k].hidden.length : Int) := by omega
              have f01 : 0 < m.body[k].hidden.length := by omega
              have f02 : decide ((0 : Int) < (m.body[k].hidden.length : Int)) = true := decide_eq_true f0
              clear e1 hall
              go_wp2
              go_ret
              exact ⟨ret_bool HF.out.symm, hbw2⟩
            · have HF := Lib.hid (macOk_bod hlt (by rw [HS.out, HI.out]; simp))
              have f0 : ¬ (0 : Int) < (m.body[k].hidden.length : Int) := by omega
              have f01 : ¬ 0 < m.body[k].hidden.length := by omega
              rw [decide_eq_true e2] at g00
              rw [e3] at p2
              clear e2 e3
              clear e1 hall
              go_wp2
              go_ret
              exact ⟨ret_bool HF.out.symm, hbw2⟩
            · have HF := Lib.hid (macOk_bod hlt (by rw [HS.out, HI.out]; simp))
              have f0 : ¬ (0 : Int) < (m.body[k].hidden.length : Int) := by omega
              have f01 : ¬ 0 < m.body[k].hidden.length := by omega
              rw [decide_eq_true e2] at g00
              rw [e3] at p2
              have f4 := txt_t (l := [35, 35]) e4
              have E4 := Lib.hid e4
              clear e4
              clear e2 e3
              clear e1 hall
              go_wp2
              go_ret
              exact ⟨ret_bool HF.out.symm, hbw2⟩
            · have f0 : ¬ (0 : Int) < (m.body[k].hidden.length : Int) := by omega
              have f01 : ¬ 0 < m.body[k].hidden.length := by omega
              rw [decide_eq_true e2] at g00
              rw [e3] at p2
              have f4 := txt_f (l := [35, 35]) e4
              have E4 := Lib.hid e4
              clear e4
              clear e1 e2 e3
              have HN := Lib.hid (hall.succ (by rw [HS.out, HI.out, hf]; rfl))
              clear hall
              go_wp2
              go_quiet (fail)
              go_wp2
              go_roundw
              case rel => first | exact ⟨k + 1, by omega, by go_num, HN.out, belowN hbq _⟩ | ((repeat apply Exists.intro); exact ⟨⟨k + 1, by omega, by go_num, HN.out, belowN hbq _⟩, rfl⟩)
              case measure => simp [intOf]; omega
            · have HF := Lib.hid (macOk_bod hlt (by rw [HS.out, HI.out]; simp))
              have f0 : ¬ (0 : Int) < (m.body[k].hidden.length : Int) := by omega
              have f01 : ¬ 0 < m.body[k].hidden.length := by omega
              rw [decide_eq_false e2] at g00
              have f4 := txt_t (l := [35, 35]) e4
              have E4 := Lib.hid e4
              clear e4
              rw [decide_eq_true e5] at g01
              clear e2 e5
              clear e1 hall
              go_wp2
              go_ret
              exact ⟨ret_bool HF.out.symm, hbw2⟩
            · have HF := Lib.hid (macOk_bod hlt (by rw [HS.out, HI.out]; simp))
              have f0 : ¬ (0 : Int) < (m.body[k].hidden.length : Int) := by omega
              have f01 : ¬ 0 < m.body[k].hidden.length := by omega
              rw [decide_eq_false e2] at g00
              have f4 := txt_t (l := [35, 35]) e4
              have E4 := Lib.hid e4
              clear e4
              rw [decide_eq_false e5] at g01
              obtain ⟨es2, hE2, hR2⟩ := he1 (k - 1) (by omega)
              obtain ⟨h9, rfl, -, -, -⟩ := hR2
              replace hE2 := hE2.frame (hbw2.block b1 hb1')
              have c21 : w2.cell? ⟨b1, off1 + (k - 1) * 4 + 1, none⟩ = some _ := elem_cell (j := 1) hE2 (by decide) rfl
              have h6 : ((k : Int) - 1).toNat = k - 1 := by omega
              have hwl : IntKind.i64.wrap ((k : Int) - 1) = (k : Int) - 1 := IntWalk.i64_in _ (by omega)
              have hi1 : (0 : Int) ≤ (k : Int) - 1 := by omega
              have hi2 : (k : Int) - 1 < (m.body.length : Int) := by omega
              clear hE2
              have f6 := txt_t (l := [35, 35]) e6
              clear e2 e5 e6
              clear e1 hall
              go_wp2
              go_ret
              exact ⟨ret_bool HF.out.symm, hbw2⟩
            · have f0 : ¬ (0 : Int) < (m.body[k].hidden.length : Int) := by omega
              have f01 : ¬ 0 < m.body[k].hidden.length := by omega
              rw [decide_eq_false e2] at g00
              have f4 := txt_t (l := [35, 35]) e4
              have E4 := Lib.hid e4
              clear e4
              rw [decide_eq_false e5] at g01
              obtain ⟨es2, hE2, hR2⟩ := he1 (k - 1) (by omega)
              obtain ⟨h9, rfl, -, -, -⟩ := hR2
              replace hE2 := hE2.frame (hbw2.block b1 hb1')
              have c21 : w2.cell? ⟨b1, off1 + (k - 1) * 4 + 1, none⟩ = some _ := elem_cell (j := 1) hE2 (by decide) rfl
              have h6 : ((k : Int) - 1).toNat = k - 1 := by omega
              have hwl : IntKind.i64.wrap ((k : Int) - 1) = (k : Int) - 1 := IntWalk.i64_in _ (by omega)
              have hi1 : (0 : Int) ≤ (k : Int) - 1 := by omega
              have hi2 : (k : Int) - 1 < (m.body.length : Int) := by omega
              clear hE2
              have f6 := txt_f (l := [35, 35]) e6
              clear e1 e2 e5 e6
              have HN := Lib.hid (hall.succ (by rw [HS.out, HI.out, hf]; rfl))
              clear hall
              go_wp2
              go_quiet (fail)
              go_wp2
              go_roundw
              case rel => first | exact ⟨k + 1, by omega, by go_num, HN.out, belowN hbq _⟩ | ((repeat apply Exists.intro); exact ⟨⟨k + 1, by omega, by go_num, HN.out, belowN hbq _⟩, rfl⟩)
              case measure => simp [intOf]; omega
            · have f0 : ¬ (0 : Int) < (m.body[k].hidden.length : Int) := by omega
              have f01 : ¬ 0 < m.body[k].hidden.length := by omega
              rw [decide_eq_false e2] at g00
              have f4 := txt_f (l := [35, 35]) e4
              have E4 := Lib.hid e4
              clear e4
              clear e1 e2
              have HN := Lib.hid (hall.succ (by rw [HS.out, HI.out, hf]; rfl))
              clear hall
              go_wp2
              go_quiet (fail)
              go_wp2
              go_roundw
              case rel => first | exact ⟨k + 1, by omega, by go_num, HN.out, belowN hbq _⟩ | ((repeat apply Exists.intro); exact ⟨⟨k + 1, by omega, by go_num, HN.out, belowN hbq _⟩, rfl⟩)
              case measure => simp [intOf]; omega
          · have HF := Lib.hid (macOk_yes HH.out HP.out (fun j hj => hall j (by omega)))
            clear hall
            go_wp2
            go_ret
            exact ⟨ret_bool HF.out.symm, hbw⟩

set_option maxHeartbeats 16000000 in
set_option maxRecDepth 100000 in
theorem spec_MacroValid_yes (m : DMacro) (h2 h3 : Value) (fp2 fp3 : List Nat) (w : World) (k0 : okStr m.name) (K2 : (sSlice sStr).R w [h2] m.params fp2) (K3 : (sSlice sTok).R w [h3] m.body fp3) (hf : m.function = true) :
    Calls Try.prog 11 #[.agg #[.string m.name, .bool m.function, h2, h3]] w (Says (macOk m) w) := by
  obtain ⟨a2, cap2, rfl, hc2, hm2, hcell2, hsz2⟩ := open_strs K2
  have K3' := K3
  obtain ⟨a3, cap3, rfl, hc3, hm3, hrow3⟩ := open_rows K3
  unfold maxLen at hm2 hm3
  rw [hf]
  have HN := Lib.hid (fun W => spec_l5Name m.name W k0)
  have hb0 := alloc_below' w (.cells #[.string m.name, .bool true, .slice a2 m.params.length cap2, .slice a3 m.body.length cap3] 26)
  have HX := Lib.hid (heap_alloc_new w (.cells #[.string m.name, .bool true, .slice a2 m.params.length cap2, .slice a3 m.body.length cap3] 26))
  go_enter Try.func11, Try.ntmps11
  rcases head_ways m with ⟨g1, HF⟩ | ⟨g1, g2, HF⟩ | ⟨g1, g2, g3, HF⟩ | ⟨g1, g2, g3, g4, g5, HF⟩ | ⟨g1, g2, g3, g4, g5, HF⟩ | ⟨g1, g2, g3, g4, g5, HH⟩
  · rw [g1] at HN
    clear g1
    go_wp2_with (go_at_call 38; refine (HN.out _).mono ?_; rintro e w1 ⟨rfl, hb1⟩)
    go_ret
    exact ⟨ret_bool HF.out.symm, hb0.trans (hb1.mono hb0.size)⟩
  · rw [g1] at HN
    have e2 := txt_t (l := [100, 101, 102, 105, 110, 101, 100]) g2
    clear g1 g2
    go_wp2_with (go_at_call 38; refine (HN.out _).mono ?_; rintro e w1 ⟨rfl, hb1⟩; have q0 : w1.cell? ⟨w.heap.size, 0, none⟩ = some _ := cell_of_row _ _ 0 _ _ _ ((hb1.block _ (Array.getElem?_eq_some_iff.1 HX.out).1).trans HX.out))
    go_ret
    exact ⟨ret_bool HF.out.symm, hb0.trans (hb1.mono hb0.size)⟩
  · rw [g1] at HN
    have e2 := txt_f (l := [100, 101, 102, 105, 110, 101, 100]) g2
    clear g1 g2
    go_wp2_with (go_at_call 38; refine (HN.out _).mono ?_; rintro e w1 ⟨rfl, hb1⟩; have q0 : w1.cell? ⟨w.heap.size, 0, none⟩ = some _ := cell_of_row _ _ 0 _ _ _ ((hb1.block _ (Array.getElem?_eq_some_iff.1 HX.out).1).trans HX.out); have q2 : w1.cell? ⟨w.heap.size, 2, none⟩ = some _ := cell_of_row _ _ 2 _ _ _ ((hb1.block _ (Array.getElem?_eq_some_iff.1 HX.out).1).trans HX.out))
    go_ret
    exact ⟨ret_bool HF.out.symm, hb0.trans (hb1.mono hb0.size)⟩
  · rw [hf] at g4; exact absurd g4 (by simp)
  · rw [g1] at HN
    have e2 := txt_f (l := [100, 101, 102, 105, 110, 101, 100]) g2
    clear g1 g2 g4
    go_wp2_with (go_at_call 38; refine (HN.out _).mono ?_; rintro e w1 ⟨rfl, hb1⟩; have q0 : w1.cell? ⟨w.heap.size, 0, none⟩ = some _ := cell_of_row _ _ 0 _ _ _ ((hb1.block _ (Array.getElem?_eq_some_iff.1 HX.out).1).trans HX.out); have q1 : w1.cell? ⟨w.heap.size, 1, none⟩ = some _ := cell_of_row _ _ 1 _ _ _ ((hb1.block _ (Array.getElem?_eq_some_iff.1 HX.out).1).trans HX.out); have q2 : w1.cell? ⟨w.heap.size, 2, none⟩ = some _ := cell_of_row _ _ 2 _ _ _ ((hb1.block _ (Array.getElem?_eq_some_iff.1 HX.out).1).trans HX.out); have q3 : w1.cell? ⟨w.heap.size, 3, none⟩ = some _ := cell_of_row _ _ 3 _ _ _ ((hb1.block _ (Array.getElem?_eq_some_iff.1 HX.out).1).trans HX.out))
    go_ret
    exact ⟨ret_bool HF.out.symm, hb0.trans (hb1.mono hb0.size)⟩
  · rw [g1] at HN
    have e2 := txt_f (l := [100, 101, 102, 105, 110, 101, 100]) g2
    clear g1 g2 g4
    go_wp2_with (go_at_call 38; refine (HN.out _).mono ?_; rintro e w1 ⟨rfl, hb1⟩; have q0 : w1.cell? ⟨w.heap.size, 0, none⟩ = some _ := cell_of_row _ _ 0 _ _ _ ((hb1.block _ (Array.getElem?_eq_some_iff.1 HX.out).1).trans HX.out); have q1 : w1.cell? ⟨w.heap.size, 1, none⟩ = some _ := cell_of_row _ _ 1 _ _ _ ((hb1.block _ (Array.getElem?_eq_some_iff.1 HX.out).1).trans HX.out); have q2 : w1.cell? ⟨w.heap.size, 2, none⟩ = some _ := cell_of_row _ _ 2 _ _ _ ((hb1.block _ (Array.getElem?_eq_some_iff.1 HX.out).1).trans HX.out); have q3 : w1.cell? ⟨w.heap.size, 3, none⟩ = some _ := cell_of_row _ _ 3 _ _ _ ((hb1.block _ (Array.getElem?_eq_some_iff.1 HX.out).1).trans HX.out))
    have hB1 := hb0.trans (hb1.mono hb0.size)
    have HX1 := Lib.hid ((hb1.block _ (Array.getElem?_eq_some_iff.1 HX.out).1).trans HX.out)
    have HM := Lib.hid (fun W (hb : Below w.heap.size w W) => sMacro.below (show sMacro.R w [.string m.name, .bool true, .slice a2 m.params.length cap2, .slice a3 m.body.length cap3] m (fp2 ++ fp3) from ⟨_, _, fp2, fp3, by rw [hf], k0, K2, K3, rfl⟩) hb)
    clear q0 q1 q2 q3 HN hb0 HX hb1 K3' K2 K3
    go_loopw [3] (fun i wr => ∃ k : Nat, k ≤ m.params.length ∧ i = .int .i64 k ∧ ParUpto m.params k ∧ Below w1.heap.size w1 wr) (fun i _ => m.params.length - (intOf i).toNat)
    case atStart => exact ⟨0, by omega, rfl, ParUpto.zero _, Below.refl _ _⟩
    case round =>
      obtain ⟨k, hk, rfl, hall, hb⟩ := hrel
      have HX2 := Lib.hid ((hb.block _ (Array.getElem?_eq_some_iff.1 HX1.out).1).trans HX1.out)
      have q2 : wr.cell? ⟨w.heap.size, 2, none⟩ = some _ := cell_of_row _ _ 2 _ _ _ HX2.out
      have q3 : wr.cell? ⟨w.heap.size, 3, none⟩ = some _ := cell_of_row _ _ 3 _ _ _ HX2.out
      have hbw := hB1.trans (hb.mono hB1.size)
      by_cases hlt : k < m.params.length
      · obtain ⟨b, off, rfl, hbl, _, hce⟩ := hcell2 (by omega)
        have hck := (hbw.cell (p := ⟨b, off + k, none⟩) hbl).trans (hce k hlt)
        have HN := Lib.hid (fun W => spec_l5Name m.params[k] W (hsz2 k hlt))
        cases h1 : oneTok m.params[k] 1
        · rw [h1] at HN
          have HF := Lib.hid (macOk_par hlt (par_name hlt h1))
          clear h1 hce hall
          go_wp2_with (go_at_call 38; refine (HN.out _).mono ?_; rintro e w2 ⟨rfl, hb2⟩)
          go_ret
          exact ⟨ret_bool HF.out.symm, hbw.trans (hb2.mono hbw.size)⟩
        · rw [h1] at HN
          have H1 := Lib.hid h1
          clear h1
          go_wp2_with (go_at_call 38; refine (HN.out _).mono ?_; rintro e w2 ⟨rfl, hb2⟩)
          have HX3 := Lib.hid ((hb2.block _ (Array.getElem?_eq_some_iff.1 HX2.out).1).trans HX2.out)
          have hb12 := hb.trans (hb2.mono hb.size)
          clear q2 q3 hck HX2
          go_loopw [4] (fun i wr => ∃ j : Nat, j ≤ k ∧ i = .int .i64 j ∧ NotUpto m.params m.params[k] j ∧ Below w2.heap.size w2 wr) (fun i _ => k - (intOf i).toNat)
          case atStart => exact ⟨0, by omega, rfl, NotUpto.zero _ _, Below.refl _ _⟩
          case round =>
            obtain ⟨j, hj, rfl, hnot, hb3⟩ := hrel
            have HX4 := Lib.hid ((hb3.block _ (Array.getElem?_eq_some_iff.1 HX3.out).1).trans HX3.out)
            have hb13 := hb12.trans (hb3.mono hb12.size)
            have hbw3 := hB1.trans (hb13.mono hB1.size)
            have q2 : wr.cell? ⟨w.heap.size, 2, none⟩ = some _ := cell_of_row _ _ 2 _ _ _ HX4.out
            by_cases hjk : j < k
            · have hcj := (hbw3.cell (p := ⟨b, off + j, none⟩) hbl).trans (hce j (by omega))
              have hck := (hbw3.cell (p := ⟨b, off + k, none⟩) hbl).trans (hce k hlt)
              by_cases e : m.params[j] = m.params[k]
              · have e' := bytes_beq e
                have HF := Lib.hid (macOk_par hlt (par_twice hlt hjk e))
                clear e hce hall hnot
                go_wp2
                go_quiet (fail)
                go_wp2
                go_ret
                exact ⟨ret_bool HF.out.symm, belowN hbw3 _⟩
              · have e' : (m.params[j].toList == m.params[k].toList) = false := bytes_bne e
                have HG := Lib.hid (hnot.succ (by omega) e)
                clear e hce hall hnot
                go_wp2
                go_quiet (fail)
                go_wp2
                go_roundw
                case rel => exact ⟨j + 1, by omega, by go_num, HG.out, belowN hb3 _⟩
                case measure => simp [intOf]; omega
            · have hjk' : j = k := by omega
              subst hjk'
              have HG := Lib.hid (hall.succ (par_yes hlt H1.out hnot))
              clear hce hall hnot
              go_wp2
              go_roundw
              case rel => exact ⟨j + 1, by omega, by go_num, HG.out, hb13⟩
              case measure => simp [intOf]; omega
      · have HP := Lib.hid (show ParUpto m.params m.params.length from fun j hj => hall j (by omega))
        have hz : decide (k < m.params.length) = false := decide_eq_false hlt
        clear hall hk
        go_wp2
        try rw [hz]
        clear q2 q3 HX2 hbw hlt hz
        go_loopw [6] (fun i wr => ∃ k : Nat, k ≤ m.body.length ∧ i = .int .i64 k ∧ BodUpto (bodOk m) k ∧ Below w1.heap.size w1 wr) (fun i _ => m.body.length - (intOf i).toNat)
        case atStart => exact ⟨0, by omega, rfl, BodUpto.zero _, hb⟩
        case round =>
          clear hb
          obtain ⟨k, hk, rfl, hall, hb⟩ := hrel
          have HX3 := Lib.hid ((hb.block _ (Array.getElem?_eq_some_iff.1 HX1.out).1).trans HX1.out)
          have q3 : wr.cell? ⟨w.heap.size, 3, none⟩ = some _ := cell_of_row _ _ 3 _ _ _ HX3.out
          have hbw := hB1.trans (hb.mono hB1.size)
          by_cases hlt : k < m.body.length
          · obtain ⟨b1, off1, fps1, rfl, hb1', -, he1⟩ := hrow3 (by omega)
            obtain ⟨es1, hE1, hR1⟩ := he1 k hlt
            have hR1' := hR1
            obtain ⟨hh, rfl, -, -, K1⟩ := hR1
            obtain ⟨ah, caph, rfl, -⟩ := open_rows K1
            replace hE1 := hE1.frame (hbw.block b1 hb1')
            have c10 : wr.cell? ⟨b1, off1 + k * 4, none⟩ = some _ := elem_cell0 hE1 (by decide) rfl
            have c11 : wr.cell? ⟨b1, off1 + k * 4 + 1, none⟩ = some _ := elem_cell (j := 1) hE1 (by decide) rfl
            have c12 : wr.cell? ⟨b1, off1 + k * 4 + 2, none⟩ = some _ := elem_cell (j := 2) hE1 (by decide) rfl
            have c13 : wr.cell? ⟨b1, off1 + k * 4 + 3, none⟩ = some _ := elem_cell (j := 3) hE1 (by decide) rfl
            have hbx : Below wr.heap.size wr (wr.alloc (.cells #[.int .i64 m.body[k].kind, .string m.body[k].text, .bool m.body[k].spaced, .slice ah m.body[k].hidden.length caph] 60)) := alloc_below' _ _
            have HT := Lib.hid (heap_alloc_new wr (.cells #[.int .i64 m.body[k].kind, .string m.body[k].text, .bool m.body[k].spaced, .slice ah m.body[k].hidden.length caph] 60))
            have HV := Lib.hid (fun W (hW : Below (wr.alloc (.cells #[.int .i64 m.body[k].kind, .string m.body[k].text, .bool m.body[k].spaced, .slice ah m.body[k].hidden.length caph] 60)).heap.size (wr.alloc (.cells #[.int .i64 m.body[k].kind, .string m.body[k].text, .bool m.body[k].spaced, .slice ah m.body[k].hidden.length caph] 60)) W) => spec_TokenValid _ _ _ W (sTok.below (sTok.below (sTok.below hR1' hbw) hbx) hW))
            clear K1 hR1' hE1
            go_wp2_with fail
            refine (HV.out _ (Below.refl _ _)).mono ?_
            rintro e w2 ⟨rfl, hb2⟩
            have HT2 := Lib.hid ((hb2.block _ (Array.getElem?_eq_some_iff.1 HT.out).1).trans HT.out)
            have hb02 := hbx.trans (hb2.mono hbx.size)
            have hbq := hb.trans (hb02.mono hb.size)
            have hbw2 := hB1.trans (hbq.mono hB1.size)
            have HX4 := Lib.hid ((hb02.block _ (Array.getElem?_eq_some_iff.1 HX3.out).1).trans HX3.out)
            have p1 : w2.cell? ⟨wr.heap.size, 1, none⟩ = some _ := cell_of_row _ _ 1 _ _ _ HT2.out
            have p2 : w2.cell? ⟨wr.heap.size, 2, none⟩ = some _ := cell_of_row _ _ 2 _ _ _ HT2.out
            have p3 : w2.cell? ⟨wr.heap.size, 3, none⟩ = some _ := cell_of_row _ _ 3 _ _ _ HT2.out
            clear q3 c10 c11 c12 c13 HV HT hb2 HX3 hbx hb02 hbw hb
            have q0 : w2.cell? ⟨w.heap.size, 0, none⟩ = some _ := cell_of_row _ _ 0 _ _ _ HX4.out
            have q1 : w2.cell? ⟨w.heap.size, 1, none⟩ = some _ := cell_of_row _ _ 1 _ _ _ HX4.out
            have q2 : w2.cell? ⟨w.heap.size, 2, none⟩ = some _ := cell_of_row _ _ 2 _ _ _ HX4.out
            have q3 : w2.cell? ⟨w.heap.size, 3, none⟩ = some _ := cell_of_row _ _ 3 _ _ _ HX4.out
            cases hv : tokOk m.body[k]
            · have HF := Lib.hid (macOk_bod hlt (by rw [bodOk_split _ _ hlt, hv]; rfl))
              clear hv hall
              go_wp2
              go_ret
              exact ⟨ret_bool HF.out.symm, hbw2⟩
            have HS := Lib.hid (bodOk_split m k hlt)
            rw [hv] at HS
            clear hv
            have g00 : ((k : Int) == 0) = decide (k = 0) := by rw [Bool.eq_iff_iff]; simp
            have g01 : ((k : Int) == (m.body.length : Int) - 1) = decide (k + 1 = m.body.length) := by rw [Bool.eq_iff_iff]; simp; omega
            rcases bodI_ways hlt with ⟨e1, HI⟩ | ⟨e1, e2, e3, HI⟩ | ⟨e1, e2, e3, e4, HI⟩ | ⟨e1, e2, e3, e4, HI⟩ | ⟨e1, e2, e4, e5, HI⟩ | ⟨e1, e2, e4, e5, e6, HI⟩ | ⟨e1, e2, e4, e5, e6, HI⟩ | ⟨e1, e2, e4, HI⟩
            · have HF := Lib.hid (macOk_bod hlt (by rw [HS.out, HI.out]; simp))
              have f0 : (0 : Int) < (m.body[k].hidden.length : Int) := by omega
              have f01 : 0 < m.body[k].hidden.length := by omega
              have f02 : decide ((0 : Int) < (m.body[k].hidden.length : Int)) = true := decide_eq_true f0
              clear e1 hall
              go_wp2
              go_ret
              exact ⟨ret_bool HF.out.symm, hbw2⟩
            · have HF := Lib.hid (macOk_bod hlt (by rw [HS.out, HI.out]; simp))
              have f0 : ¬ (0 : Int) < (m.body[k].hidden.length : Int) := by omega
              have f01 : ¬ 0 < m.body[k].hidden.length := by omega
              rw [decide_eq_true e2] at g00
              rw [e3] at p2
              clear e2 e3
              clear e1 hall
              go_wp2
              go_ret
              exact ⟨ret_bool HF.out.symm, hbw2⟩
            · have HF := Lib.hid (macOk_bod hlt (by rw [HS.out, HI.out]; simp))
              have f0 : ¬ (0 : Int) < (m.body[k].hidden.length : Int) := by omega
              have f01 : ¬ 0 < m.body[k].hidden.length := by omega
              rw [decide_eq_true e2] at g00
              rw [e3] at p2
              have f4 := txt_t (l := [35, 35]) e4
              have E4 := Lib.hid e4
              clear e4
              clear e2 e3
              clear e1 hall
              go_wp2
              go_ret
              exact ⟨ret_bool HF.out.symm, hbw2⟩
            · have f0 : ¬ (0 : Int) < (m.body[k].hidden.length : Int) := by omega
              have f01 : ¬ 0 < m.body[k].hidden.length := by omega
              rw [decide_eq_true e2] at g00
              rw [e3] at p2
              have f4 := txt_f (l := [35, 35]) e4
              have E4 := Lib.hid e4
              clear e4
              clear e1 e2 e3
              by_cases e7 : m.body[k].text = hash1
              · have f7 := txt_t (l := [35]) e7
                have E7 := Lib.hid e7
                clear e7
                by_cases e8 : k + 1 = m.body.length
                · have HF := Lib.hid (macOk_bod hlt (by rw [HS.out, HI.out, hf, signS_last hlt E7.out e8]; rfl))
                  rw [decide_eq_true e8] at g01
                  clear e8 hall
                  go_wp2
                  go_quiet (fail)
                  go_wp2
                  go_ret
                  exact ⟨ret_bool HF.out.symm, belowN hbw2 _⟩
                · have hk1 : k + 1 < m.body.length := by omega
                  obtain ⟨es3, hE3, hR3⟩ := he1 (k + 1) hk1
                  have hR3' := hR3
                  obtain ⟨h9, rfl, -, -, -⟩ := hR3
                  replace hE3 := hE3.frame (hbw2.block b1 hb1')
                  have c30 : w2.cell? ⟨b1, off1 + (k + 1) * 4, none⟩ = some _ := elem_cell0 hE3 (by decide) rfl
                  have c31 : w2.cell? ⟨b1, off1 + (k + 1) * 4 + 1, none⟩ = some _ := elem_cell (j := 1) hE3 (by decide) rfl
                  have c32 : w2.cell? ⟨b1, off1 + (k + 1) * 4 + 2, none⟩ = some _ := elem_cell (j := 2) hE3 (by decide) rfl
                  have c33 : w2.cell? ⟨b1, off1 + (k + 1) * 4 + 3, none⟩ = some _ := elem_cell (j := 3) hE3 (by decide) rfl
                  have HC := Lib.hid (fun W (hW : Below w2.heap.size w2 W) => spec_l5Param _ _ m m.body[k + 1] _ _ W (HM.out W (hbw2.trans (hW.mono hbw2.size))) (sTok.below (sTok.below hR3' hbw2) hW))
                  have h6 : ((k : Int) + 1).toNat = k + 1 := by omega
                  have hwl : IntKind.i64.wrap ((k : Int) + 1) = (k : Int) + 1 := IntWalk.i64_in _ (by omega)
                  have hi1 : (0 : Int) ≤ (k : Int) + 1 := by omega
                  have hi2 : (k : Int) + 1 < (m.body.length : Int) := by omega
                  rw [decide_eq_false e8] at g01
                  clear hE3 hR3' e8 he1 hrow3
                  go_wp2
                  go_still_tail 19, (by kernel_rfl)
                  change wpList _ _ _ _ _ w2.drew
                  have hd : Below w2.heap.size w2 w2.drew := belowN (Below.refl _ _) 1
                  generalize w2.drew = w3 at *
                  by_cases e9 : parOf m.params m.body[k + 1] < 0
                  · have HF := Lib.hid (macOk_bod hlt (by rw [HS.out, HI.out, hf, signS_no hk1 E7.out e9]; rfl))
                    clear hall
                    go_wp2_with (go_at_call 40; refine (HC.out _ hd).mono ?_; rintro e w4 ⟨rfl, hb4⟩)
                    go_ret
                    exact ⟨ret_bool HF.out.symm, (hbw2.trans (hd.mono hbw2.size)).trans (hb4.mono (Nat.le_trans hbw2.size hd.size))⟩
                  · have HN := Lib.hid (hall.succ (by rw [HS.out, HI.out, hf, signS_yes hk1 E7.out e9]; rfl))
                    clear hall
                    go_wp2_with (go_at_call 40; refine (HC.out _ hd).mono ?_; rintro e w4 ⟨rfl, hb4⟩)
                    go_roundw
                    case rel => first | exact ⟨k + 1, by omega, by go_num, HN.out, (hbq.trans (hd.mono hbq.size)).trans (hb4.mono (Nat.le_trans hbq.size hd.size))⟩ | ((repeat apply Exists.intro); exact ⟨⟨k + 1, by omega, by go_num, HN.out, (hbq.trans (hd.mono hbq.size)).trans (hb4.mono (Nat.le_trans hbq.size hd.size))⟩, rfl⟩)
                    case measure => simp [intOf]; omega
              · have f7 := txt_f (l := [35]) e7
                have HN := Lib.hid (hall.succ (by rw [HS.out, HI.out, hf, signS_other hlt e7]; rfl))
                clear e7 hall
                go_wp2
                go_quiet (fail)
                go_wp2
                go_roundw
                case rel => first | exact ⟨k + 1, by omega, by go_num, HN.out, belowN hbq _⟩ | ((repeat apply Exists.intro); exact ⟨⟨k + 1, by omega, by go_num, HN.out, belowN hbq _⟩, rfl⟩)
                case measure => simp [intOf]; omega
            · have HF := Lib.hid (macOk_bod hlt (by rw [HS.out, HI.out]; simp))
              have f0 : ¬ (0 : Int) < (m.body[k].hidden.length : Int) := by omega
              have f01 : ¬ 0 < m.body[k].hidden.length := by omega
              rw [decide_eq_false e2] at g00
              have f4 := txt_t (l := [35, 35]) e4
              have E4 := Lib.hid e4
              clear e4
              rw [decide_eq_true e5] at g01
              clear e2 e5
              clear e1 hall
              go_wp2
              go_ret
              exact ⟨ret_bool HF.out.symm, hbw2⟩
            · have HF := Lib.hid (macOk_bod hlt (by rw [HS.out, HI.out]; simp))
              have f0 : ¬ (0 : Int) < (m.body[k].hidden.length : Int) := by omega
              have f01 : ¬ 0 < m.body[k].hidden.length := by omega
              rw [decide_eq_false e2] at g00
              have f4 := txt_t (l := [35, 35]) e4
              have E4 := Lib.hid e4
              clear e4
              rw [decide_eq_false e5] at g01
              obtain ⟨es2, hE2, hR2⟩ := he1 (k - 1) (by omega)
              obtain ⟨h9, rfl, -, -, -⟩ := hR2
              replace hE2 := hE2.frame (hbw2.block b1 hb1')
              have c21 : w2.cell? ⟨b1, off1 + (k - 1) * 4 + 1, none⟩ = some _ := elem_cell (j := 1) hE2 (by decide) rfl
              have h6 : ((k : Int) - 1).toNat = k - 1 := by omega
              have hwl : IntKind.i64.wrap ((k : Int) - 1) = (k : Int) - 1 := IntWalk.i64_in _ (by omega)
              have hi1 : (0 : Int) ≤ (k : Int) - 1 := by omega
              have hi2 : (k : Int) - 1 < (m.body.length : Int) := by omega
              clear hE2
              have f6 := txt_t (l := [35, 35]) e6
              clear e2 e5 e6
              clear e1 hall
              go_wp2
              go_ret
              exact ⟨ret_bool HF.out.symm, hbw2⟩
            · have f0 : ¬ (0 : Int) < (m.body[k].hidden.length : Int) := by omega
              have f01 : ¬ 0 < m.body[k].hidden.length := by omega
              rw [decide_eq_false e2] at g00
              have f4 := txt_t (l := [35, 35]) e4
              have E4 := Lib.hid e4
              clear e4
              rw [decide_eq_false e5] at g01
              obtain ⟨es2, hE2, hR2⟩ := he1 (k - 1) (by omega)
              obtain ⟨h9, rfl, -, -, -⟩ := hR2
              replace hE2 := hE2.frame (hbw2.block b1 hb1')
              have c21 : w2.cell? ⟨b1, off1 + (k - 1) * 4 + 1, none⟩ = some _ := elem_cell (j := 1) hE2 (by decide) rfl
              have h6 : ((k : Int) - 1).toNat = k - 1 := by omega
              have hwl : IntKind.i64.wrap ((k : Int) - 1) = (k : Int) - 1 := IntWalk.i64_in _ (by omega)
              have hi1 : (0 : Int) ≤ (k : Int) - 1 := by omega
              have hi2 : (k : Int) - 1 < (m.body.length : Int) := by omega
              clear hE2
              have f6 := txt_f (l := [35, 35]) e6
              clear e1 e2 e5 e6
              by_cases e7 : m.body[k].text = hash1
              · exact absurd (e7.symm.trans E4.out) (by decide)
              · have f7 := txt_f (l := [35]) e7
                have HN := Lib.hid (hall.succ (by rw [HS.out, HI.out, hf, signS_other hlt e7]; rfl))
                clear e7 hall
                go_wp2
                go_quiet (fail)
                go_wp2
                go_roundw
                case rel => first | exact ⟨k + 1, by omega, by go_num, HN.out, belowN hbq _⟩ | ((repeat apply Exists.intro); exact ⟨⟨k + 1, by omega, by go_num, HN.out, belowN hbq _⟩, rfl⟩)
                case measure => simp [intOf]; omega
            · have f0 : ¬ (0 : Int) < (m.body[k].hidden.length : Int) := by omega
              have f01 : ¬ 0 < m.body[k].hidden.length := by omega
              rw [decide_eq_false e2] at g00
              have f4 := txt_f (l := [35, 35]) e4
              have E4 := Lib.hid e4
              clear e4
              clear e1 e2
              by_cases e7 : m.body[k].text = hash1
              · have f7 := txt_t (l := [35]) e7
                have E7 := Lib.hid e7
                clear e7
                by_cases e8 : k + 1 = m.body.length
                · have HF := Lib.hid (macOk_bod hlt (by rw [HS.out, HI.out, hf, signS_last hlt E7.out e8]; rfl))
                  rw [decide_eq_true e8] at g01
                  clear e8 hall
                  go_wp2
                  go_quiet (fail)
                  go_wp2
                  go_ret
                  exact ⟨ret_bool HF.out.symm, belowN hbw2 _⟩
                · have hk1 : k + 1 < m.body.length := by omega
                  obtain ⟨es3, hE3, hR3⟩ := he1 (k + 1) hk1
                  have hR3' := hR3
                  obtain ⟨h9, rfl, -, -, -⟩ := hR3
                  replace hE3 := hE3.frame (hbw2.block b1 hb1')
                  have c30 : w2.cell? ⟨b1, off1 + (k + 1) * 4, none⟩ = some _ := elem_cell0 hE3 (by decide) rfl
                  have c31 : w2.cell? ⟨b1, off1 + (k + 1) * 4 + 1, none⟩ = some _ := elem_cell (j := 1) hE3 (by decide) rfl
                  have c32 : w2.cell? ⟨b1, off1 + (k + 1) * 4 + 2, none⟩ = some _ := elem_cell (j := 2) hE3 (by decide) rfl
                  have c33 : w2.cell? ⟨b1, off1 + (k + 1) * 4 + 3, none⟩ = some _ := elem_cell (j := 3) hE3 (by decide) rfl
                  have HC := Lib.hid (fun W (hW : Below w2.heap.size w2 W) => spec_l5Param _ _ m m.body[k + 1] _ _ W (HM.out W (hbw2.trans (hW.mono hbw2.size))) (sTok.below (sTok.below hR3' hbw2) hW))
                  have h6 : ((k : Int) + 1).toNat = k + 1 := by omega
                  have hwl : IntKind.i64.wrap ((k : Int) + 1) = (k : Int) + 1 := IntWalk.i64_in _ (by omega)
                  have hi1 : (0 : Int) ≤ (k : Int) + 1 := by omega
                  have hi2 : (k : Int) + 1 < (m.body.length : Int) := by omega
                  rw [decide_eq_false e8] at g01
                  clear hE3 hR3' e8 he1 hrow3
                  go_wp2
                  go_still_tail 19, (by kernel_rfl)
                  change wpList _ _ _ _ _ w2.drew
                  have hd : Below w2.heap.size w2 w2.drew := belowN (Below.refl _ _) 1
                  generalize w2.drew = w3 at *
                  by_cases e9 : parOf m.params m.body[k + 1] < 0
                  · have HF := Lib.hid (macOk_bod hlt (by rw [HS.out, HI.out, hf, signS_no hk1 E7.out e9]; rfl))
                    clear hall
                    go_wp2_with (go_at_call 40; refine (HC.out _ hd).mono ?_; rintro e w4 ⟨rfl, hb4⟩)
                    go_ret
                    exact ⟨ret_bool HF.out.symm, (hbw2.trans (hd.mono hbw2.size)).trans (hb4.mono (Nat.le_trans hbw2.size hd.size))⟩
                  · have HN := Lib.hid (hall.succ (by rw [HS.out, HI.out, hf, signS_yes hk1 E7.out e9]; rfl))
                    clear hall
                    go_wp2_with (go_at_call 40; refine (HC.out _ hd).mono ?_; rintro e w4 ⟨rfl, hb4⟩)
                    go_roundw
                    case rel => first | exact ⟨k + 1, by omega, by go_num, HN.out, (hbq.trans (hd.mono hbq.size)).trans (hb4.mono (Nat.le_trans hbq.size hd.size))⟩ | ((repeat apply Exists.intro); exact ⟨⟨k + 1, by omega, by go_num, HN.out, (hbq.trans (hd.mono hbq.size)).trans (hb4.mono (Nat.le_trans hbq.size hd.size))⟩, rfl⟩)
                    case measure => simp [intOf]; omega
              · have f7 := txt_f (l := [35]) e7
                have HN := Lib.hid (hall.succ (by rw [HS.out, HI.out, hf, signS_other hlt e7]; rfl))
                clear e7 hall
                go_wp2
                go_quiet (fail)
                go_wp2
                go_roundw
                case rel => first | exact ⟨k + 1, by omega, by go_num, HN.out, belowN hbq _⟩ | ((repeat apply Exists.intro); exact ⟨⟨k + 1, by omega, by go_num, HN.out, belowN hbq _⟩, rfl⟩)
                case measure => simp [intOf]; omega
          · have HF := Lib.hid (macOk_yes HH.out HP.out (fun j hj => hall j (by omega)))
            clear hall
            go_wp2
            go_ret
            exact ⟨ret_bool HF.out.symm, hbw⟩


end Go.Proofs.Ytigbaeokccknaaa
