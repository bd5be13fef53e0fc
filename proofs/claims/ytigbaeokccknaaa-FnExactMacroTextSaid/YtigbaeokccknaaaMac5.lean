/- MacroValid of the program, from its parts. (Made by gen_mac5.py.) -/
import Derived.Test.YtigbaeokccknaaaMac4
namespace Go.Proofs.Ytigbaeokccknaaa
open Go.RowKit

theorem bodyI_long {b : List Tok} (h : 20 < b.length) : bodyOkI b = false := by unfold bodyOkI; rw [decide_eq_false (by omega)]; rfl
theorem bodyI_toks {b : List Tok} (h : toksOk b = false) : bodyOkI b = false := by unfold bodyOkI; rw [h]; simp
theorem bodyI_no {b : List Tok} {k : Nat} (hk : k < b.length) (h : bodI b k = false) : bodyOkI b = false := by unfold bodyOkI; rw [range_no hk h, Bool.and_false]
theorem bodyI_yes {b : List Tok} (h1 : b.length ≤ 20) (h2 : toksOk b = true) (h3 : BodUpto (bodI b) b.length) : bodyOkI b = true := by unfold bodyOkI; rw [range_yes h3, decide_eq_true h1, h2]; rfl

set_option maxHeartbeats 16000000 in
set_option maxRecDepth 100000 in
theorem impl_bodyValid (v : Value) (l : List Tok) (fp : List Nat) (w : World) (H : (sSlice sTok).R w [v] l fp) :
    Calls Try.prog 35 #[v] w (Says (bodyOkI l) w) := by
  have HV := Lib.hid (impl_TokensValid v l fp w H)
  obtain ⟨a, cap, rfl, hc, hm, hrow⟩ := open_rows H
  unfold maxLen at hm
  clear H
  by_cases hl : 20 < l.length
  · have HF := Lib.hid (bodyI_long hl)
    go_enter Try.func35, Try.ntmps35
    go_wp2
    go_ret
    exact ⟨ret_bool HF.out.symm, Below.refl _ _⟩
  cases hv : toksOk l
  · rw [hv] at HV
    have HF := Lib.hid (bodyI_toks hv)
    clear hv
    go_enter Try.func35, Try.ntmps35
    go_wp2_with (go_at_call 46; refine HV.out.mono ?_; rintro e w1 ⟨rfl, hb1⟩)
    go_ret
    exact ⟨ret_bool HF.out.symm, hb1⟩
  rw [hv] at HV
  have HTV := Lib.hid hv
  clear hv
  go_enter Try.func35, Try.ntmps35
  go_wp2_with (go_at_call 46; refine HV.out.mono ?_; rintro e w1 ⟨rfl, hb1⟩)
  go_loopw [15] (fun i wr => ∃ k : Nat, k ≤ l.length ∧ i = .int .i64 k ∧ BodUpto (bodI l) k ∧ Below w.heap.size w wr) (fun i _ => l.length - (intOf i).toNat)
  case atStart => exact ⟨0, by omega, rfl, BodUpto.zero _, hb1⟩
  case round =>
    clear hb1
    obtain ⟨k, hk, rfl, hall, hb⟩ := hrel
    by_cases hlt : k < l.length
    · obtain ⟨b1, off1, fps1, rfl, hb1', -, he1⟩ := hrow (by omega)
      obtain ⟨es1, hE1, hR1⟩ := he1 k hlt
      obtain ⟨hh, rfl, -, -, K1⟩ := hR1
      obtain ⟨ah, caph, rfl, -⟩ := open_rows K1
      replace hE1 := hE1.frame (hb.block b1 hb1')
      have c10 : wr.cell? ⟨b1, off1 + k * 4, none⟩ = some _ := elem_cell0 hE1 (by decide) rfl
      have c11 : wr.cell? ⟨b1, off1 + k * 4 + 1, none⟩ = some _ := elem_cell (j := 1) hE1 (by decide) rfl
      have c12 : wr.cell? ⟨b1, off1 + k * 4 + 2, none⟩ = some _ := elem_cell (j := 2) hE1 (by decide) rfl
      have c13 : wr.cell? ⟨b1, off1 + k * 4 + 3, none⟩ = some _ := elem_cell (j := 3) hE1 (by decide) rfl
      have hbx : Below wr.heap.size wr (wr.alloc (.cells #[.int .i64 l[k].kind, .string l[k].text, .bool l[k].spaced, .slice ah l[k].hidden.length caph] 60)) := alloc_below' _ _
      have HT := Lib.hid (heap_alloc_new wr (.cells #[.int .i64 l[k].kind, .string l[k].text, .bool l[k].spaced, .slice ah l[k].hidden.length caph] 60))
      have hbq := hb.trans (hbx.mono hb.size)
      clear K1 hE1
      have g00 : ((k : Int) == 0) = decide (k = 0) := by rw [Bool.eq_iff_iff]; simp
      have g01 : ((k : Int) == (l.length : Int) - 1) = decide (k + 1 = l.length) := by rw [Bool.eq_iff_iff]; simp; omega
      rcases bodI_ways hlt with ⟨e1, HI⟩ | ⟨e1, e2, e3, HI⟩ | ⟨e1, e2, e3, e4, HI⟩ | ⟨e1, e2, e3, e4, HI⟩ | ⟨e1, e2, e4, e5, HI⟩ | ⟨e1, e2, e4, e5, e6, HI⟩ | ⟨e1, e2, e4, e5, e6, HI⟩ | ⟨e1, e2, e4, HI⟩
      · have HF := Lib.hid (bodyI_no hlt HI.out)
        have f0 : (0 : Int) < (l[k].hidden.length : Int) := by omega
        have f01 : 0 < l[k].hidden.length := by omega
        have f02 : decide ((0 : Int) < (l[k].hidden.length : Int)) = true := decide_eq_true f0
        clear e1
        clear hall
        go_wp2
        go_ret
        exact ⟨ret_bool HF.out.symm, hb.trans ((alloc_below' wr _).mono hb.size)⟩
      · have HF := Lib.hid (bodyI_no hlt HI.out)
        have f0 : ¬ (0 : Int) < (l[k].hidden.length : Int) := by omega
        have f01 : ¬ 0 < l[k].hidden.length := by omega
        rw [decide_eq_true e2] at g00
        rw [e3] at c12
        clear e1 e2 e3
        clear hall
        go_wp2
        go_ret
        exact ⟨ret_bool HF.out.symm, hb.trans ((alloc_below' wr _).mono hb.size)⟩
      · have HF := Lib.hid (bodyI_no hlt HI.out)
        have f0 : ¬ (0 : Int) < (l[k].hidden.length : Int) := by omega
        have f01 : ¬ 0 < l[k].hidden.length := by omega
        rw [decide_eq_true e2] at g00
        rw [e3] at c12
        have f4 := txt_t (l := [35, 35]) e4
        clear e4
        clear e1 e2 e3
        clear hall
        go_wp2
        go_ret
        exact ⟨ret_bool HF.out.symm, hb.trans ((alloc_below' wr _).mono hb.size)⟩
      · have HN := Lib.hid (hall.succ HI.out)
        have f0 : ¬ (0 : Int) < (l[k].hidden.length : Int) := by omega
        have f01 : ¬ 0 < l[k].hidden.length := by omega
        rw [decide_eq_true e2] at g00
        rw [e3] at c12
        have f4 := txt_f (l := [35, 35]) e4
        clear e4
        clear e1 e2 e3
        clear hall
        go_wp2
        go_roundw
        case rel => first | exact ⟨k + 1, by omega, by go_num, HN.out, hb.trans ((alloc_below' wr _).mono hb.size)⟩ | ((repeat apply Exists.intro); exact ⟨⟨k + 1, by omega, by go_num, HN.out, hb.trans ((alloc_below' wr _).mono hb.size)⟩, rfl⟩)
        case measure => simp [intOf]; omega
      · have HF := Lib.hid (bodyI_no hlt HI.out)
        have f0 : ¬ (0 : Int) < (l[k].hidden.length : Int) := by omega
        have f01 : ¬ 0 < l[k].hidden.length := by omega
        rw [decide_eq_false e2] at g00
        have f4 := txt_t (l := [35, 35]) e4
        clear e4
        rw [decide_eq_true e5] at g01
        clear e1 e2 e5
        clear hall
        go_wp2
        go_ret
        exact ⟨ret_bool HF.out.symm, hb.trans ((alloc_below' wr _).mono hb.size)⟩
      · have HF := Lib.hid (bodyI_no hlt HI.out)
        have f0 : ¬ (0 : Int) < (l[k].hidden.length : Int) := by omega
        have f01 : ¬ 0 < l[k].hidden.length := by omega
        rw [decide_eq_false e2] at g00
        have f4 := txt_t (l := [35, 35]) e4
        clear e4
        rw [decide_eq_false e5] at g01
        obtain ⟨es2, hE2, hR2⟩ := he1 (k - 1) (by omega)
        obtain ⟨h9, rfl, -, -, -⟩ := hR2
        replace hE2 := hE2.frame (hbq.block b1 hb1')
        have c21 : (wr.alloc (.cells #[.int .i64 l[k].kind, .string l[k].text, .bool l[k].spaced, .slice ah l[k].hidden.length caph] 60)).cell? ⟨b1, off1 + (k - 1) * 4 + 1, none⟩ = some _ := elem_cell (j := 1) hE2 (by decide) rfl
        have h6 : ((k : Int) - 1).toNat = k - 1 := by omega
        have hwl : IntKind.i64.wrap ((k : Int) - 1) = (k : Int) - 1 := IntWalk.i64_in _ (by omega)
        have hi1 : (0 : Int) ≤ (k : Int) - 1 := by omega
        have hi2 : (k : Int) - 1 < (l.length : Int) := by omega
        clear hE2
        have f6 := txt_t (l := [35, 35]) e6
        clear e1 e2 e5 e6
        clear hall
        go_wp2
        go_ret
        exact ⟨ret_bool HF.out.symm, hb.trans ((alloc_below' wr _).mono hb.size)⟩
      · have HN := Lib.hid (hall.succ HI.out)
        have f0 : ¬ (0 : Int) < (l[k].hidden.length : Int) := by omega
        have f01 : ¬ 0 < l[k].hidden.length := by omega
        rw [decide_eq_false e2] at g00
        have f4 := txt_t (l := [35, 35]) e4
        clear e4
        rw [decide_eq_false e5] at g01
        obtain ⟨es2, hE2, hR2⟩ := he1 (k - 1) (by omega)
        obtain ⟨h9, rfl, -, -, -⟩ := hR2
        replace hE2 := hE2.frame (hbq.block b1 hb1')
        have c21 : (wr.alloc (.cells #[.int .i64 l[k].kind, .string l[k].text, .bool l[k].spaced, .slice ah l[k].hidden.length caph] 60)).cell? ⟨b1, off1 + (k - 1) * 4 + 1, none⟩ = some _ := elem_cell (j := 1) hE2 (by decide) rfl
        have h6 : ((k : Int) - 1).toNat = k - 1 := by omega
        have hwl : IntKind.i64.wrap ((k : Int) - 1) = (k : Int) - 1 := IntWalk.i64_in _ (by omega)
        have hi1 : (0 : Int) ≤ (k : Int) - 1 := by omega
        have hi2 : (k : Int) - 1 < (l.length : Int) := by omega
        clear hE2
        have f6 := txt_f (l := [35, 35]) e6
        clear e1 e2 e5 e6
        clear hall
        go_wp2
        go_roundw
        case rel => first | exact ⟨k + 1, by omega, by go_num, HN.out, hb.trans ((alloc_below' wr _).mono hb.size)⟩ | ((repeat apply Exists.intro); exact ⟨⟨k + 1, by omega, by go_num, HN.out, hb.trans ((alloc_below' wr _).mono hb.size)⟩, rfl⟩)
        case measure => simp [intOf]; omega
      · have HN := Lib.hid (hall.succ HI.out)
        have f0 : ¬ (0 : Int) < (l[k].hidden.length : Int) := by omega
        have f01 : ¬ 0 < l[k].hidden.length := by omega
        rw [decide_eq_false e2] at g00
        have f4 := txt_f (l := [35, 35]) e4
        clear e4
        clear e1 e2
        clear hall
        go_wp2
        go_roundw
        case rel => first | exact ⟨k + 1, by omega, by go_num, HN.out, hb.trans ((alloc_below' wr _).mono hb.size)⟩ | ((repeat apply Exists.intro); exact ⟨⟨k + 1, by omega, by go_num, HN.out, hb.trans ((alloc_below' wr _).mono hb.size)⟩, rfl⟩)
        case measure => simp [intOf]; omega
    · have HF := Lib.hid (bodyI_yes (by omega) HTV.out (fun j hj => hall j (by omega)))
      clear hall
      go_wp2
      go_ret
      exact ⟨ret_bool HF.out.symm, hb⟩

/-! ### Number signs -/
theorem signI_other {m : DMacro} {k : Nat} (hk : k < m.body.length) (h : m.body[k].text ≠ hash1) : signI m k = true := by unfold signI; rw [dif_pos hk, decide_eq_false h]; rfl
theorem signI_last {m : DMacro} {k : Nat} (hk : k < m.body.length) (h : m.body[k].text = hash1) (hl : k + 1 = m.body.length) : signI m k = false := by unfold signI; rw [dif_pos hk, decide_eq_true h, dif_neg (by omega)]; rfl
theorem signI_in {m : DMacro} {k : Nat} (hk : k + 1 < m.body.length) (h : (m.body[k]'(by omega)).text = hash1) : signI m k = hasTx m.params m.body[k + 1].text := by unfold signI; rw [dif_pos (by omega), decide_eq_true h, dif_pos hk]; simp
theorem signs_no {m : DMacro} {k : Nat} (hk : k < m.body.length) (h : signI m k = false) : signsOk m = false := range_no hk h
theorem signs_yes {m : DMacro} (h : BodUpto (signI m) m.body.length) : signsOk m = true := range_yes h

set_option maxHeartbeats 16000000 in
set_option maxRecDepth 100000 in
theorem impl_numberSignsFit (m : DMacro) (h2 h3 : Value) (fp2 fp3 : List Nat) (w : World) (K2 : (sSlice sStr).R w [h2] m.params fp2) (K3 : (sSlice sTok).R w [h3] m.body fp3) (hl : m.body.length ≤ 1000) :
    Calls Try.prog 37 #[.agg #[.string m.name, .bool m.function, h2, h3]] w (Says (signsOk m) w) := by
  obtain ⟨a2, cap2, rfl, -⟩ := open_strs K2
  obtain ⟨a3, cap3, rfl, hc3, hm3, hrow⟩ := open_rows K3
  unfold maxLen at hm3
  clear K3
  have hb0 := alloc_below' w (.cells #[.string m.name, .bool m.function, .slice a2 m.params.length cap2, .slice a3 m.body.length cap3] 26)
  have HX := Lib.hid (heap_alloc_new w (.cells #[.string m.name, .bool m.function, .slice a2 m.params.length cap2, .slice a3 m.body.length cap3] 26))
  go_enter Try.func37, Try.ntmps37
  go_wp2
  generalize (w.alloc (.cells #[.string m.name, .bool m.function, .slice a2 m.params.length cap2, .slice a3 m.body.length cap3] 26)) = W1 at *
  go_loopw [8] (fun i wr => ∃ k : Nat, k ≤ m.body.length ∧ i = .int .i64 k ∧ BodUpto (signI m) k ∧ Below W1.heap.size W1 wr) (fun i _ => m.body.length - (intOf i).toNat)
  case atStart => exact ⟨0, by omega, rfl, BodUpto.zero _, Below.refl _ _⟩
  case round =>
    obtain ⟨k, hk, rfl, hall, hb⟩ := hrel
    have hbw := hb0.trans (hb.mono hb0.size)
    by_cases hlt : k < m.body.length
    · obtain ⟨b1, off1, fps1, rfl, hb1', -, he1⟩ := hrow (by omega)
      obtain ⟨es1, hE1, hR1⟩ := he1 k hlt
      obtain ⟨hh, rfl, -, -, K1⟩ := hR1
      obtain ⟨ah, caph, rfl, -⟩ := open_rows K1
      replace hE1 := hE1.frame (hbw.block b1 hb1')
      have c10 : wr.cell? ⟨b1, off1 + k * 4, none⟩ = some _ := elem_cell0 hE1 (by decide) rfl
      have c11 : wr.cell? ⟨b1, off1 + k * 4 + 1, none⟩ = some _ := elem_cell (j := 1) hE1 (by decide) rfl
      have c12 : wr.cell? ⟨b1, off1 + k * 4 + 2, none⟩ = some _ := elem_cell (j := 2) hE1 (by decide) rfl
      have c13 : wr.cell? ⟨b1, off1 + k * 4 + 3, none⟩ = some _ := elem_cell (j := 3) hE1 (by decide) rfl
      have hbx : Below wr.heap.size wr (wr.alloc (.cells #[.int .i64 m.body[k].kind, .string m.body[k].text, .bool m.body[k].spaced, .slice ah m.body[k].hidden.length caph] 60)) := alloc_below' _ _
      have HT := Lib.hid (heap_alloc_new wr (.cells #[.int .i64 m.body[k].kind, .string m.body[k].text, .bool m.body[k].spaced, .slice ah m.body[k].hidden.length caph] 60))
      have hbq := hb.trans (hbx.mono hb.size)
      have hbw2 := hbw.trans (hbx.mono hbw.size)
      have HX2 := Lib.hid ((hbq.block _ (Array.getElem?_eq_some_iff.1 HX.out).1).trans HX.out)
      have HC := Lib.hid (fun x W (hW : Below (wr.alloc (.cells #[.int .i64 m.body[k].kind, .string m.body[k].text, .bool m.body[k].spaced, .slice ah m.body[k].hidden.length caph] 60)).heap.size (wr.alloc (.cells #[.int .i64 m.body[k].kind, .string m.body[k].text, .bool m.body[k].spaced, .slice ah m.body[k].hidden.length caph] 60)) W) => lib_Contains _ _ _ x W ((sSlice sStr).below ((sSlice sStr).below K2 hbw2) hW))
      clear K1 hE1 hbx
      by_cases e7 : m.body[k].text = hash1
      · have f7 := txt_t (l := [35]) e7
        have E7 := Lib.hid e7
        clear e7
        go_wp2
        generalize wr.alloc (.cells #[.int .i64 m.body[k].kind, .string m.body[k].text, .bool m.body[k].spaced, .slice ah m.body[k].hidden.length caph] 60) = W2 at *
        have p1 : W2.cell? ⟨wr.heap.size, 1, none⟩ = some (.string m.body[k].text) := cell_of_row _ _ 1 _ _ _ HT.out
        clear c10 c11 c12 c13
        have q2 : W2.cell? ⟨w.heap.size, 2, none⟩ = some (.slice a2 m.params.length cap2) := cell_of_row _ _ 2 _ _ _ HX2.out
        have q3 : W2.cell? ⟨w.heap.size, 3, none⟩ = some (.slice (some ⟨b1, off1, none⟩) m.body.length cap3) := cell_of_row _ _ 3 _ _ _ HX2.out
        have g01 : ((k : Int) == (m.body.length : Int) - 1) = decide (k + 1 = m.body.length) := by rw [Bool.eq_iff_iff]; simp; omega
        have hwm : IntKind.i64.wrap ((m.body.length : Int) - 1) = (m.body.length : Int) - 1 := IntWalk.i64_in _ (by omega)
        by_cases e8 : k + 1 = m.body.length
        · have HF := Lib.hid (signs_no hlt (signI_last hlt E7.out e8))
          rw [decide_eq_true e8] at g01
          clear e8 hall
          go_quiet (fail)
          go_wp2
          go_ret
          exact ⟨ret_bool HF.out.symm, belowN hbw2 _⟩
        · have hk1 : k + 1 < m.body.length := by omega
          obtain ⟨es3, hE3, hR3⟩ := he1 (k + 1) hk1
          obtain ⟨h9, rfl, -, -, -⟩ := hR3
          replace hE3 := hE3.frame (hbw2.block b1 hb1')
          have c31 : W2.cell? ⟨b1, off1 + (k + 1) * 4 + 1, none⟩ = some _ := elem_cell (j := 1) hE3 (by decide) rfl
          have h6 : ((k : Int) + 1).toNat = k + 1 := by omega
          have hwl : IntKind.i64.wrap ((k : Int) + 1) = (k : Int) + 1 := IntWalk.i64_in _ (by omega)
          have hi1 : (0 : Int) ≤ (k : Int) + 1 := by omega
          have hi2 : (k : Int) + 1 < (m.body.length : Int) := by omega
          have hs := signI_in hk1 E7.out
          rw [decide_eq_false e8] at g01
          clear hE3 e8 he1 hrow
          go_still_tail 16, (by kernel_rfl)
          change wpList _ _ _ _ _ W2.drew
          have hd : Below W2.heap.size W2 W2.drew := belowN (Below.refl _ _) 1
          generalize W2.drew = w3 at *
          have hbw3 := hbw2.trans (hd.mono hbw2.size)
          have hbq3 := hbq.trans (hd.mono hbq.size)
          cases e9 : hasTx m.params m.body[k + 1].text
          · rw [e9] at hs
            have HF := Lib.hid (signs_no hlt hs)
            clear hall hs
            go_wp2_with (go_at_call 67; refine (HC.out _ _ hd).mono ?_; rintro e w4 ⟨rfl, rfl⟩; rw [e9]; clear e9)
            go_ret
            exact ⟨ret_bool HF.out.symm, hbw3⟩
          · rw [e9] at hs
            have HN := Lib.hid (hall.succ hs)
            clear hall hs
            go_wp2_with (go_at_call 67; refine (HC.out _ _ hd).mono ?_; rintro e w4 ⟨rfl, rfl⟩; rw [e9]; clear e9)
            go_roundw
            case rel => first | exact ⟨k + 1, by omega, by go_num, HN.out, hbq3⟩ | ((repeat apply Exists.intro); exact ⟨⟨k + 1, by omega, by go_num, HN.out, hbq3⟩, rfl⟩)
            case measure => simp [intOf]; omega
      · have f7 := txt_f (l := [35]) e7
        have HN := Lib.hid (hall.succ (signI_other hlt e7))
        clear e7 hall
        go_wp2
        go_roundw
        case rel => first | exact ⟨k + 1, by omega, by go_num, HN.out, hbq⟩ | ((repeat apply Exists.intro); exact ⟨⟨k + 1, by omega, by go_num, HN.out, hbq⟩, rfl⟩)
        case measure => simp [intOf]; omega
    · have HF := Lib.hid (signs_yes (fun j hj => hall j (by omega)))
      clear hall
      go_wp2
      go_ret
      exact ⟨ret_bool HF.out.symm, hbw⟩

end Go.Proofs.Ytigbaeokccknaaa
