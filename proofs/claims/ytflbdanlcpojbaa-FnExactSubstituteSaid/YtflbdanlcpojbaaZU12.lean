/- Texts that the proof of U stands on, in one file. -/
import Derived.Test.YtflbdanlcpojbaaZU11
import Derived.Test.YtflbdanlcpojbaaZU10
import Derived.Test.YtflbdanlcpojbaaZU9
import Derived.Test.YtflbdanlcpojbaaZU3
import Derived.OwnWalk
import Derived.IntWalk
import Derived.Test.YtflbdanlcpojbaaShelf
import Derived.Test.YtflbdanlcpojbaaZU1
import Derived.Lib.FrozenHead2
import Derived.Lib.OthersKept
import Derived.Lib.Builder
import Derived.Laws.Externs
import Derived.Test.YtflbdanlcpojbaaZU6
set_option linter.unusedVariables false
set_option linter.unusedSimpArgs false
/- Substitute of the model. (Made by gen_sub5.py.) -/
namespace Go.Proofs.Ytflbdanlcpojbaa
open Go.RowKit

/-- What Substitute of the model hands back. -/
def RetSub (m : DMacro) (raw ready : List (List Tok)) (w : World) (e : Ending) (w' : World) : Prop :=
  ∃ (v : Value) (fp : List Nat), e = .returned (.tuple #[v, .bool (subRes m raw ready).2]) ∧ (sSlice sTok).R w' [v] (subRes m raw ready).1 fp ∧ (∀ b ∈ fp, w.heap.size ≤ b) ∧ Below w.heap.size w w'
theorem retSub_no {m : DMacro} {raw ready : List (List Tok)} {w W : World} (h : subRes m raw ready = ([], false)) (hb : Below w.heap.size w W) : RetSub m raw ready w (.returned (.tuple #[.slice (some ⟨W.heap.size, 0, none⟩) 0 0, .bool false])) (W.alloc (.cells #[] 35)) :=
  ⟨_, [], by rw [h], by rw [h]; exact slice_empty _ _ _ _ (by simp), by simp, hb.alloc hb.size _⟩
theorem args_len {m : DMacro} {a : List (List Tok)} (h : a.length ≠ m.params.length) : argsOk m a = false := by unfold argsOk; rw [decide_eq_false h]; rfl
theorem args_bad {m : DMacro} {a : List (List Tok)} {k : Nat} (hk : k < a.length) (h : toksOk a[k] = false) : argsOk m a = false := by
  unfold argsOk; rw [Bool.and_eq_false_iff]; exact .inr (List.all_eq_false.2 ⟨_, List.getElem_mem hk, by simp [h]⟩)
theorem args_yes {m : DMacro} {a : List (List Tok)} (hl : a.length = m.params.length) (h : ∀ k, (hk : k < a.length) → toksOk a[k] = true) : argsOk m a = true := by
  unfold argsOk; rw [Bool.and_eq_true, decide_eq_true_eq, List.all_eq_true]
  exact ⟨hl, fun l hl => by obtain ⟨k, hk, rfl⟩ := List.getElem_of_mem hl; exact h k hk⟩

set_option maxHeartbeats 16000000 in
set_option maxRecDepth 100000 in
theorem spec_Substitute (csM : List Value) (m : DMacro) (fpM : List Nat) (vr vy : Value) (raw ready : List (List Tok)) (fpr fpy : List Nat) (w : World) (hm : MacSm m) (hlr : raw.length ≤ 1048576) (hly : ready.length ≤ 1048576) (hsr : RowsSm raw) (hsy : RowsSm ready)
    (HM : sMacro.R w csM m fpM) (Hr : (sSlice (sSlice sTok)).R w [vr] raw fpr) (Hy : (sSlice (sSlice sTok)).R w [vy] ready fpy) :
    Calls Try.prog 7 #[.agg csM.toArray, vr, vy] w (RetSub m raw ready w) := by
  have HM0 := HM
  obtain ⟨h2, h3, q2, q3, rfl, -, K2, K3, -⟩ := HM
  obtain ⟨a2, c2, rfl, -⟩ := open_strs K2
  obtain ⟨a3, c3, rfl, -⟩ := open_rows K3
  have hrl := (sSlice (sSlice sTok)).lt Hr
  have hyl := (sSlice (sSlice sTok)).lt Hy
  have b0 := alloc_below' w (.cells #[.string m.name, .bool m.function, .slice a2 m.params.length c2, .slice a3 m.body.length c3] 26)
  have HX := Lib.hid (heap_alloc_new w (.cells #[.string m.name, .bool m.function, .slice a2 m.params.length c2, .slice a3 m.body.length c3] 26))
  have HM1 := Lib.hid (sMacro.below HM0 b0)
  have Hr1 := Lib.hid ((sSlice (sSlice sTok)).below Hr b0)
  have Hy1 := Lib.hid ((sSlice (sSlice sTok)).below Hy b0)
  have hs1 : (w.alloc (.cells #[.string m.name, .bool m.function, .slice a2 m.params.length c2, .slice a3 m.body.length c3] 26)).heap.size = w.heap.size + 1 := Array.size_push _
  have HS1 := Lib.hid hs1
  have hrn : w.heap.size ∉ fpr := fun h => Nat.lt_irrefl _ (hrl _ h)
  have hyn : w.heap.size ∉ fpy := fun h => Nat.lt_irrefl _ (hyl _ h)
  clear K2 K3 HM0 Hr Hy hs1 hrl hyl
  go_enter Try.func7, Try.ntmps7
  go_upto_region 1 with fail
  generalize (w.alloc (.cells #[.string m.name, .bool m.function, .slice a2 m.params.length c2, .slice a3 m.body.length c3] 26)) = W1 at *
  have p0 := cell_of_row W1 (w.heap.size) 0 _ _ _ HX.out
  have p1 := cell_of_row W1 (w.heap.size) 1 _ _ _ HX.out
  have p2 := cell_of_row W1 (w.heap.size) 2 _ _ _ HX.out
  have p3 := cell_of_row W1 (w.heap.size) 3 _ _ _ HX.out
  go_wp2_with fail
  refine (spec_l1OwnMacro _ m _ W1 hm.1 hm.2.1 hm.2.2 HM1.out).mono ?_
  rintro e w2 ⟨b2, b3, d2, d3, f2, rfl, R2, lo2, -, hb2⟩
  clear p0 p1 p2 p3
  have HX2 := Lib.hid (mbox HX.out hb2)
  have p0 := cell_of_row w2 (w.heap.size) 0 _ _ _ HX2.out
  have pf0 : w2.frozen? ⟨w.heap.size, 0, none⟩ = false := frozen_of_row _ _ 0 _ _ HX2.out
  have p1 := cell_of_row w2 (w.heap.size) 1 _ _ _ HX2.out
  have pf1 : w2.frozen? ⟨w.heap.size, 1, none⟩ = false := frozen_of_row _ _ 1 _ _ HX2.out
  have p2 := cell_of_row w2 (w.heap.size) 2 _ _ _ HX2.out
  have pf2 : w2.frozen? ⟨w.heap.size, 2, none⟩ = false := frozen_of_row _ _ 2 _ _ HX2.out
  have p3 := cell_of_row w2 (w.heap.size) 3 _ _ _ HX2.out
  have pf3 : w2.frozen? ⟨w.heap.size, 3, none⟩ = false := frozen_of_row _ _ 3 _ _ HX2.out
  have hs2 := HS1.out
  have hs3 := hb2.size
  have hn2 : w.heap.size ∉ f2 := fun h => by have := lo2 _ h; omega
  have HM3 := Lib.hid (sMacro.set4R R2 hn2 (.string m.name) (.bool m.function) (.slice b2 m.params.length d2) (.slice b3 m.body.length d3))
  have Hr3 := Lib.hid ((sSlice (sSlice sTok)).set4R ((sSlice (sSlice sTok)).below Hr1.out hb2) hrn (.string m.name) (.bool m.function) (.slice b2 m.params.length d2) (.slice b3 m.body.length d3))
  have Hy3 := Lib.hid ((sSlice (sSlice sTok)).set4R ((sSlice (sSlice sTok)).below Hy1.out hb2) hyn (.string m.name) (.bool m.function) (.slice b2 m.params.length d2) (.slice b3 m.body.length d3))
  have HX3 := Lib.hid (set4_at HX2.out (.string m.name) (.bool m.function) (.slice b2 m.params.length d2) (.slice b3 m.body.length d3))
  have hB3 := set4_below (b0.trans (hb2.mono b0.size)) (Nat.le_refl w.heap.size) (.string m.name) (.bool m.function) (.slice b2 m.params.length d2) (.slice b3 m.body.length d3)
  unfold set4 at HM3 Hr3 Hy3 HX3 hB3
  go_upto_region 2 with fail
  clear p0 p1 p2 p3 pf0 pf1 pf2 pf3 R2 lo2 hb2 HX2 HX HM1 Hr1 Hy1 b0 hs2 hs3 hn2 HS1
  generalize ((((w2.setCell ⟨w.heap.size, 0, none⟩ (.string m.name)).setCell ⟨w.heap.size, 1, none⟩ (.bool m.function)).setCell ⟨w.heap.size, 2, none⟩ (.slice b2 m.params.length d2)).setCell ⟨w.heap.size, 3, none⟩ (.slice b3 m.body.length d3)) = W3 at *
  go_wp2_with fail
  refine (spec_l1OwnRowsToken _ raw _ W3 hlr hsr Hr3.out).mono ?_
  rintro e w4 ⟨vr2, fr2, rfl, RR4, -, hb4⟩
  obtain ⟨ar, cr, rfl, -⟩ := open_rows RR4
  have hB4 := hB3.trans (hb4.mono hB3.size)
  go_wp2_with fail
  refine (spec_l1OwnRowsToken _ ready _ w4 hly hsy ((sSlice (sSlice sTok)).below Hy3.out hb4)).mono ?_
  rintro e w5 ⟨vy2, fy2, rfl, RY5, -, hb5⟩
  obtain ⟨ay, cy, rfl, hcy, hmy, hrowY⟩ := open_rows RY5
  have HRR := Lib.hid ((sSlice (sSlice sTok)).below RR4 hb5)
  have HYY := Lib.hid RY5
  have hb35 := hb4.trans (hb5.mono hb4.size)
  have HM5 := Lib.hid (sMacro.below HM3.out hb35)
  have HX5 := Lib.hid (mbox HX3.out hb35)
  have hB5 := hB4.trans (hb5.mono hB4.size)
  clear RR4 RY5 hb4 hb5 hb35 hB4 hB3 HM3 Hr3 Hy3 HX3 hrn hyn
  have HMV := Lib.hid (spec_MacroValid _ m f2 w5 HM5.out)
  have p0 := cell_of_row w5 (w.heap.size) 0 _ _ _ HX5.out
  have p1 := cell_of_row w5 (w.heap.size) 1 _ _ _ HX5.out
  have p2 := cell_of_row w5 (w.heap.size) 2 _ _ _ HX5.out
  have p3 := cell_of_row w5 (w.heap.size) 3 _ _ _ HX5.out
  cases hv : macOk m
  · have HF := Lib.hid (subRes_bad (raw := raw) (ready := ready) (fun h => by rw [hv] at h; exact absurd h.1 (by simp) : ¬ (macOk m = true ∧ argsOk m raw = true ∧ argsOk m ready = true)))
    rw [hv] at HMV
    clear hv
    go_wp2_with fail
    refine HMV.out.mono ?_
    rintro e w6 ⟨rfl, hb6⟩
    go_wp2
    go_ret2
    exact retSub_no HF.out (hB5.trans (hb6.mono hB5.size))
  have HVD := Lib.hid hv
  rw [hv] at HMV
  clear hv
  go_wp2_with fail
  refine HMV.out.mono ?_
  rintro e w6 ⟨rfl, hb6⟩
  replace HRR := Lib.hid ((sSlice (sSlice sTok)).below HRR.out hb6)
  replace HYY := Lib.hid ((sSlice (sSlice sTok)).below HYY.out hb6)
  have HM6 := Lib.hid (sMacro.below HM5.out hb6)
  have HX6 := Lib.hid (mbox HX5.out hb6)
  have hB6 := hB5.trans (hb6.mono hB5.size)
  clear p0 p1 p2 p3 hb6 HM5 HX5 hB5 HMV
  have p0 := cell_of_row w6 (w.heap.size) 0 _ _ _ HX6.out
  have p1 := cell_of_row w6 (w.heap.size) 1 _ _ _ HX6.out
  have p2 := cell_of_row w6 (w.heap.size) 2 _ _ _ HX6.out
  have p3 := cell_of_row w6 (w.heap.size) 3 _ _ _ HX6.out
  by_cases h1 : raw.length = m.params.length
  rotate_left
  · have HF := Lib.hid (subRes_bad (ready := ready) (fun h => by rw [args_len h1] at h; exact absurd h.2.1 (by simp) : ¬ (macOk m = true ∧ argsOk m raw = true ∧ argsOk m ready = true)))
    have e1 : ((raw.length : Int) != (m.params.length : Int)) = true := by simp; omega
    clear h1
    go_wp2
    go_ret2
    exact retSub_no HF.out hB6
  by_cases h2 : ready.length = m.params.length
  rotate_left
  · have HF := Lib.hid (subRes_bad (raw := raw) (fun h => by rw [args_len h2] at h; exact absurd h.2.2 (by simp) : ¬ (macOk m = true ∧ argsOk m raw = true ∧ argsOk m ready = true)))
    have e1 : ((raw.length : Int) != (m.params.length : Int)) = false := by simp; omega
    have e2 : ((ready.length : Int) != (m.params.length : Int)) = true := by simp; omega
    clear h1 h2
    go_wp2
    go_ret2
    exact retSub_no HF.out hB6
  have e1 : ((raw.length : Int) != (m.params.length : Int)) = false := by simp; omega
  have e2 : ((ready.length : Int) != (m.params.length : Int)) = false := by simp; omega
  clear hcy hmy hrowY hm hly hsr hsy
  have H1 := Lib.hid h1
  have H2 := Lib.hid h2
  clear h1 h2
  go_wp2
  clear p0 p1 p2 p3
  go_loopw [8] (fun i wr => ∃ k : Nat, k ≤ raw.length ∧ i = .int .i64 k ∧ Hid (∀ j, (hj : j < raw.length) → (hj2 : j < ready.length) → j < k → toksOk raw[j] = true ∧ toksOk ready[j] = true) ∧ Below w6.heap.size w6 wr) (fun i _ => raw.length - (intOf i).toNat)
  case atStart => exact ⟨0, by omega, rfl, Lib.hid (fun j _ _ h => absurd h (by omega)), Below.refl _ _⟩
  case round =>
    obtain ⟨k, hk, rfl, HA, hb⟩ := hrel
    have h1 := H1.out
    have h2 := H2.out
    have hBr := hB6.trans (hb.mono hB6.size)
    by_cases hlt : k < raw.length
    · have hlt2 : k < ready.length := by omega
      obtain ⟨x1, y1, z1, -, -, u1⟩ := open_rows HRR.out
      obtain ⟨x2, y2, z2, -, -, u2⟩ := open_rows HYY.out
      simp only [Value.slice.injEq, true_and] at z1 z2
      obtain ⟨rfl, rfl⟩ := z1
      obtain ⟨rfl, rfl⟩ := z2
      obtain ⟨b1, o1, -, rfl, -, -⟩ := u1 (by omega)
      obtain ⟨b2, o2, -, rfl, -, -⟩ := u2 (by omega)
      clear u1 u2 h1 h2
      obtain ⟨aj1, cj1, f1, q1, R1, l1, -⟩ := rows_at HRR.out hlt
      obtain ⟨aj2, cj2, f2', q2', R2', l2, -⟩ := rows_at HYY.out hlt2
      replace q1 := (hb.cell (p := ⟨b1, o1 + k, none⟩) l1).trans q1
      replace q2' := (hb.cell (p := ⟨b2, o2 + k, none⟩) l2).trans q2'
      have HT1 := Lib.hid (spec_TokensValid _ raw[k] f1 wr ((sSlice sTok).below R1 hb))
      cases hv1 : toksOk raw[k]
      · have HF := Lib.hid (subRes_bad (ready := ready) (fun h => by rw [args_bad hlt hv1] at h; exact absurd h.2.1 (by simp) : ¬ (macOk m = true ∧ argsOk m raw = true ∧ argsOk m ready = true)))
        rw [hv1] at HT1
        clear hv1 HA
        go_wp2_with (go_at_call 32; refine (HT1.out).mono ?_; rintro e w7 ⟨rfl, hb7⟩)
        go_ret2
        exact retSub_no HF.out (hBr.trans (hb7.mono hBr.size))
      · have HV1 := Lib.hid hv1
        rw [hv1] at HT1
        clear hv1
        go_wp2_with fail
        refine (HT1.out).mono ?_
        rintro e w7 ⟨rfl, hb7⟩
        replace q1 := (hb7.cell (p := ⟨b1, o1 + k, none⟩) (Nat.lt_of_lt_of_le l1 hb.size)).trans q1
        replace q2' := (hb7.cell (p := ⟨b2, o2 + k, none⟩) (Nat.lt_of_lt_of_le l2 hb.size)).trans q2'
        have hb77 := hb.trans (hb7.mono hb.size)
        have HT2 := Lib.hid (spec_TokensValid _ ready[k] f2' w7 ((sSlice sTok).below R2' hb77))
        have hB7 := hB6.trans (hb77.mono hB6.size)
        cases hv2 : toksOk ready[k]
        · have HF := Lib.hid (subRes_bad (raw := raw) (fun h => by rw [args_bad hlt2 hv2] at h; exact absurd h.2.2 (by simp) : ¬ (macOk m = true ∧ argsOk m raw = true ∧ argsOk m ready = true)))
          rw [hv2] at HT2
          clear hv2 HA
          go_wp2_with fail
          refine (HT2.out).mono ?_
          rintro e w8 ⟨rfl, hb8⟩
          go_wp2
          go_ret2
          exact retSub_no HF.out (hB7.trans (hb8.mono hB7.size))
        · have HV2 := Lib.hid hv2
          rw [hv2] at HT2
          clear hv2
          go_wp2_with (go_at_call 32; refine (HT2.out).mono ?_; rintro e w8 ⟨rfl, hb8⟩)
          have HN : Hid (∀ j, (hj : j < raw.length) → (hj2 : j < ready.length) → j < k + 1 → toksOk raw[j] = true ∧ toksOk ready[j] = true) := Lib.hid (fun j hj hj2 hjk => by
            rcases Nat.lt_succ_iff_lt_or_eq.1 hjk with h | rfl
            · exact HA.out j hj hj2 h
            · exact ⟨HV1.out, HV2.out⟩)
          go_roundw
          case rel => first | exact ⟨k + 1, by omega, by go_num, HN, hb77.trans (hb8.mono hb77.size)⟩ | ((repeat apply Exists.intro); exact ⟨⟨k + 1, by omega, by go_num, HN, hb77.trans (hb8.mono hb77.size)⟩, rfl⟩)
          case measure => simp [intOf]; omega
    · have HYr := Lib.hid (args_yes h1 fun j hj => (HA.out j hj (by omega) (by omega)).1)
      have HYy := Lib.hid (args_yes h2 fun j hj => (HA.out j (by omega) hj (by omega)).2)
      have HX8 := Lib.hid (mbox HX6.out hb)
      have HM8 := Lib.hid (sMacro.below HM6.out hb)
      have HR8 := Lib.hid ((sSlice (sSlice sTok)).below HRR.out hb)
      have HY8 := Lib.hid ((sSlice (sSlice sTok)).below HYY.out hb)
      have HBD := Lib.hid (spec_l10Body _ m _ _ _ raw ready _ _ wr HVD.out HYr.out HYy.out HM8.out HR8.out HY8.out)
      have p0 := cell_of_row wr (w.heap.size) 0 _ _ _ HX8.out
      have p1 := cell_of_row wr (w.heap.size) 1 _ _ _ HX8.out
      have p2 := cell_of_row wr (w.heap.size) 2 _ _ _ HX8.out
      have p3 := cell_of_row wr (w.heap.size) 3 _ _ _ HX8.out
      clear HA h1 h2
      go_wp2_with fail
      refine (HBD.out).mono ?_
      rintro e w9 ⟨v, L, rfl, RL, hmap, hlen, hsm, hb9⟩
      have hB9 := hBr.trans (hb9.mono hBr.size)
      obtain ⟨fpL, RF, -⟩ := RL.read
      obtain ⟨aL, cL, rfl, -⟩ := open_rows RF
      rw [hmap] at RF
      have hPlen : (subGo m raw ready 0 [] true false).1.length = L.length := by rw [← hmap, List.length_map]
      rcases hP : subGo m raw ready 0 [] true false with ⟨l, ok⟩
      rw [hP] at hmap hPlen RF
      dsimp only at hmap hPlen RF
      have HW := Lib.hid (spec_l1OwnTokenList_s _ l fpL w9 (by show l.length ≤ _; omega) (fun k hk => by
        have hk' : k < L.length := by rw [← hPlen]; exact hk
        have := hsm L[k] (List.getElem_mem hk')
        have e : (L.map (·.d))[k]'(by simpa using hk') = l[k] := List.getElem_of_eq hmap _
        rw [← e, List.getElem_map]; omega) RF)
      have e3 : (L.map (·.d)).length = l.length := by rw [hmap]
      rw [e3]
      cases ok
      · have HF := Lib.hid (subRes_no hP)
        clear HW
        go_wp2
        go_ret2
        exact retSub_no HF.out hB9
      · by_cases h9 : 240 < l.length
        · have HF := Lib.hid (subRes_long hP h9)
          clear HW
          go_wp2
          go_ret2
          exact retSub_no HF.out hB9
        · have HF := Lib.hid (subRes_yes ⟨HVD.out, HYr.out, HYy.out⟩ hP h9)
          have h9' : ¬ (240 : Int) < (l.length : Int) := by omega
          clear h9 hP hPlen hmap hsm hlen e3 RL RF HBD HYr HYy HX8 HM8 HR8 HY8 HVD p0 p1 p2 p3
          go_wp2_with fail
          refine (HW.out).mono ?_
          rintro e w10 ⟨v, fpo, rfl, RO, lo, -, hb10⟩
          go_wp2
          go_ret2
          exact ⟨v, fpo, by rw [HF.out]; rfl, by rw [HF.out]; exact RO, fun b hb => Nat.le_trans hB9.size (lo b hb), hB9.trans (hb10.mono hB9.size)⟩

end Go.Proofs.Ytflbdanlcpojbaa

/- Substitute of the program: what it asks beyond the contracts. Rows of the call's own whose elements' memory is its own, too. -/
namespace Go.Proofs.Ytflbdanlcpojbaa
open Go.RowKit

/-! ### Marks and parameters in a valid body -/
theorem hash_kind {t : Tok} (h : tokOk t = true) {r : List UInt8} (ht : t.text = ⟨(35 :: r).toArray⟩) : t.kind = 4 := by
  obtain ⟨⟨h0, hk⟩, -⟩ := tokOk_facts h
  have e0 : t.text[0] = 35 := by
    have : ∀ (s : ByteArray) (hs : 0 < s.size), s = ⟨(35 :: r).toArray⟩ → s[0] = 35 := by rintro s hs rfl; rfl
    exact this _ h0 ht
  rw [hk, e0]
  decide
theorem isM_is {t : Tok} (h : tokOk t = true) (r : List UInt8) : isM t (35 :: r) = (t.text.toList == 35 :: r) := by
  unfold isM
  cases e : (t.text.toList == 35 :: r)
  · rw [Bool.and_false]
  · rw [txt_dec] at e
    rw [hash_kind h (of_decide_eq_true e)]; rfl
theorem body_ok {m : DMacro} (h : macOk m = true) {k : Nat} (hk : k < m.body.length) : tokOk m.body[k] = true := (bodOk_facts hk ((macOk_facts h).2.2 k hk)).1
theorem body_isM {m : DMacro} (h : macOk m = true) {k : Nat} (hk : k < m.body.length) (r : List UInt8) : isM m.body[k] (35 :: r) = (m.body[k].text.toList == 35 :: r) := isM_is (body_ok h hk) r
/-- ## is not the last token. -/
theorem mark_in {m : DMacro} (h : macOk m = true) {k : Nat} (hk : k < m.body.length) (hi : isM m.body[k] [35, 35] = true) : k + 1 < m.body.length := by
  have hb := (macOk_facts h).2.2 k hk
  have ht : m.body[k].text = hash2 := isM_text hi
  unfold bodOk at hb
  rw [dif_pos hk, Bool.and_eq_true, Bool.and_eq_true] at hb
  have h2 := hb.1.2
  rw [ht, decide_eq_true rfl] at h2
  by_cases e : k + 1 = m.body.length
  · rw [decide_eq_true e] at h2; simp at h2
  · omega
/-- The place of a text among the parameters is the parameter's number. -/
theorem idx_par {ps : List ByteArray} {t : Tok} (hp : ∀ k, (hk : k < ps.length) → oneTok ps[k] 1 = true) (ht : tokOk t = true) (k : Nat) : idxTx ps t.text k = parFrom ps t k := by
  induction k using idxTx.induct (ps := ps) (x := t.text) with
  | case1 k h hc =>
    have h5 := ht
    unfold tokOk at h5
    rw [Bool.and_eq_true] at h5
    have hk : t.kind = 1 := one_kind h5.1 (by rw [hc]; exact hp k h)
    rw [idx_hit h hc, par_hit h hk hc.symm]
  | case2 k h hc ih =>
    rw [idx_miss h hc, ih, par_miss h fun e => hc e.2.symm]
  | case3 k h => rw [idx_end (by omega), par_end (by omega)]
theorem idx_body {m : DMacro} (h : macOk m = true) {k : Nat} (hk : k < m.body.length) : idxTx m.params m.body[k].text 0 = parOf m.params m.body[k] := idx_par (macOk_facts h).2.1 (body_ok h hk) 0
/-- Whether a token of a list is directly before or behind ##. -/
def besL (l : List Tok) (k : Nat) : Bool := if h : 0 < k ∧ k - 1 < l.length then (l[k - 1].text.toList == [35, 35]) else false
def besR (l : List Tok) (k : Nat) : Bool := if h : k + 1 < l.length then (l[k + 1].text.toList == [35, 35]) else false
theorem bes_glue {m : DMacro} (h : macOk m = true) (k : Nat) : (besL m.body k || besR m.body k) = (glueL m k || glueR m k) := by
  have e1 : besL m.body k = glueL m k := by
    unfold besL glueL
    by_cases hk : 0 < k ∧ k - 1 < m.body.length
    · rw [dif_pos hk, dif_pos hk, body_isM h hk.2]
    · rw [dif_neg hk, dif_neg hk]
  have e2 : besR m.body k = glueR m k := by
    unfold besR glueR
    by_cases hk : k + 1 < m.body.length
    · rw [dif_pos hk, dif_pos hk, body_isM h hk]
    · rw [dif_neg hk, dif_neg hk]
  rw [e1, e2]

/-! ### Rows that are the call's own, elements and all -/
theorem flat_more {α : Type} (A X : List (Elem α)) : (A ++ X).flatMap (·.fp) = A.flatMap (·.fp) ++ X.flatMap (·.fp) := List.flatMap_append
theorem own_grownN {w w' : World} {lo : Nat} {fp : List Nat} {o : Option Nat} (h : Own w lo fp) (hn : ∀ b ∈ fp, o ≠ some b) (hg : w.grownBy w' o) : Own w' lo fp :=
  ⟨h.1, fun b hb => by
    obtain ⟨q1, cur, e, q2⟩ := h.2 b hb
    exact ⟨q1, cur, e, (hg.block b (h.lt b hb) fun e => hn b hb e.symm).trans q2⟩⟩
theorem flats_sub {α : Type} {L M : List (Elem α)} (h : M.Sublist L) : (M.flatMap (·.fp)).Sublist (L.flatMap (·.fp)) := by
  induction h with
  | slnil => exact List.Sublist.refl _
  | cons a _ ih => rw [List.flatMap_cons]; exact ih.trans (List.sublist_append_right _ _)
  | cons_cons a _ ih => rw [List.flatMap_cons, List.flatMap_cons]; exact (List.Sublist.refl _).append ih
theorem grown_kept {w w' : World} {o : Option Nat} (hg : w.grownBy w' o) : Kept o.toList w w' := ⟨hg.os, hg.tape, hg.output, hg.size, fun k hk hn => hg.block k hk fun e => hn (by rw [← e]; simp)⟩

/-- A row of tokens of the call's own. -/
def MineN (l : List Tok) (w : World) (e : Ending) (w' : World) : Prop :=
  ∃ (v : Value) (L : List (Elem Tok)), e = .returned v ∧ RowN sTok w.heap.size 35 v L w' ∧ L.map (·.d) = l ∧ Own w' w.heap.size (L.flatMap (·.fp)) ∧ Below w.heap.size w w'

end Go.Proofs.Ytflbdanlcpojbaa

/- Dividing arguments: the model, and what the program does. No program. -/
namespace Go.Proofs.Ytflbdanlcpojbaa
open Go.RowKit
end Go.Proofs.Ytflbdanlcpojbaa

/- SplitArguments (spec). (Made by gen_spls.py.) -/
namespace Go.Proofs.Ytflbdanlcpojbaa
open Go.RowKit
theorem RowE.same2 {α : Type} {S : Shape α} {base : Nat} {e : TypeId} {v : Value} {L : List (Elem α)} {w w' : World} (h : RowE S base e v L w) (hv : ∀ g, v.ownBlock = some g → w'.heap[g]? = w.heap[g]?) (hb : ∀ x ∈ L, ∀ b ∈ x.fp, w'.heap[b]? = w.heap[b]?) : RowE S base e v L w' where
  row := ownsRow_same h.row hv
  len := h.len
  el := fun x hx => S.frame (fun b hb' => hb x hx b hb') (h.el x hx)
  lo := h.lo
  ty := fun x hx b hb' => by
    obtain ⟨cur, t, fr, h1, h2⟩ := h.ty x hx b hb'
    exact ⟨cur, t, fr, (hb x hx b hb').trans h1, h2⟩

/-- The state of l7Split: the arguments done, the one under way. -/
structure SplSt (B0 B1 : Nat) (va vm : Value) (A : List (Elem (List Tok))) (M : List (Elem Tok)) (w : World) : Prop where
  e : RowE sToks B0 24 va A w
  b : ∀ g, va.ownBlock = some g → B1 ≤ g
  g : ∃ top, RowG sTok top 35 vm M w ∧ B1 ≤ top ∧ top ≤ w.heap.size ∧ ∀ x ∈ A, ∀ b ∈ x.fp, b < top
  m : ∀ x ∈ M, ∀ b ∈ x.fp, B0 ≤ b ∧ b < B1
  t : ∀ x ∈ M, TokTy w x.fp
theorem SplSt.below {B0 B1 : Nat} {va vm : Value} {A : List (Elem (List Tok))} {M : List (Elem Tok)} {w w' : World} (h : SplSt B0 B1 va vm A M w) (hb : Below w.heap.size w w') : SplSt B0 B1 va vm A M w' := by
  obtain ⟨top, g1, g2, g3, g4⟩ := h.g
  exact ⟨h.e.below hb, h.b, ⟨top, g1.below hb, g2, Nat.le_trans g3 hb.size, g4⟩, h.m, fun x hx => (h.t x hx).below hb⟩
theorem SplSt.vals {B0 B1 : Nat} {va vm : Value} {A : List (Elem (List Tok))} {M : List (Elem Tok)} {w : World} (h : SplSt B0 B1 va vm A M w) : (∃ a c, va = .slice a A.length c) ∧ ∃ a c, vm = .slice a M.length c := by
  obtain ⟨a, c, h1, -⟩ := h.e.val
  obtain ⟨top, g1, -⟩ := h.g
  obtain ⟨a2, c2, h2, -⟩ := g1.val
  exact ⟨⟨a, c, h1⟩, a2, c2, h2⟩
theorem TokTy.rows {w : World} {fp : List Nat} (h : TokTy w fp) : ∀ b ∈ fp, ∃ cur t fr, w.heap[b]? = some (.cells cur t fr) ∧ t ≠ 24 := fun b hb => by
  obtain ⟨cur, t, fr, h1, h2⟩ := h b hb
  refine ⟨cur, t, fr, h1, ?_⟩
  rcases h2 with rfl | rfl <;> decide
/-- Behind a token's append. -/
theorem SplSt.grown {B0 B1 : Nat} {va vm vm' : Value} {A : List (Elem (List Tok))} {M M' : List (Elem Tok)} {w w' : World} (h : SplSt B0 B1 va vm A M w) {top : Nat} (g1 : RowG sTok top 35 vm M w) (g2 : B1 ≤ top) (g3 : top ≤ w.heap.size) (g4 : ∀ x ∈ A, ∀ b ∈ x.fp, b < top)
    (hG : RowG sTok top 35 vm' M' w') (hg : w.grownBy w' vm.ownBlock) (hm : ∀ x ∈ M', ∀ b ∈ x.fp, B0 ≤ b ∧ b < B1) (ht : ∀ x ∈ M', TokTy w x.fp) : SplSt B0 B1 va vm' A M' w' := by
  refine ⟨h.e.same2 (fun g hgg => ?_) (fun x hx b hb => ?_), h.b, ⟨top, hG, g2, Nat.le_trans g3 hg.size, g4⟩, hm, fun x hx => (ht x hx).same fun b hb hl => ?_⟩
  · refine hg.block g (h.e.row.lt g hgg).2 fun e => ?_
    rcases own_ne g1.row h.e.row (by decide) with h0 | h0
    · rw [h0] at e; cases e
    · exact h0 (by rw [hgg, ← e])
  · refine hg.block b (sToks.lt (h.e.el x hx) b hb) fun e => ?_
    have h1 := g4 x hx b hb
    have h2 := g1.mine b e.symm
    omega
  · refine hg.block b hl fun e => ?_
    have h1 := (hm x hx b hb).2
    have h2 := g1.mine b e.symm
    omega
/-- The argument is done; another begins. -/
theorem SplSt.next {B0 B1 : Nat} {va' : Value} {A' : List (Elem (List Tok))} {w' : World} (hE : RowE sToks B0 24 va' A' w') (hv : ∀ g, va'.ownBlock = some g → B1 ≤ g) (hB : B1 ≤ w'.heap.size) : SplSt B0 B1 va' (.slice (some ⟨w'.heap.size, 0, none⟩) 0 0) A' [] (w'.alloc (.cells #[] 35)) :=
  ⟨hE.below (alloc_below' _ _), hv, ⟨w'.heap.size, RowG.lit0 sTok 35 w', hB, by show _ ≤ (w'.heap.push _).size; simp, fun x hx b hb => sToks.lt (hE.el x hx) b hb⟩, by simp, by simp⟩

end Go.Proofs.Ytflbdanlcpojbaa

/- Of the program: brackets, the closing place, a token's copy. -/
namespace Go.Proofs.Ytflbdanlcpojbaa
open Go.RowKit
/-- A token's copy in memory of the call's own. -/
def CopyTok (x : Tok) (w : World) (e : Ending) (w' : World) : Prop :=
  ∃ (ao : Option Addr) (c : Nat) (fp : List Nat), e = .returned (.agg #[.int .i64 x.kind, .string x.text, .bool x.spaced, .slice ao x.hidden.length c]) ∧ sTok.R w' [.int .i64 x.kind, .string x.text, .bool x.spaced, .slice ao x.hidden.length c] x fp ∧
    Own w' w.heap.size fp ∧ (∀ b ∈ fp, ∃ cur t fr, w'.heap[b]? = some (.cells cur t fr) ∧ t = 9) ∧ Below w.heap.size w w'

set_option maxHeartbeats 4000000 in
set_option maxRecDepth 100000 in
theorem impl_copyToken (cs : List Value) (x : Tok) (fp : List Nat) (w : World) (hx : x.hidden.length ≤ 2000000) (H : sTok.R w cs x fp) : Calls Try.prog 80 #[.agg cs.toArray] w (CopyTok x w) := by
  obtain ⟨h, rfl, hk, hok, K⟩ := H
  obtain ⟨a0, cap0, rfl, -, -, -, hsz⟩ := open_strs K
  have b0 := alloc_below' w (.cells #[.int .i64 x.kind, .string x.text, .bool x.spaced, .slice a0 x.hidden.length cap0] 35)
  have hb2 := b0.trans ((alloc_below' (w.alloc (.cells #[.int .i64 x.kind, .string x.text, .bool x.spaced, .slice a0 x.hidden.length cap0] 35)) (.cells #[.int .i64 0, .string ⟨#[]⟩, .bool false, .slice none 0 0] 35)).mono b0.size)
  obtain ⟨g0, g1⟩ := alloc2_blk w #[.int .i64 x.kind, .string x.text, .bool x.spaced, .slice a0 x.hidden.length cap0] #[.int .i64 0, .string ⟨#[]⟩, .bool false, .slice none 0 0] 35 35
  have hs2 : ((w.alloc (.cells #[.int .i64 x.kind, .string x.text, .bool x.spaced, .slice a0 x.hidden.length cap0] 35)).alloc (.cells #[.int .i64 0, .string ⟨#[]⟩, .bool false, .slice none 0 0] 35)).heap.size = w.heap.size + 2 := by
    show ((w.heap.push _).push _).size = _
    simp
  have HK := Lib.hid ((sSlice sStr).below K hb2)
  have HSZ := Lib.hid hsz
  clear K hsz b0
  obtain ⟨hv, HV⟩ : ∃ hv : Value, Hid (hv = Value.slice a0 x.hidden.length cap0) := ⟨_, rfl⟩
  go_enter Try.func80, Try.ntmps80
  go_upto_region 2 with fail
  generalize ((w.alloc (.cells #[.int .i64 x.kind, .string x.text, .bool x.spaced, .slice a0 x.hidden.length cap0] 35)).alloc (.cells #[.int .i64 0, .string ⟨#[]⟩, .bool false, .slice none 0 0] 35)) = W3 at *
  have c03 : W3.cell? ⟨w.heap.size, 3, none⟩ = some hv := by
    rw [HV.out]
    exact cell_of_row _ _ 3 _ _ _ g0
  have HKV : Hid ((sSlice sStr).R W3 [hv] x.hidden fp) := by show (sSlice sStr).R _ _ _ _; rw [HV.out]; exact HK.out
  have HG := Lib.hid (And.intro g0 (And.intro g1 hs2))
  have hb4 := Lib.hid hb2
  clear g0 g1 hs2 HK hb2
  go_wp2_with (
    at_builtin
    refine wp_append_strsR rfl (.tmp 4) (.tmp 6) rfl W3.heap.size (.slice none 0 0) hv [] x.hidden _ rfl (World.ownsRow_nil _ _ _ _) rfl HKV.out (by simp; omega) (Nat.le_refl _) ?_
    intro v5 w1 hown hgrow
    rw [List.nil_append] at hown
    obtain ⟨fp1, R1, O1, hfp⟩ := own_flat (ok := okStr) hown HSZ.out
    have hs3 := HG.out.2.2
    have hblk : ∀ k, k < W3.heap.size → w1.heap[k]? = W3.heap[k]? := fun k hk => hgrow.block k hk (by simp [Value.ownBlock])
    have HG1 : Hid (w1.heap[w.heap.size]? = some (.cells #[.int .i64 x.kind, .string x.text, .bool x.spaced, .slice a0 x.hidden.length cap0] 35 (0, 0)) ∧ w1.heap[w.heap.size + 1]? = some (.cells #[.int .i64 0, .string ⟨#[]⟩, .bool false, .slice none 0 0] 35 (0, 0))) :=
      ⟨(hblk _ (by omega)).trans HG.out.1, (hblk _ (by omega)).trans HG.out.2.1⟩
    have hb : Below w.heap.size w w1 := hb4.out.grown hgrow (by omega) (fun b hb => by simp [Value.ownBlock] at hb)
    have hty : ∀ b ∈ fp1, ∃ cur t fr, w1.heap[b]? = some (.cells cur t fr) ∧ t = 9 := fun b hb' => by
      have hv := hfp b hb'
      rcases hown.2 with ⟨rfl, _⟩ | ⟨g, cap, cur, rfl, _, hg, _⟩
      · simp [Value.ownBlock] at hv
      · simp only [Value.ownBlock, Option.some.injEq] at hv
        subst hv
        exact ⟨_, _, _, hg, rfl⟩
    have hlo : ∀ b ∈ fp1, w.heap.size + 2 ≤ b := fun b hb => by have := (O1.2 b hb).1; omega
    have HOW : Hid (Own w1 w.heap.size fp1) := O1.lower (by omega)
    clear HG hblk hgrow hown hfp O1 c03 hb4 HKV hs3
    obtain ⟨a1, cap1, rfl, hq⟩ := open_rows R1
    clear hq
    have c10 : w1.cell? ⟨w.heap.size + 1, 0, none⟩ = some (.int .i64 0) := cell_of_row w1 (w.heap.size + 1) 0 _ _ _ HG1.out.2
    have c11 : w1.cell? ⟨w.heap.size + 1, 1, none⟩ = some (.string ⟨#[]⟩) := cell_of_row w1 (w.heap.size + 1) 1 _ _ _ HG1.out.2
    have c12 : w1.cell? ⟨w.heap.size + 1, 2, none⟩ = some (.bool false) := cell_of_row w1 (w.heap.size + 1) 2 _ _ _ HG1.out.2
    have c13 : w1.cell? ⟨w.heap.size + 1, 3, none⟩ = some (.slice none 0 0) := cell_of_row w1 (w.heap.size + 1) 3 _ _ _ HG1.out.2
    have c20 : w1.cell? ⟨w.heap.size, 0, none⟩ = some (.int .i64 x.kind) := cell_of_row w1 (w.heap.size) 0 _ _ _ HG1.out.1
    have c21 : w1.cell? ⟨w.heap.size, 1, none⟩ = some (.string x.text) := cell_of_row w1 (w.heap.size) 1 _ _ _ HG1.out.1
    have c22 : w1.cell? ⟨w.heap.size, 2, none⟩ = some (.bool x.spaced) := cell_of_row w1 (w.heap.size) 2 _ _ _ HG1.out.1
    have c23 : w1.cell? ⟨w.heap.size, 3, none⟩ = some (.slice a0 x.hidden.length cap0) := cell_of_row w1 (w.heap.size) 3 _ _ _ HG1.out.1
    have f10 : w1.frozen? ⟨w.heap.size + 1, 0, none⟩ = false := frozen_of_row w1 (w.heap.size + 1) 0 _ _ HG1.out.2
    have f11 : w1.frozen? ⟨w.heap.size + 1, 1, none⟩ = false := frozen_of_row w1 (w.heap.size + 1) 1 _ _ HG1.out.2
    have f12 : w1.frozen? ⟨w.heap.size + 1, 2, none⟩ = false := frozen_of_row w1 (w.heap.size + 1) 2 _ _ HG1.out.2
    have f13 : w1.frozen? ⟨w.heap.size + 1, 3, none⟩ = false := frozen_of_row w1 (w.heap.size + 1) 3 _ _ HG1.out.2
    have f23 : w1.frozen? ⟨w.heap.size, 3, none⟩ = false := frozen_of_row w1 (w.heap.size) 3 _ _ HG1.out.1
    have hn1 : w.heap.size + 1 ∉ fp1 := fun hx => by have := hlo _ hx; omega
    have hn2 : w.heap.size ∉ fp1 := fun hx => by have := hlo _ hx; omega
    have HR := Lib.hid ((sSlice sStr).setB ((sSlice sStr).setB ((sSlice sStr).setB ((sSlice sStr).setB ((sSlice sStr).setB R1 hn2 3 (.slice a1 x.hidden.length cap1)) hn1 0 (.int .i64 x.kind)) hn1 1 (.string x.text)) hn1 2 (.bool x.spaced)) hn1 3 (.slice a1 x.hidden.length cap1))
    have HOF := Lib.hid (((((HOW.out.setCell ⟨w.heap.size, 3, none⟩ (.slice a1 x.hidden.length cap1)).setCell ⟨w.heap.size + 1, 0, none⟩ (.int .i64 x.kind)).setCell ⟨w.heap.size + 1, 1, none⟩ (.string x.text)).setCell ⟨w.heap.size + 1, 2, none⟩ (.bool x.spaced)).setCell ⟨w.heap.size + 1, 3, none⟩ (.slice a1 x.hidden.length cap1))
    have HT : Hid (∀ b ∈ fp1, ∃ cur t fr, (((((w1.setCell ⟨w.heap.size, 3, none⟩ (.slice a1 x.hidden.length cap1)).setCell ⟨w.heap.size + 1, 0, none⟩ (.int .i64 x.kind)).setCell ⟨w.heap.size + 1, 1, none⟩ (.string x.text)).setCell ⟨w.heap.size + 1, 2, none⟩ (.bool x.spaced)).setCell ⟨w.heap.size + 1, 3, none⟩ (.slice a1 x.hidden.length cap1)).heap[b]? = some (.cells cur t fr) ∧ t = 9) := fun b hb => by
      obtain ⟨cur, t, fr, q1, q2⟩ := hty b hb
      have e1 : b ≠ w.heap.size + 1 := fun e => hn1 (e ▸ hb)
      have e2 : b ≠ w.heap.size := fun e => hn2 (e ▸ hb)
      exact ⟨cur, t, fr, blk_other (blk_other (blk_other (blk_other (blk_other q1 e2 _ _) e1 _ _) e1 _ _) e1 _ _) e1 _ _, q2⟩
    have HB := Lib.hid (((((hb.setCell (p := ⟨w.heap.size, 3, none⟩) (by simp) (.slice a1 x.hidden.length cap1)).setCell (p := ⟨w.heap.size + 1, 0, none⟩) (by simp) (.int .i64 x.kind)).setCell (p := ⟨w.heap.size + 1, 1, none⟩) (by simp) (.string x.text)).setCell (p := ⟨w.heap.size + 1, 2, none⟩) (by simp) (.bool x.spaced)).setCell (p := ⟨w.heap.size + 1, 3, none⟩) (by simp) (.slice a1 x.hidden.length cap1))
    have HS := Lib.hid (blk_set (blk_set (blk_set (blk_set (blk_other HG1.out.2 (by omega : w.heap.size + 1 ≠ w.heap.size) 3 (.slice a1 x.hidden.length cap1)) 0 (.int .i64 x.kind)) 1 (.string x.text)) 2 (.bool x.spaced)) 3 (.slice a1 x.hidden.length cap1))
    clear HG1 hty hlo HOW)
  refine bodyPost_ret (results_cell_row rfl _ _ (w.heap.size + 1) _ _ _ _ rfl HS.out Try.underlying35 rfl (by kernel_rfl)) rfl ?_
  exact ⟨a1, cap1, fp1, rfl, ⟨_, rfl, hk, hok, HR.out⟩, HOF.out, HT.out, HB.out⟩

end Go.Proofs.Ytflbdanlcpojbaa

/- Of the program: argumentsValid, besidePaste, spacedAs. -/
namespace Go.Proofs.Ytflbdanlcpojbaa
open Go.RowKit

set_option maxHeartbeats 4000000 in
set_option maxRecDepth 100000 in
theorem impl_argumentsValid (csM : List Value) (m : DMacro) (fpM : List Nat) (v : Value) (a : List (List Tok)) (fp : List Nat) (w : World) (HM : sMacro.R w csM m fpM) (H : (sSlice (sSlice sTok)).R w [v] a fp) :
    Calls Try.prog 26 #[.agg csM.toArray, v] w (Says (argsOk m a) w) := by
  obtain ⟨h2, h3, q2, q3, rfl, -, K2, K3, -⟩ := HM
  obtain ⟨a2, c2, rfl, -⟩ := open_strs K2
  obtain ⟨a3, c3, rfl, -⟩ := open_rows K3
  obtain ⟨aa, ca, rfl, hca, hma, hrow⟩ := open_rows H
  unfold maxLen at hma
  have b0 := alloc_below' w (.cells #[.string m.name, .bool m.function, .slice a2 m.params.length c2, .slice a3 m.body.length c3] 26)
  have HX := Lib.hid (heap_alloc_new w (.cells #[.string m.name, .bool m.function, .slice a2 m.params.length c2, .slice a3 m.body.length c3] 26))
  have HA := Lib.hid ((sSlice (sSlice sTok)).below H b0)
  clear K2 K3 H
  go_enter Try.func26, Try.ntmps26
  go_upto_region 1 with fail
  generalize (w.alloc (.cells #[.string m.name, .bool m.function, .slice a2 m.params.length c2, .slice a3 m.body.length c3] 26)) = W1 at *
  have p2 := cell_of_row W1 (w.heap.size) 2 _ _ _ HX.out
  by_cases h1 : a.length = m.params.length
  rotate_left
  · have HF := Lib.hid (args_len h1)
    have e1 : ((a.length : Int) != (m.params.length : Int)) = true := by simp; omega
    clear h1
    go_wp2
    go_ret
    exact ⟨ret_bool HF.out.symm, b0⟩
  have e1 : ((a.length : Int) != (m.params.length : Int)) = false := by simp; omega
  have H1 := Lib.hid h1
  clear h1
  go_wp2
  clear p2 e1
  go_loopw [15] (fun i wr => ∃ k : Nat, k ≤ a.length ∧ i = .int .i64 k ∧ Hid (∀ j, (hj : j < a.length) → j < k → toksOk a[j] = true) ∧ Below W1.heap.size W1 wr) (fun i _ => a.length - (intOf i).toNat)
  case atStart => exact ⟨0, by omega, rfl, Lib.hid (fun j _ h => absurd h (by omega)), Below.refl _ _⟩
  case round =>
    obtain ⟨k, hk, rfl, HV, hb⟩ := hrel
    have hBr := b0.trans (hb.mono b0.size)
    by_cases hlt : k < a.length
    · obtain ⟨b1, o1, -, rfl, -, -, -⟩ := hrow (by omega)
      obtain ⟨aj, cj, f1, q1, R1, l1, -⟩ := rows_at HA.out hlt
      replace q1 := (hb.cell (p := ⟨b1, o1 + k, none⟩) l1).trans q1
      have HT := Lib.hid (impl_TokensValid _ a[k] f1 wr ((sSlice sTok).below R1 hb))
      clear R1 hrow
      cases hv : toksOk a[k]
      · have HF := Lib.hid (args_bad (m := m) hlt hv)
        rw [hv] at HT
        clear hv HV
        go_wp2_with (go_at_call 54; refine (HT.out).mono ?_; rintro e w7 ⟨rfl, hb7⟩)
        go_ret
        exact ⟨ret_bool HF.out.symm, hBr.trans (hb7.mono hBr.size)⟩
      · have HV1 := Lib.hid hv
        rw [hv] at HT
        clear hv
        have HN : Hid (∀ j, (hj : j < a.length) → j < k + 1 → toksOk a[j] = true) := Lib.hid (fun j hj hjk => by
          rcases Nat.lt_succ_iff_lt_or_eq.1 hjk with h | rfl
          · exact HV.out j hj h
          · exact HV1.out)
        go_wp2_with (go_at_call 54; refine (HT.out).mono ?_; rintro e w7 ⟨rfl, hb7⟩)
        go_roundw
        case rel => exact ⟨k + 1, by omega, by go_num, HN, hb.trans (hb7.mono hb.size)⟩
        case measure => simp [intOf]; omega
    · have HF := Lib.hid (args_yes H1.out fun j hj => HV.out j hj (by omega))
      go_wp2
      go_ret
      exact ⟨ret_bool HF.out.symm, hBr⟩

set_option maxHeartbeats 4000000 in
set_option maxRecDepth 100000 in
theorem impl_besidePaste (v : Value) (l : List Tok) (fp : List Nat) (k : Nat) (w : World) (hl : l.length ≤ 1000000) (hk : k < l.length) (H : (sSlice sTok).R w [v] l fp) :
    Calls Try.prog 58 #[v, .int .i64 k] w fun e w' => e = .returned (.bool (besL l k || besR l k)) ∧ w' = w := by
  obtain ⟨a, cap, rfl, hc, hm, hrow⟩ := open_rows H
  obtain ⟨bb, ob, -, rfl, -, -, -⟩ := hrow (by omega)
  unfold maxLen at hm
  have HK := Lib.hid H
  clear H hrow
  obtain ⟨r, HR⟩ : ∃ r, Hid (r = (besL l k || besR l k)) := ⟨_, Lib.hid rfl⟩
  rw [← HR.out]
  have i1 : (0 : Int) ≤ (k : Int) + 1 := by omega
  have i2 : ((k : Int) + 1).toNat = k + 1 := by omega
  have i3 : IntKind.i64.wrap ((k : Int) + 1) = (k : Int) + 1 := IntWalk.i64_in _ (by omega)
  have HRR : Hid (∀ hk2 : k + 1 < l.length, besR l k = (l[k + 1].text.toList == [35, 35])) := fun hk2 => by unfold besR; rw [dif_pos hk2]
  have HRN : Hid (¬ k + 1 < l.length → besR l k = false) := fun hk2 => by unfold besR; rw [dif_neg hk2]
  go_enter Try.func58, Try.ntmps58
  by_cases hk0 : 0 < k
  · have j0 : (0 : Int) < (k : Int) := by omega
    have j1 : IntKind.i64.wrap ((k : Int) - 1) = (k : Int) - 1 := IntWalk.i64_in _ (by omega)
    have j2 : (0 : Int) ≤ (k : Int) - 1 := by omega
    have j3 : (k : Int) - 1 < (l.length : Int) := by omega
    have j4 : ((k : Int) - 1).toNat = k - 1 := by omega
    have j5 : (1 : Int) ≤ (k : Int) := by omega
    obtain ⟨xa, xc, xf, -, x1, -, -, -, -, -⟩ := tok_at HK.out (j := k - 1) (by omega)
    have HL : Hid (besL l k = ((l[k - 1]'(by omega)).text.toList == [35, 35])) := by show _ = _; unfold besL; rw [dif_pos ⟨hk0, by omega⟩]
    generalize (l[k - 1]'(by omega)).text = tx at *
    cases hg : (tx.toList == [35, 35])
    · by_cases hk2 : k + 1 < l.length
      · obtain ⟨ya, yc, yf, -, y1, -, -, -, -, -⟩ := tok_at HK.out (j := k + 1) hk2
        have HF : Hid (r = (l[k + 1].text.toList == [35, 35])) := by show _ = _; rw [HR.out, HL.out, hg, HRR.out hk2]; rfl
        have j6 : (k : Int) + 1 < (l.length : Int) := by omega
        go_wp2
        go_ret
        exact ⟨by rw [HF.out]; rfl, by trivial⟩
      · have HF : Hid (r = false) := by show _ = _; rw [HR.out, HL.out, hg, HRN.out hk2]; rfl
        have j6 : ¬ (k : Int) + 1 < (l.length : Int) := by omega
        go_wp2
        go_ret
        exact ⟨by rw [HF.out]; rfl, by trivial⟩
    · have HF : Hid (r = true) := by show _ = _; rw [HR.out, HL.out, hg]; rfl
      go_wp2
      go_ret
      exact ⟨by rw [HF.out]; rfl, by trivial⟩
  · have j0 : ¬ (0 : Int) < (k : Int) := by omega
    have HL : Hid (besL l k = false) := by show _ = _; unfold besL; rw [dif_neg (fun h => hk0 h.1)]
    by_cases hk2 : k + 1 < l.length
    · obtain ⟨ya, yc, yf, -, y1, -, -, -, -, -⟩ := tok_at HK.out (j := k + 1) hk2
      have HF : Hid (r = (l[k + 1].text.toList == [35, 35])) := by show _ = _; rw [HR.out, HL.out, HRR.out hk2]; rfl
      have j6 : (k : Int) + 1 < (l.length : Int) := by omega
      go_wp2
      go_ret
      exact ⟨by rw [HF.out]; rfl, by trivial⟩
    · have HF : Hid (r = false) := by show _ = _; rw [HR.out, HL.out, HRN.out hk2]; rfl
      have j6 : ¬ (k : Int) + 1 < (l.length : Int) := by omega
      go_wp2
      go_ret
      exact ⟨by rw [HF.out]; rfl, by trivial⟩

set_option maxHeartbeats 8000000 in
set_option maxRecDepth 100000 in
theorem impl_spacedAs (ct : List Value) (t : Tok) (fpt : List Nat) (v : Value) (l : List Tok) (fp : List Nat) (w : World) (hl : l.length ≤ 1000000) (hh : ∀ k, (hk : k < l.length) → l[k].hidden.length ≤ 2000000) (HT : sTok.R w ct t fpt) (H : (sSlice sTok).R w [v] l fp) :
    Calls Try.prog 57 #[.agg ct.toArray, v] w (MineN (spc t.spaced l) w) := by
  obtain ⟨ht, rfl, -, -, KT⟩ := HT
  obtain ⟨at_, ct_, rfl, -⟩ := open_strs KT
  clear KT
  obtain ⟨a, cap, rfl, hc, hm, hrow⟩ := open_rows H
  unfold maxLen at hm
  have b0 := alloc_below' w (.cells #[.int .i64 t.kind, .string t.text, .bool t.spaced, .slice at_ t.hidden.length ct_] 35)
  have HX := Lib.hid (heap_alloc_new w (.cells #[.int .i64 t.kind, .string t.text, .bool t.spaced, .slice at_ t.hidden.length ct_] 35))
  have HK := Lib.hid ((sSlice sTok).below H b0)
  have HH := Lib.hid hh
  clear H hh
  go_enter Try.func57, Try.ntmps57
  go_upto_region 1 with fail
  generalize (w.alloc (.cells #[.int .i64 t.kind, .string t.text, .bool t.spaced, .slice at_ t.hidden.length ct_] 35)) = W1 at *
  have hsw : w.heap.size < W1.heap.size := mlt HX.out
  go_wp2
  go_loopw [5, 10] (fun vo i wr => ∃ (k : Nat) (L : List (Elem Tok)), k ≤ l.length ∧ i = .int .i64 k ∧ Hid (L.map (·.d) = l.take k) ∧ Hid (RowN sTok W1.heap.size 35 vo L wr) ∧ Hid (Own wr W1.heap.size (L.flatMap (·.fp))) ∧ Below W1.heap.size W1 wr) (fun _ i _ => l.length - (intOf i).toNat)
  case atStart => exact ⟨0, [], by omega, rfl, rfl, RowN.nil _ _ _ _, Own.nil _ _, Below.refl _ _⟩
  case round =>
    obtain ⟨k, L, hk, rfl, HD, HR, HO, hb⟩ := hrel
    have hLk : L.length = k := by have := congrArg List.length HD.out; rw [List.length_map, List.length_take] at this; omega
    have HLK := Lib.hid hLk
    obtain ⟨ao, co, hvo, -⟩ := HR.out.val
    rw [hLk] at hvo
    subst hvo
    clear hLk
    by_cases hlt : k < l.length
    · obtain ⟨b1, o1, -, rfl, -, -, -⟩ := hrow (by omega)
      obtain ⟨xa, xc, xf, x0, x1, x2, x3, xR, hbb, -⟩ := tok_at HK.out hlt
      replace x0 := (hb.cell (p := ⟨b1, o1 + k * 4, none⟩) hbb).trans x0
      replace x1 := (hb.cell (p := ⟨b1, o1 + k * 4 + 1, none⟩) hbb).trans x1
      replace x2 := (hb.cell (p := ⟨b1, o1 + k * 4 + 2, none⟩) hbb).trans x2
      replace x3 := (hb.cell (p := ⟨b1, o1 + k * 4 + 3, none⟩) hbb).trans x3
      have XR := Lib.hid (sTok.below xR hb)
      have bx := alloc_below' wr (.cells #[.int .i64 l[k].kind, .string l[k].text, .bool l[k].spaced, .slice xa l[k].hidden.length xc] 35)
      have HX2 := Lib.hid (heap_alloc_new wr (.cells #[.int .i64 l[k].kind, .string l[k].text, .bool l[k].spaced, .slice xa l[k].hidden.length xc] 35))
      clear xR hrow
      go_upto_region 5 with fail
      clear x0 x1 x2 x3
      generalize (wr.alloc (.cells #[.int .i64 l[k].kind, .string l[k].text, .bool l[k].spaced, .slice xa l[k].hidden.length xc] 35)) = W2 at *
      have p0 := cell_of_row W2 (wr.heap.size) 0 _ _ _ HX2.out
      have p1 := cell_of_row W2 (wr.heap.size) 1 _ _ _ HX2.out
      have p2 := cell_of_row W2 (wr.heap.size) 2 _ _ _ HX2.out
      have p3 := cell_of_row W2 (wr.heap.size) 3 _ _ _ HX2.out
      have HC := Lib.hid (impl_copyToken _ l[k] _ W2 (HH.out k hlt) (sTok.below XR.out bx))
      have hrl : wr.heap.size ≤ W2.heap.size := bx.size
      go_wp2_with fail
      refine (HC.out).mono ?_
      rintro e w3 ⟨a3, c3, f3, rfl, R3, O3, -, hb3⟩
      clear p0 p1 p2 p3 HC
      have hb23 := bx.trans (hb3.mono bx.size)
      have hW3 := hb23.size
      have hW1 := hb.size
      have hb13 := hb.trans (hb23.mono hb.size)
      have bl := alloc_below' w3 (.cells #[.int .i64 l[k].kind, .string l[k].text, .bool l[k].spaced, .slice a3 l[k].hidden.length c3] 35)
      have HL4 := Lib.hid (heap_alloc_new w3 (.cells #[.int .i64 l[k].kind, .string l[k].text, .bool l[k].spaced, .slice a3 l[k].hidden.length c3] 35))
      have HR4 := Lib.hid ((HR.out.below hb23).below bl)
      have HO4 := Lib.hid ((HO.out.grow hb23).grow bl)
      have RX := Lib.hid (sTok.below R3 bl)
      have OX := Lib.hid (O3.grow bl)
      have hb14 := hb13.trans (bl.mono hb13.size)
      have HLO := Lib.hid (fun b hb => HO.out.lt b hb)
      have HMI := Lib.hid HR.out.mine
      have HXN : Hid (∀ b ∈ f3, (Value.slice ao k co).ownBlock ≠ some b) := fun b hb h => by
        have h1 := (HMI.out b h).2
        have h2 := (O3.2 b hb).1
        omega
      clear R3 O3 HR HO bx hb3 XR HX2 hb23 hb
      go_wp2_with (at_builtin; refine wp_append_rowN (X := [(⟨[.int .i64 l[k].kind, .string l[k].text, .bool l[k].spaced, .slice a3 l[k].hidden.length c3], l[k], f3⟩ : Elem Tok)]) ti_tok rfl (by decide) _ rfl (.tmp 14) (.tmp 17) rfl W1.heap.size (.slice ao k co) rfl HR4.out ⟨w3.heap.size, 0, none⟩ 1 1 rfl rfl (fun x hx => by obtain rfl := List.mem_singleton.1 hx; exact ⟨rfl, RX.out, HXN.out⟩) (fun x hx => by obtain rfl := List.mem_singleton.1 hx; exact tok_one1 _ _ _ _ RX.out) (fun j u hj => by rw [addr_add, Nat.zero_add, cell_of_row _ _ _ _ _ _ HL4.out]; simpa using hj) (by have := HLK.out; unfold maxLen; omega) (by have := HLK.out; omega) hb14.size ?_; intro v5 w5 hR5 hg5 hp5)
      have hb5 : Below W1.heap.size W1 w5 := hb14.grown hg5 hb14.size (fun b hb => (HMI.out b hb).1)
      have HO5 : Hid (Own w5 W1.heap.size ((L ++ [(⟨[.int .i64 l[k].kind, .string l[k].text, .bool l[k].spaced, .slice a3 l[k].hidden.length c3], l[k], f3⟩ : Elem Tok)]).flatMap (·.fp))) := by
        show Own _ _ _
        rw [flat_more]
        have e1 : ([(⟨[.int .i64 l[k].kind, .string l[k].text, .bool l[k].spaced, .slice a3 l[k].hidden.length c3], l[k], f3⟩ : Elem Tok)]).flatMap (·.fp) = f3 := by simp
        rw [e1]
        refine own_grownN (HO4.out.app (OX.out.lower (by omega)) fun b hb hx => ?_) (fun b hb => ?_) hg5
        · have h1 := HLO.out b hb
          have h2 := (OX.out.2 b hx).1
          omega
        · rcases List.mem_append.1 hb with hb | hb
          · obtain ⟨x, hx, hb'⟩ := List.mem_flatMap.1 hb
            exact HR4.out.ap x hx b hb'
          · exact HXN.out b hb
      have HD5 : Hid ((L ++ [(⟨[.int .i64 l[k].kind, .string l[k].text, .bool l[k].spaced, .slice a3 l[k].hidden.length c3], l[k], f3⟩ : Elem Tok)]).map (·.d) = l.take (k + 1)) := by
        show _ = _
        rw [List.map_append, HD.out, List.take_succ_eq_append_getElem hlt]; rfl
      have HR5 := Lib.hid hR5
      clear hR5 hg5 hp5
      go_wp2
      go_roundw
      case rel => exact ⟨k + 1, _, by omega, by go_num, HD5, HR5, HO5, hb5⟩
      case measure => simp [intOf]; omega
    · have hkl : k = l.length := by omega
      have HXr := Lib.hid (mbox HX.out hb)
      have hbw := b0.trans (hb.mono b0.size)
      have HDL : Hid (L.map (·.d) = l) := by show _ = _; rw [HD.out, List.take_of_length_le (by omega)]
      have HRW := Lib.hid (HR.out.lower (base' := w.heap.size) b0.size)
      have HOW := Lib.hid (HO.out.lower (lo' := w.heap.size) b0.size)
      have p2 := cell_of_row wr (w.heap.size) 2 _ _ _ HXr.out
      clear HD HR HO hkl
      by_cases h0 : k = 0
      · have HF : Hid (L.map (·.d) = spc t.spaced l) := by
          show _ = _
          have hl0 : l = [] := List.length_eq_zero_iff.1 (by have := congrArg List.length HDL.out; rw [List.length_map] at this; have := HLK.out; omega)
          rw [HDL.out, hl0]; rfl
        have e0 : ¬ (0 : Int) < (k : Int) := by omega
        clear h0
        go_wp2
        go_ret
        refine ⟨_, L, rfl, ?_, HF.out, HOW.out, hbw⟩
        exact HRW.out
      · obtain ⟨x, X', rfl⟩ : ∃ x X', L = x :: X' := by
          cases L with
          | nil => exact absurd HLK.out.symm h0
          | cons x X' => exact ⟨x, X', rfl⟩
        obtain ⟨g, hg1, hg2, hg3⟩ : ∃ g, ao = some ⟨g, 0, none⟩ ∧ w.heap.size ≤ g ∧ g < wr.heap.size := by
          obtain ⟨a9, c9, e, -, -, h⟩ := HRW.out.val
          simp only [Value.slice.injEq] at e
          obtain ⟨rfl, -, -⟩ := e
          exact h (by simp)
        subst hg1
        obtain ⟨hx, hcs, okk, oks, K⟩ := HRW.out.el x (by simp)
        obtain ⟨ah, ch, rfl, -⟩ := open_strs K
        have hgx : g ∉ x.fp := fun hx => HRW.out.ap x (by simp) g hx rfl
        have HR2 := HRW.out
        have c2 : wr.cell? ⟨g, 2, none⟩ = some (.bool x.d.spaced) := by
          have := HR2.cellAt (k := 0) (by simp) (j := 2) (by decide) (u := .bool x.d.spaced) (by show x.cells[2]? = _; rw [hcs]; rfl)
          simpa using this
        have f2 : wr.frozen? ⟨g, 2, none⟩ = false := HR2.frozen 2
        have HS : Hid (RowN sTok w.heap.size 35 (.slice (some ⟨g, 0, none⟩) k co) (⟨[.int .i64 x.d.kind, .string x.d.text, .bool t.spaced, .slice ah x.d.hidden.length ch], ⟨x.d.kind, x.d.text, t.spaced, x.d.hidden⟩, x.fp⟩ :: X') (wr.setCell ⟨g, 2, none⟩ (.bool t.spaced))) := by
          show RowN _ _ _ _ _ _
          have := HR2.set (k := 0) (by simp) (j := 2) (by decide) (.bool t.spaced) ⟨[.int .i64 x.d.kind, .string x.d.text, .bool t.spaced, .slice ah x.d.hidden.length ch], ⟨x.d.kind, x.d.text, t.spaced, x.d.hidden⟩, x.fp⟩ (by show _ = x.cells.set 2 _; rw [hcs]; rfl) ⟨_, rfl, okk, oks, K⟩ hgx
          simpa using this
        have HF : Hid (((⟨[.int .i64 x.d.kind, .string x.d.text, .bool t.spaced, .slice ah x.d.hidden.length ch], ⟨x.d.kind, x.d.text, t.spaced, x.d.hidden⟩, x.fp⟩ : Elem Tok) :: X').map (·.d) = spc t.spaced l) := by
          show _ = _; rw [← HDL.out]; rfl
        have HOS : Hid (Own (wr.setCell ⟨g, 2, none⟩ (.bool t.spaced)) w.heap.size (((⟨[.int .i64 x.d.kind, .string x.d.text, .bool t.spaced, .slice ah x.d.hidden.length ch], ⟨x.d.kind, x.d.text, t.spaced, x.d.hidden⟩, x.fp⟩ : Elem Tok) :: X').flatMap (·.fp))) := HOW.out.setCell ⟨g, 2, none⟩ (.bool t.spaced)
        have hb2 := hbw.setCell (p := ⟨g, 2, none⟩) hg2 (.bool t.spaced)
        have e0 : (0 : Int) < (k : Int) := by omega
        have e1 : 0 < k := by omega
        clear K hcs HR2 HRW h0 hg2 hg3
        go_wp2
        go_ret
        exact ⟨_, _, rfl, HS.out, HF.out, HOS.out, hb2⟩

end Go.Proofs.Ytflbdanlcpojbaa

/- strings.Builder at this program, walked here: what its writers leave. (The library's own contracts don't fit this translation: a builder's copy check ends otherwise.) -/
namespace Go.Proofs.Ytflbdanlcpojbaa
open Go.RowKit

abbrev BldAt (B b : Nat) (p : Value) (bs : List Value) (w : World) : Prop := Lib.BuilderAtF 103 5 B b p bs w
abbrev IsBld (B b : Nat) (bs : List Value) (w : World) : Prop := Lib.IsBuilderF 103 5 B b bs w
/-- A builder that has been written to; nothing else has turned. -/
def BldTo (B b : Nat) (bs : List Value) (w w' : World) : Prop :=
  BldAt B b (.pointer (some ⟨b, 0, none⟩)) bs w' ∧ Below B w w' ∧ Lib.OthersKept 5 (some b) w w'

theorem bld_size : ∃ j, Try.prog.info? 103 = some j ∧ j.size = 2 := by
  have h : (Try.prog.info? 103).map (·.size) = some 2 := by kernel_rfl
  exact Option.map_eq_some_iff.1 h
theorem bld_lies : liesAt Try.prog Try.prog.depth 103 (2 / Try.prog.cellsOf 103) 0 103 1 = true := by kernel_rfl
theorem byte_info : ∃ i, Try.prog.info? 5 = some i ∧ i.zero = some (.int .u8 0) ∧ i.size = 1 ∧ i.bytes = 1 := by
  have h : (Try.prog.info? 5).map (fun i => (i.zero, i.size, i.bytes)) = some (some (.int .u8 0), 1, 1) := by kernel_rfl
  obtain ⟨i, h1, h2⟩ := Option.map_eq_some_iff.1 h
  simp only [Prod.mk.injEq] at h2
  exact ⟨i, h1, h2.1, h2.2.1, h2.2.2⟩

theorem ne_self (b : Nat) (w : World) : (binOp .neq 101 (.pointer (some ⟨b, 0, none⟩)) (.pointer (some ⟨b, 0, none⟩))).run Try.prog w = .ok (.bool false) w := by
  obtain ⟨j, hj, _⟩ := bld_size
  exact Lib.run_neq_ptr_same w _ Try.underlying101 hj
theorem to_unsafe (b : Nat) (w : World) (hsh : w.shape? b = some (103, 2)) : (convert 101 121 (.pointer (some ⟨b, 0, none⟩))).run Try.prog w = .ok (.pointer (some ⟨b, 0, none⟩)) w := by
  obtain ⟨j, hj, hjs⟩ := bld_size
  exact Lib.run_to_unsafe w ⟨b, 0, none⟩ Try.underlying101 Try.underlying121 hj (by rw [hjs]; decide) hsh (Nat.zero_lt_succ 1)
theorem from_unsafe (b : Nat) (w : World) (hsh : w.shape? b = some (103, 2)) : (convert 121 101 (.pointer (some ⟨b, 0, none⟩))).run Try.prog w = .ok (.pointer (some ⟨b, 0, none⟩)) w := by
  obtain ⟨j, hj, hjs⟩ := bld_size
  exact Lib.run_from_unsafe w ⟨b, 0, none⟩ Try.underlying121 Try.underlying101 hj hsh bld_lies
theorem no_escape (b : Nat) (w : World) : (callFunc 101 #[.pointer (some ⟨b, 0, none⟩)]).run Try.prog w = .ok (.value (.pointer (some ⟨b, 0, none⟩))) w := by
  rw [run_callFunc_extern Try.func101 (by kernel_rfl) (by kernel_rfl) (by kernel_rfl) (e := Extern.AbiNoEscape.same) (by kernel_rfl), Lib.run_noEscape]
  rfl

set_option maxHeartbeats 1000000 in
set_option maxRecDepth 100000 in
theorem check_used (b : Nat) (w : World) (h0 : w.cell? ⟨b, 0, none⟩ = some (.pointer (some ⟨b, 0, none⟩))) :
    Calls Try.prog 92 #[.pointer (some ⟨b, 0, none⟩)] w fun e w' => e = .returned (.tuple #[]) ∧ w' = w := by
  have r1 := ne_self b w
  go_enter Try.func92, Try.ntmps92
  go_wp2
  go_end0
  exact ⟨rfl, rfl⟩

set_option maxHeartbeats 1000000 in
set_option maxRecDepth 100000 in
theorem check_fresh (b : Nat) (w : World) (h0 : w.cell? ⟨b, 0, none⟩ = some (.pointer none)) (hsh : w.shape? b = some (103, 2)) (hfz : w.frozen? ⟨b, 0, none⟩ = false) :
    Calls Try.prog 92 #[.pointer (some ⟨b, 0, none⟩)] w fun e w' => e = .returned (.tuple #[]) ∧ w' = w.setCell ⟨b, 0, none⟩ (.pointer (some ⟨b, 0, none⟩)) := by
  have r1 := to_unsafe b w hsh
  have r2 := no_escape b w
  have r3 := from_unsafe b w hsh
  have c0 : (w.setCell ⟨b, 0, none⟩ (.pointer (some ⟨b, 0, none⟩))).cell? ⟨b, 0, none⟩ = some (.pointer (some ⟨b, 0, none⟩)) := World.cell?_setCell_same _ _ _ h0
  have r4 := ne_self b (w.setCell ⟨b, 0, none⟩ (.pointer (some ⟨b, 0, none⟩)))
  go_enter Try.func92, Try.ntmps92
  go_wp2
  go_end0
  exact ⟨rfl, rfl⟩

theorem bld_check (B b : Nat) (bs : List Value) (w : World) (h : IsBld B b bs w) :
    Calls Try.prog 92 #[.pointer (some ⟨b, 0, none⟩)] w fun e w' => e = .returned (.tuple #[]) ∧ BldTo B b bs w w' := by
  rcases h with h | h
  · refine (check_fresh b w h.cell0 h.shape h.frozen0).mono ?_
    rintro e w' ⟨rfl, rfl⟩
    exact ⟨rfl, h.used _, (Below.refl B w).setCell (p := ⟨b, 0, none⟩) h.1 _, (Lib.OthersKept.refl _ _ w).setCell ⟨b, 0, none⟩ rfl _⟩
  · refine (check_used b w h.cell0).mono ?_
    rintro e w' ⟨rfl, rfl⟩
    exact ⟨rfl, h, Below.refl B _, Lib.OthersKept.refl _ _ _⟩

set_option maxHeartbeats 2000000 in
set_option maxRecDepth 100000 in
theorem bld_byte (B b : Nat) (bs : List Value) (c : Int) (w : World) (h : IsBld B b bs w) (hlen : bs.length ≤ 1048576) (hBw : B ≤ w.heap.size) :
    Calls Try.prog 75 #[.pointer (some ⟨b, 0, none⟩), .int .u8 c] w fun e w' => e = .returned .nilIface ∧ BldTo B b (bs ++ [.int .u8 c]) w w' := by
  obtain ⟨i0, hi, hz0, hz1, hz2⟩ := byte_info
  go_enter Try.func75, Try.ntmps75
  go_wp2_with fail
  refine (bld_check B b bs _ h).mono ?_
  rintro e w1 ⟨rfl, ⟨hB, v, hbk, hown, hne⟩, hb1, hk1⟩
  have c0 : w1.cell? ⟨b, 0, none⟩ = some (.pointer (some ⟨b, 0, none⟩)) := by rw [Lib.cell_of_heap hbk]; rfl
  have c1 : w1.cell? ⟨b, 1, none⟩ = some v := by rw [Lib.cell_of_heap hbk]; rfl
  have hs1 := hb1.size
  go_wp2_with (at_builtin; refine wpList_append_ownF _ rfl _ _ 22 rfl B 5 i0 (.int .u8 0) 1 1 Try.underlying22 hi hz0 hz1 hz2 rfl (by decide) v bs.length bs rfl (hown.alloc _) ⟨w1.heap.size, 0, none⟩ 1 1 [.int .u8 c] rfl rfl ?c1 ?c2 ?c3 ?c4 ?c5 ?_)
  case c1 =>
    intro j u hj
    match j, hj with
    | 0, hj => simp at hj; subst hj; simp [Addr.add]
  case c2 => intro u hu; simp at hu; subst hu; rfl
  case c3 => unfold maxLen; omega
  case c4 => omega
  case c5 => simp; omega
  intro v' w2 hown' hgrow _
  have hlt : b < w1.heap.size := (Array.getElem?_eq_some_iff.1 hbk).1
  have hb2 : w2.heap[b]? = some (.cells #[.pointer (some ⟨b, 0, none⟩), v] 103 (0, 0)) := by
    rw [hgrow.block b (by simp; omega) (fun e => hne e.symm), Lib.alloc_old w1 _ b hlt]
    exact hbk
  have d0 : w2.cell? ⟨b, 0, none⟩ = some (.pointer (some ⟨b, 0, none⟩)) := by rw [Lib.cell_of_heap hb2]; rfl
  have d1 : w2.cell? ⟨b, 1, none⟩ = some v := by rw [Lib.cell_of_heap hb2]; rfl
  have f1 : w2.frozen? ⟨b, 1, none⟩ = false := Lib.frozen_of_heap hb2 1
  obtain ⟨g, cap, rfl⟩ : ∃ g cap, v' = .slice (some ⟨g, 0, none⟩) (bs.length + 1) cap := by
    rcases hown'.2 with ⟨_, h0⟩ | ⟨g, cap, cur, fz, hv, _⟩
    · omega
    · exact ⟨g, cap, hv⟩
  have HA : Hid (BldTo B b (bs ++ [.int .u8 c]) w (w2.setCell ⟨b, 1, none⟩ (.slice (some ⟨g, 0, none⟩) (bs.length + 1) cap))) := by
    refine ⟨Lib.BuilderAtF.put (T := 103) (e := 5) hB hb2 (bs' := bs ++ [.int .u8 c]) (by simpa using hown') (by decide), ?_, ((hk1.alloc _).grown hgrow (Lib.ownsRowF_kind (hown.alloc _))).setCell ⟨b, 1, none⟩ rfl _⟩
    exact ((hb1.alloc (by omega) _).grown hgrow (by simp; omega) (fun k hk => (hown.lt k hk).1)).setCell (p := ⟨b, 1, none⟩) hB _
  clear hown hown' hgrow hbk hb2 hb1 hk1
  go_wp2
  go_ret
  exact ⟨rfl, HA.out⟩

set_option maxHeartbeats 2000000 in
set_option maxRecDepth 100000 in
theorem bld_text (B b : Nat) (bs : List Value) (s : ByteArray) (w : World) (h : IsBld B b bs w) (hlen : bs.length + s.size ≤ 140737488355328) (hBw : B ≤ w.heap.size) :
    Calls Try.prog 76 #[.pointer (some ⟨b, 0, none⟩), .string s] w fun e w' => e = .returned (.tuple #[.int .i64 s.size, .nilIface]) ∧ BldTo B b (bs ++ Lib.strCells s) w w' := by
  obtain ⟨i0, hi, hz0, hz1, hz2⟩ := byte_info
  go_enter Try.func76, Try.ntmps76
  go_wp2_with fail
  refine (bld_check B b bs _ h).mono ?_
  rintro e w1 ⟨rfl, ⟨hB, v, hbk, hown, hne⟩, hb1, hk1⟩
  have c0 : w1.cell? ⟨b, 0, none⟩ = some (.pointer (some ⟨b, 0, none⟩)) := by rw [Lib.cell_of_heap hbk]; rfl
  have c1 : w1.cell? ⟨b, 1, none⟩ = some v := by rw [Lib.cell_of_heap hbk]; rfl
  have hs1 := hb1.size
  go_wp2_with (at_builtin; refine Lib.wpList_append_own_stringF _ rfl _ _ 22 9 rfl B 5 i0 Try.underlying22 Try.underlying9 hi hz0 hz1 hz2 v bs.length bs rfl hown s rfl ?c3 ?c4 ?c5 ?_)
  case c3 => unfold maxLen; omega
  case c4 => omega
  case c5 => omega
  intro v' w2 hown' hgrow _
  have hlt : b < w1.heap.size := (Array.getElem?_eq_some_iff.1 hbk).1
  have hb2 : w2.heap[b]? = some (.cells #[.pointer (some ⟨b, 0, none⟩), v] 103 (0, 0)) := by
    rw [hgrow.block b hlt (fun e => hne e.symm)]
    exact hbk
  have d0 : w2.cell? ⟨b, 0, none⟩ = some (.pointer (some ⟨b, 0, none⟩)) := by rw [Lib.cell_of_heap hb2]; rfl
  have d1 : w2.cell? ⟨b, 1, none⟩ = some v := by rw [Lib.cell_of_heap hb2]; rfl
  have f1 : w2.frozen? ⟨b, 1, none⟩ = false := Lib.frozen_of_heap hb2 1
  obtain ⟨ao, n', cap, rfl⟩ : ∃ ao n' cap, v' = .slice ao n' cap := by
    rcases hown'.2 with ⟨hv, _⟩ | ⟨g, cap, cur, fz, hv, _⟩
    · exact ⟨_, _, _, hv⟩
    · exact ⟨_, _, _, hv⟩
  have HA : Hid (BldTo B b (bs ++ Lib.strCells s) w (w2.setCell ⟨b, 1, none⟩ (.slice ao n' cap))) := by
    refine ⟨Lib.BuilderAtF.put (T := 103) (e := 5) hB hb2 (bs' := bs ++ Lib.strCells s) (by simpa [Lib.strCells_length] using hown') (by decide), ?_, (hk1.grown hgrow (Lib.ownsRowF_kind hown)).setCell ⟨b, 1, none⟩ rfl _⟩
    exact (hb1.grown hgrow (by omega) (fun k hk => (hown.lt k hk).1)).setCell (p := ⟨b, 1, none⟩) hB _
  clear hown hown' hgrow hbk hb2 hb1 hk1
  go_wp2
  go_ret2
  exact ⟨rfl, HA.out⟩

end Go.Proofs.Ytflbdanlcpojbaa

/- PrintTokens: the program. -/
namespace Go.Proofs.Ytflbdanlcpojbaa
open Go.RowKit

/-- A builder of the call's own (its block the first of them) that holds these bytes. -/
def Bld (b : Nat) (s : ByteArray) (w : World) : Prop := IsBld b b (Lib.strCells s) w
theorem BldAt.below {B b : Nat} {p : Value} {bs : List Value} {w w' : World} (h : BldAt B b p bs w) (hb : Below w.heap.size w w') : BldAt B b p bs w' := by
  have hlt := h.lt
  obtain ⟨hB, v, hbk, hown, hne⟩ := h
  refine ⟨hB, v, (hb.block b hlt).trans hbk, ⟨hown.1, ?_⟩, hne⟩
  rcases hown.2 with h0 | ⟨g, cap, cur, fz, h1, h2, h3, h4⟩
  · exact .inl h0
  · exact .inr ⟨g, cap, cur, fz, h1, h2, (hb.block g (Array.getElem?_eq_some_iff.1 h3).1).trans h3, h4⟩
theorem Bld.below {b : Nat} {s : ByteArray} {w w' : World} (h : Bld b s w) (hb : Below w.heap.size w w') : Bld b s w' := h.elim (fun h => .inl (BldAt.below h hb)) (fun h => .inr (BldAt.below h hb))
theorem Bld.fresh (w : World) : Bld w.heap.size ⟨#[]⟩ (w.alloc (.cells #[.pointer none, .slice none 0 0] 103)) :=
  .inl ⟨Nat.le_refl _, .slice none 0 0, heap_alloc_new w _, World.ownsRowF_nil _ _ _ _, by simp [Value.ownBlock]⟩
theorem Bld.lt {b : Nat} {s : ByteArray} {w : World} (h : Bld b s w) : b < w.heap.size := h.elim (fun h => h.lt) (fun h => h.lt)
theorem Bld.of {b : Nat} {bs : List Value} {s : ByteArray} {w w' : World} (h : BldTo b b bs w w') (e : bs = Lib.strCells s) : Bld b s w' := .inr (e ▸ h.1)
theorem strCells_snoc (s : ByteArray) : Lib.strCells s ++ [.int .u8 32] = Lib.strCells (s ++ ⟨#[32]⟩) := by
  unfold Lib.strCells; rw [ByteArray.data_append, Array.toList_append, List.map_append]; rfl
theorem strCells_app (s t : ByteArray) : Lib.strCells s ++ Lib.strCells t = Lib.strCells (s ++ t) := by
  unfold Lib.strCells; rw [ByteArray.data_append, Array.toList_append, List.map_append]
theorem bldByte {b : Nat} {s : ByteArray} {w : World} (h : Bld b s w) (hs : s.size ≤ 1048576) :
    Calls Try.prog 75 #[.pointer (some ⟨b, 0, none⟩), .int .u8 32] w fun e w' => e = .returned .nilIface ∧ Bld b (s ++ ⟨#[32]⟩) w' ∧ Below b w w' ∧ Lib.OthersKept 5 (some b) w w' :=
  (bld_byte b b _ 32 w h (by rw [Lib.strCells_length]; exact hs) (Nat.le_of_lt h.lt)).mono fun e w' ⟨h1, h2⟩ => ⟨h1, Bld.of h2 (strCells_snoc s), h2.2.1, h2.2.2⟩
theorem bldText {b : Nat} {s t : ByteArray} {w : World} (h : Bld b s w) (hs : s.size + t.size ≤ 1048576) :
    Calls Try.prog 76 #[.pointer (some ⟨b, 0, none⟩), .string t] w fun e w' => e = .returned (.tuple #[.int .i64 t.size, .nilIface]) ∧ Bld b (s ++ t) w' ∧ Below b w w' ∧ Lib.OthersKept 5 (some b) w w' :=
  (bld_text b b _ t w h (by rw [Lib.strCells_length]; omega) (Nat.le_of_lt h.lt)).mono fun e w' ⟨h1, h2⟩ => ⟨h1, Bld.of h2 (strCells_app s t), h2.2.1, h2.2.2⟩
theorem bldLen {b : Nat} {s : ByteArray} {w : World} (h : Bld b s w) :
    Calls Try.prog 78 #[.pointer (some ⟨b, 0, none⟩)] w fun e w' => e = .returned (.int .i64 s.size) ∧ w' = w := by
  have := Try.Builder_Len_f b b _ w h
  rw [Lib.strCells_length] at this
  exact this
theorem bldString {b : Nat} {s : ByteArray} {w : World} (h : Bld b s w) :
    Calls Try.prog 79 #[.pointer (some ⟨b, 0, none⟩)] w fun e w' => e = .returned (.string s) ∧ Below b w w' :=
  (Try.Builder_String_any_k b b s.data.toList w h (Nat.le_of_lt h.lt)).mono fun e w' ⟨h1, h2⟩ => ⟨h1, h2.2.1⟩
theorem kept_cell {b g : Nat} {arr : Array Value} {ty : TypeId} {fr : Nat × Nat} {w w' : World} (hk : Lib.OthersKept 5 (some b) w w') (h : w.heap[g]? = some (.cells arr ty fr)) (hg : g ≠ b) (hty : ty ≠ 5) : w'.heap[g]? = some (.cells arr ty fr) :=
  hk g _ h (fun e => hg (Option.some.inj e)) (fun c fz e => hty (by simp only [Obj.cells.injEq] at e; exact e.2.1))

end Go.Proofs.Ytflbdanlcpojbaa
