/- Texts that the proof of PUndefine stands on, in one file. -/
import Derived.Test.YthbojipdhgidlabZPUndefine9
import Derived.Test.YthbojipdhgidlabZPUndefine5
import Derived.Test.YthbojipdhgidlabZPUndefine6
import Derived.Test.YthbojipdhgidlabZPUndefine7
import Derived.Deep.Cut
import Derived.Deep.CutRange
import Derived.Laws.ResultCell
import Derived.Test.YthbojipdhgidlabShelf
import Derived.Test.YthbojipdhgidlabZPUndefine1
import Derived.Lib.FrozenHead2
import Derived.Lib.OthersKept
import Derived.Lib.Builder
import Derived.Laws.Externs
import Derived.Lib.Join
import Derived.Test.YthbojipdhgidlabZPUndefine8
set_option linter.unusedVariables false
set_option linter.unusedSimpArgs false
/- MacroOf of the model. (Made by gen_mac10.py.) -/
namespace Go.Proofs.Ythbojipdhgidlab
open Go.RowKit

/-! ### The model's theorem, way by way -/
theorem of_no {l : List Tok} (h : toksOk l = false) : macOf l = (zeroMac, false) := by unfold macOf; rw [dif_neg (fun x => by rw [h] at x; exact absurd x.1 (by simp))]
theorem of_nil {l : List Tok} (h : ¬ 0 < l.length) : macOf l = (zeroMac, false) := by unfold macOf; rw [dif_neg (fun x => h x.2)]
theorem of_plain {l : List Tok} (h : toksOk l = true) (h0 : 0 < l.length) (ho : opens2 l = false) : macOf l = macChk ⟨l[0].text, false, [], bodyFrom l 1⟩ := by unfold macOf; rw [dif_pos ⟨h, h0⟩, if_neg (by simp [ho])]
theorem of_pno {l : List Tok} (h : toksOk l = true) (h0 : 0 < l.length) (ho : opens2 l = true) (hp : parsOf l = none) : macOf l = (zeroMac, false) := by unfold macOf; rw [dif_pos ⟨h, h0⟩, if_pos ho, hp]
theorem of_pars {l : List Tok} (h : toksOk l = true) (h0 : 0 < l.length) (ho : opens2 l = true) {p : List ByteArray × Nat} (hp : parsOf l = some p) : macOf l = macChk ⟨l[0].text, true, p.1, bodyFrom l p.2⟩ := by unfold macOf; rw [dif_pos ⟨h, h0⟩, if_pos ho, hp]
theorem chk_no {m : DMacro} (h : macOk m = false) : macChk m = (zeroMac, false) := by unfold macChk; rw [if_neg (by simp [h])]
theorem chk_yes {m : DMacro} (h : macOk m = true) : macChk m = (m, true) := by unfold macChk; rw [if_pos h]
theorem pat_le (l : List Tok) (k : Nat) : ∀ p, parsAt l k = some p → p.2 ≤ l.length := by
  induction k using parsAt.induct (l := l) with
  | case1 k h h1 h2 => intro p hp; rw [pa_close h h1 h2] at hp; cases hp; show k + 2 ≤ _; omega
  | case2 k h h1 h2 h3 ih =>
    intro p hp
    rw [pa_comma h h1 h2 h3, Option.map_eq_some_iff] at hp
    obtain ⟨q, hq, rfl⟩ := hp
    exact ih q hq
  | case3 k h h1 h2 h3 => intro p hp; rw [pa_other h h1 h2 h3] at hp; cases hp
  | case4 k h h1 => intro p hp; rw [pa_kind h h1] at hp; cases hp
  | case5 k h => intro p hp; rw [pa_end h] at hp; cases hp
theorem pars_le {l : List Tok} {p : List ByteArray × Nat} (h : parsOf l = some p) : p.2 ≤ l.length := by
  unfold parsOf at h
  split at h
  · split at h
    · cases h; show 3 ≤ _; omega
    · exact pat_le l 2 p h
  · cases h
theorem op_short {l : List Tok} (h : ¬ 1 < l.length) : opens2 l = false := by unfold opens2; rw [dif_neg h]
theorem op_other {l : List Tok} (h : 1 < l.length) (h1 : l[1].text ≠ openB) : opens2 l = false := by unfold opens2; rw [dif_pos h, decide_eq_false h1]; rfl
theorem op_spaced {l : List Tok} (h : 1 < l.length) (h1 : l[1].spaced = true) : opens2 l = false := by unfold opens2; rw [dif_pos h, h1]; simp
theorem op_yes {l : List Tok} (h : 1 < l.length) (h1 : l[1].text = openB) (h2 : l[1].spaced = false) : opens2 l = true := by unfold opens2; rw [dif_pos h, decide_eq_true h1, h2]; rfl
theorem body_take {l : List Tok} {n k : Nat} (h1 : n ≤ k) (h2 : k < l.length) : (bodyFrom l n).take (k + 1 - n) = (bodyFrom l n).take (k - n) ++ [⟨l[k].kind, l[k].text, l[k].spaced && decide (n < k), []⟩] := by
  have hl : (bodyFrom l n).length = l.length - n := bodyFrom_len l n
  have hk : k - n < (bodyFrom l n).length := by omega
  rw [show k + 1 - n = k - n + 1 by omega, List.take_succ_eq_append_getElem hk, bodyFrom_get]
  have e : n + (k - n) = k := by omega
  simp only [e]
  have e2 : decide (0 < k - n) = decide (n < k) := decide_eq_decide.2 (by omega)
  rw [e2]

theorem results_cell2 {P : Program} {fn : Func} {p u : Tmp} {ty : TypeId} (h : fn.results = #[.cell p ty, .tmp u]) (tmps : Array Value) (w : World) (g : Nat) (t : TypeId) (cs : Array Value) (fr : Nat × Nat) (d : TypeDesc)
    (hp : tmps.getD p undef = .pointer (some ⟨g, 0, none⟩)) (hg : w.heap[g]? = some (.cells cs t fr))
    (hu : P.underlying ty = some d) (hd : (match d with | .struct _ | .array _ _ => true | _ => false) = true) (hi : (P.info? ty).map (·.size) = some cs.size) :
    (results fn tmps).run P w = .ok (.tuple #[.agg cs, tmps.getD u undef]) w := by
  have hp' : tmps[p]?.getD undef = .pointer (some ⟨g, 0, none⟩) := by simpa using hp
  rw [results_cell_tmp h]
  simp [hp', asAddr, run_loadVar_row w g t ty cs fr d hg hu hd hi, Result.andThen]

/-- A macro that is read out of tokens. -/
def MOf (l : List Tok) (w : World) (e : Ending) (w' : World) : Prop :=
  ∃ (cs : List Value) (fp : List Nat), e = .returned (.tuple #[.agg cs.toArray, .bool (macOf l).2]) ∧ sMacro.R w' cs (macOf l).1 fp ∧ Own w' w.heap.size fp ∧ Below w.heap.size w w'
theorem mof_no {l : List Tok} {w w' : World} (h : macOf l = (zeroMac, false)) (hb : Below w.heap.size w w') : MOf l w (.returned (.tuple #[.agg #[.string ⟨#[]⟩, .bool false, .slice none 0 0, .slice none 0 0], .bool false])) w' :=
  ⟨[.string ⟨#[]⟩, .bool false, .slice none 0 0, .slice none 0 0], [], by rw [h], by rw [h]; exact ⟨_, _, [], [], rfl, by show (0 : Nat) ≤ _; simp [maxLen], slice_empty sStr _ _ _ (by simp), slice_empty sTok _ _ _ (by simp), rfl⟩, Own.nil _ _, hb⟩
theorem mof_yes {l : List Tok} {m : DMacro} {w w' : World} {cs : List Value} {fp : List Nat} (h : macOf l = (m, true)) (hR : sMacro.R w' cs m fp) (ho : Own w' w.heap.size fp) (hb : Below w.heap.size w w') : MOf l w (.returned (.tuple #[.agg cs.toArray, .bool true])) w' :=
  ⟨cs, fp, by rw [h], by rw [h]; exact hR, ho, hb⟩
theorem mbox {w : World} {g : Nat} {arr : Array Value} {ty : TypeId} (h : w.heap[g]? = some (.cells arr ty (0, 0))) {w' : World} (hb : Below w.heap.size w w') : w'.heap[g]? = some (.cells arr ty (0, 0)) :=
  (hb.block g (Array.getElem?_eq_some_iff.1 h).1).trans h
theorem mlt {w : World} {g : Nat} {o : Obj} (h : w.heap[g]? = some o) : g < w.heap.size := (Array.getElem?_eq_some_iff.1 h).1
/-- Rows whose elements have nothing behind them: the blocks that a row's slice reads are the row's. -/
theorem rowE_own {α : Type} {S : Shape α} {base : Nat} {e : TypeId} {v : Value} {L : List (Elem α)} {w : World} (h : RowE S base e v L w) (hf : ∀ x ∈ L, x.fp = []) : ∃ fp, (sSlice S).R w [v] (L.map (·.d)) fp ∧ Own w base fp := by
  obtain ⟨fp, h1, _, h3⟩ := slice_of_row h.row fun x hx => ⟨h.len x hx, h.el x hx⟩
  have e0 : L.flatMap (·.fp) = [] := by rw [List.flatMap_eq_nil_iff]; exact hf
  rw [e0] at h3
  exact ⟨fp, h1, h3 (Own.nil _ _) (by simp)⟩

set_option maxHeartbeats 32000000 in
set_option maxRecDepth 100000 in
theorem spec_MacroOf (v : Value) (l : List Tok) (fp : List Nat) (w : World) (hl : l.length ≤ 1048576) (hx : ∀ k, (hk : k < l.length) → l[k].hidden.length ≤ 2000000) (H : (sSlice sTok).R w [v] l fp) :
    Calls Try.prog 68 #[v] w (MOf l w) := by
  have hz0 := alloc_below' w (.cells #[.string ⟨#[]⟩, .bool false, .slice none 0 0, .slice none 0 0] 35)
  have HZ := Lib.hid (heap_alloc_new w (.cells #[.string ⟨#[]⟩, .bool false, .slice none 0 0, .slice none 0 0] 35))
  have HCP := Lib.hid (spec_l1OwnTokenList v l fp _ hl hx ((sSlice sTok).below H hz0))
  clear H hx
  go_enter Try.func68, Try.ntmps68
  go_wp2_with fail
  refine HCP.out.mono ?_
  rintro e w1 ⟨v1, fp1, rfl, HL, hb1⟩
  have hB1 := hz0.trans (hb1.mono hz0.size)
  replace HZ := Lib.hid (mbox HZ.out hb1)
  clear hb1 hz0 HCP
  have HV := Lib.hid (spec_TokensValid v1 l fp1 w1 HL)
  obtain ⟨a, cap, rfl, hc, hm, hrow⟩ := open_rows HL
  unfold maxLen at hm
  go_wp2_with fail
  refine HV.out.mono ?_
  rintro e w2 ⟨rfl, hb2⟩
  have hB2 := hB1.trans (hb2.mono hB1.size)
  replace HZ := Lib.hid (mbox HZ.out hb2)
  have HLL := Lib.hid ((sSlice sTok).below HL hb2)
  clear HL HV
  cases hv : toksOk l
  · have HF := Lib.hid (of_no hv)
    clear hv
    have z0 : w2.cell? ⟨w.heap.size, 0, none⟩ = some (.string ⟨#[]⟩) := cell_of_row _ _ 0 _ _ _ HZ.out
    have zf0 : w2.frozen? ⟨w.heap.size, 0, none⟩ = false := frozen_of_row _ _ 0 _ _ HZ.out
    have z1 : w2.cell? ⟨w.heap.size, 1, none⟩ = some (.bool false) := cell_of_row _ _ 1 _ _ _ HZ.out
    have zf1 : w2.frozen? ⟨w.heap.size, 1, none⟩ = false := frozen_of_row _ _ 1 _ _ HZ.out
    have z2 : w2.cell? ⟨w.heap.size, 2, none⟩ = some (.slice none 0 0) := cell_of_row _ _ 2 _ _ _ HZ.out
    have zf2 : w2.frozen? ⟨w.heap.size, 2, none⟩ = false := frozen_of_row _ _ 2 _ _ HZ.out
    have z3 : w2.cell? ⟨w.heap.size, 3, none⟩ = some (.slice none 0 0) := cell_of_row _ _ 3 _ _ _ HZ.out
    have zf3 : w2.frozen? ⟨w.heap.size, 3, none⟩ = false := frozen_of_row _ _ 3 _ _ HZ.out
    have HS := Lib.hid (blk_set (blk_set (blk_set (blk_set HZ.out 0 (.string ⟨#[]⟩)) 1 (.bool false)) 2 (.slice none 0 0)) 3 (.slice none 0 0))
    have HBF := Lib.hid ((((hB2.setCell (p := ⟨w.heap.size, 0, none⟩) (Nat.le_refl _) (.string ⟨#[]⟩)).setCell (p := ⟨w.heap.size, 1, none⟩) (Nat.le_refl _) (.bool false)).setCell (p := ⟨w.heap.size, 2, none⟩) (Nat.le_refl _) (.slice none 0 0)).setCell (p := ⟨w.heap.size, 3, none⟩) (Nat.le_refl _) (.slice none 0 0))
    go_wp2
    refine bodyPost_ret (results_cell2 rfl _ _ w.heap.size _ _ _ _ rfl HS.out Try.underlying35 rfl (by kernel_rfl)) rfl ?_
    exact mof_no HF.out HBF.out
  by_cases h0 : 0 < l.length
  rotate_left
  · have HF := Lib.hid (of_nil h0)
    have hz : l.length = 0 := by omega
    have hz1 : ((l.length : Int) == 0) = true := by simp [List.length_eq_zero_iff.1 hz]
    clear hv
    have z0 : w2.cell? ⟨w.heap.size, 0, none⟩ = some (.string ⟨#[]⟩) := cell_of_row _ _ 0 _ _ _ HZ.out
    have zf0 : w2.frozen? ⟨w.heap.size, 0, none⟩ = false := frozen_of_row _ _ 0 _ _ HZ.out
    have z1 : w2.cell? ⟨w.heap.size, 1, none⟩ = some (.bool false) := cell_of_row _ _ 1 _ _ _ HZ.out
    have zf1 : w2.frozen? ⟨w.heap.size, 1, none⟩ = false := frozen_of_row _ _ 1 _ _ HZ.out
    have z2 : w2.cell? ⟨w.heap.size, 2, none⟩ = some (.slice none 0 0) := cell_of_row _ _ 2 _ _ _ HZ.out
    have zf2 : w2.frozen? ⟨w.heap.size, 2, none⟩ = false := frozen_of_row _ _ 2 _ _ HZ.out
    have z3 : w2.cell? ⟨w.heap.size, 3, none⟩ = some (.slice none 0 0) := cell_of_row _ _ 3 _ _ _ HZ.out
    have zf3 : w2.frozen? ⟨w.heap.size, 3, none⟩ = false := frozen_of_row _ _ 3 _ _ HZ.out
    have HS := Lib.hid (blk_set (blk_set (blk_set (blk_set HZ.out 0 (.string ⟨#[]⟩)) 1 (.bool false)) 2 (.slice none 0 0)) 3 (.slice none 0 0))
    have HBF := Lib.hid ((((hB2.setCell (p := ⟨w.heap.size, 0, none⟩) (Nat.le_refl _) (.string ⟨#[]⟩)).setCell (p := ⟨w.heap.size, 1, none⟩) (Nat.le_refl _) (.bool false)).setCell (p := ⟨w.heap.size, 2, none⟩) (Nat.le_refl _) (.slice none 0 0)).setCell (p := ⟨w.heap.size, 3, none⟩) (Nat.le_refl _) (.slice none 0 0))
    go_wp2
    refine bodyPost_ret (results_cell2 rfl _ _ w.heap.size _ _ _ _ rfl HS.out Try.underlying35 rfl (by kernel_rfl)) rfl ?_
    exact mof_no HF.out HBF.out
  have hl60 := (toksOk_facts hv).1
  have hz1 : ((l.length : Int) == 0) = false := by simp; intro h; rw [h] at h0; exact absurd h0 (by simp)
  have hz2 : (0 : Int) < (l.length : Int) := by omega
  obtain ⟨b1, off1, fps1, rfl, hb1w, -, he1⟩ := hrow h0
  obtain ⟨nm, HNM⟩ : ∃ s : ByteArray, Hid (s = (l[0]'h0).text) := ⟨_, rfl⟩
  have HEL : Hid (∀ i, (hi : i < l.length) → ∃ hh, ElemAt w2 b1 off1 4 i [.int .i64 l[i].kind, .string l[i].text, .bool l[i].spaced, hh] ∧ okInt l[i].kind ∧ okStr l[i].text) := fun i hi => by
    obtain ⟨es, hE, hR⟩ := he1 i hi
    obtain ⟨hh, rfl, k1, k2, -⟩ := hR
    exact ⟨hh, hE.frame (hb2.block b1 hb1w), k1, k2⟩
  have hb1s : b1 < w2.heap.size := Nat.lt_of_lt_of_le hb1w hb2.size
  have hb1l : w1.heap.size ≤ w2.heap.size := hb2.size
  have okn : okStr nm := by rw [HNM.out]; obtain ⟨_, _, _, h⟩ := HEL.out 0 h0; exact h
  clear hrow he1 hb2
  have c01 : w2.cell? ⟨b1, off1 + 1, none⟩ = some (.string nm) := by
    rw [HNM.out]
    obtain ⟨hh, hE, _, _⟩ := HEL.out 0 h0
    have := elem_cell (i := 0) (j := 1) hE (by decide) rfl
    simpa using this
  have hbx := alloc_below' w2 (.cells #[.string nm, .bool false, .slice none 0 0, .slice none 0 0] 35)
  have HMX := Lib.hid (heap_alloc_new w2 (.cells #[.string nm, .bool false, .slice none 0 0, .slice none 0 0] 35))
  have hs2 : (w2.alloc (.cells #[.string nm, .bool false, .slice none 0 0, .slice none 0 0] 35)).heap.size = w2.heap.size + 1 := Array.size_push _
  have HS2 := Lib.hid hs2
  have hBX := hB2.trans (hbx.mono hB2.size)
  have HZX := Lib.hid (mbox HZ.out hbx)
  have hg0 := mlt HZ.out
  have HLX := Lib.hid ((sSlice sTok).below HLL.out hbx)
  have HVD := Lib.hid hv
  have HX1 : 1 < l.length → ((w2.alloc (.cells #[.string nm, .bool false, .slice none 0 0, .slice none 0 0] 35)).cell? ⟨b1, off1 + 4 + 1, none⟩ = some (.string (l[1]?.getD (⟨0, ⟨#[]⟩, false, []⟩ : Tok)).text) ∧ (w2.alloc (.cells #[.string nm, .bool false, .slice none 0 0, .slice none 0 0] 35)).cell? ⟨b1, off1 + 4 + 2, none⟩ = some (.bool (l[1]?.getD (⟨0, ⟨#[]⟩, false, []⟩ : Tok)).spaced)) := fun h1 => by
    obtain ⟨hh, hE, _, _⟩ := HEL.out 1 h1
    have hE' := hE.frame (hbx.block b1 hb1s)
    rw [List.getElem?_eq_getElem h1]
    exact ⟨by have := elem_cell (i := 1) (j := 1) hE' (by decide) rfl; simpa using this, by have := elem_cell (i := 1) (j := 2) hE' (by decide) rfl; simpa using this⟩
  replace HX1 := Lib.hid HX1
  clear hv hs2
  go_upto_region 6 with fail
  go_cut [41] from 25 to 41 (fun c wx => c = .bool (opens2 l) ∧ wx = (w2.alloc (.cells #[.string nm, .bool false, .slice none 0 0, .slice none 0 0] 35)))
  case first =>
    by_cases h1 : 1 < l.length
    · have h11 : (1 : Int) < (l.length : Int) := by omega
      obtain ⟨c11, c12⟩ := HX1.out h1
      rw [List.getElem?_eq_getElem h1] at c11 c12
      simp only [Option.getD_some] at c11 c12
      by_cases h2 : l[1].text = openB
      · have e2 := txt_t (l := [40]) h2
        cases h3 : l[1].spaced
        · rw [h3] at c12
          have HO := Lib.hid (op_yes h1 h2 h3)
          clear h2 h3
          go_wp2
          go_meet
          case rel => exact ⟨by rw [HO.out], rfl⟩
        · rw [h3] at c12
          have HO := Lib.hid (op_spaced h1 h3)
          clear h2 h3
          go_wp2
          go_meet
          case rel => exact ⟨by rw [HO.out], rfl⟩
      · have e2 := txt_f (l := [40]) h2
        have HO := Lib.hid (op_other h1 h2)
        clear h2
        go_wp2
        go_meet
        case rel => exact ⟨by rw [HO.out], rfl⟩
    · have h11 : ¬ (1 : Int) < (l.length : Int) := by omega
      have HO := Lib.hid (op_short h1)
      go_wp2
      go_meet
      case rel => exact ⟨by rw [HO.out], rfl⟩
  case rest =>
    obtain ⟨rfl, rfl⟩ := hcut
    go_upto_if 41 with fail
    go_cut [5] from 6 to 54 (fun c wx => ∃ (n : Nat) (fn : Bool) (ap : Option Addr) (cp : Nat) (ps : List ByteArray) (fpp : List Nat), c = .int .i64 n ∧ n ≤ l.length ∧ Hid (macOf l = macChk ⟨nm, fn, ps, bodyFrom l n⟩) ∧ Hid (wx.heap[w2.heap.size]? = some (.cells #[.string nm, .bool fn, .slice ap ps.length cp, .slice none 0 0] 35 (0, 0))) ∧ Hid ((sSlice sStr).R wx [.slice ap ps.length cp] ps fpp) ∧ Hid (Own wx (w2.heap.size + 1) fpp) ∧ Hid (Kept [w2.heap.size] (w2.alloc (.cells #[.string nm, .bool false, .slice none 0 0, .slice none 0 0] 35)) wx))
    case first =>
      have HPP := Lib.hid (spec_l5Params _ l _ _ hl60 HLX.out)
      cases ho : opens2 l
      · have HF := Lib.hid (of_plain HVD.out h0 ho)
        rw [← HNM.out] at HF
        clear ho
        go_wp2
        go_meet
        case rel => exact ⟨1, false, none, 0, [], [], rfl, by omega, HF, HMX.out, slice_empty sStr _ _ _ (by simp), Own.nil _ _, Kept.refl _ _⟩
      · have HOP := Lib.hid ho
        clear ho
        cases hp : parsOf l with
        | none =>
          unfold PMade at HPP
          rw [parRes_none hp] at HPP
          have HF := Lib.hid (of_pno HVD.out h0 HOP.out hp)
          clear hp
          go_wp2_with fail
          refine HPP.out.mono ?_
          rintro e w3 ⟨pv, fpp, rfl, -, -, hb3⟩
          have hB3 := hBX.trans (hb3.mono hBX.size)
          have HZ3 := Lib.hid (mbox HZX.out hb3)
          clear hb3
          have z0 : w3.cell? ⟨w.heap.size, 0, none⟩ = some (.string ⟨#[]⟩) := cell_of_row _ _ 0 _ _ _ HZ3.out
          have zf0 : w3.frozen? ⟨w.heap.size, 0, none⟩ = false := frozen_of_row _ _ 0 _ _ HZ3.out
          have z1 : w3.cell? ⟨w.heap.size, 1, none⟩ = some (.bool false) := cell_of_row _ _ 1 _ _ _ HZ3.out
          have zf1 : w3.frozen? ⟨w.heap.size, 1, none⟩ = false := frozen_of_row _ _ 1 _ _ HZ3.out
          have z2 : w3.cell? ⟨w.heap.size, 2, none⟩ = some (.slice none 0 0) := cell_of_row _ _ 2 _ _ _ HZ3.out
          have zf2 : w3.frozen? ⟨w.heap.size, 2, none⟩ = false := frozen_of_row _ _ 2 _ _ HZ3.out
          have z3 : w3.cell? ⟨w.heap.size, 3, none⟩ = some (.slice none 0 0) := cell_of_row _ _ 3 _ _ _ HZ3.out
          have zf3 : w3.frozen? ⟨w.heap.size, 3, none⟩ = false := frozen_of_row _ _ 3 _ _ HZ3.out
          have HS := Lib.hid (blk_set (blk_set (blk_set (blk_set HZ3.out 0 (.string ⟨#[]⟩)) 1 (.bool false)) 2 (.slice none 0 0)) 3 (.slice none 0 0))
          have HBF := Lib.hid ((((hB3.setCell (p := ⟨w.heap.size, 0, none⟩) (Nat.le_refl _) (.string ⟨#[]⟩)).setCell (p := ⟨w.heap.size, 1, none⟩) (Nat.le_refl _) (.bool false)).setCell (p := ⟨w.heap.size, 2, none⟩) (Nat.le_refl _) (.slice none 0 0)).setCell (p := ⟨w.heap.size, 3, none⟩) (Nat.le_refl _) (.slice none 0 0))
          go_wp2
          refine bodyPost_ret (results_cell2 rfl _ _ w.heap.size _ _ _ _ rfl HS.out Try.underlying35 rfl (by kernel_rfl)) rfl ?_
          exact mof_no HF.out HBF.out
        | some p =>
          obtain ⟨ps, n⟩ := p
          have hnl : n ≤ l.length := pars_le hp
          unfold PMade at HPP
          rw [parRes_some hp] at HPP
          have HF := Lib.hid (of_pars HVD.out h0 HOP.out hp)
          rw [← HNM.out] at HF
          clear hp
          go_wp2_with fail
          refine HPP.out.mono ?_
          rintro e w3 ⟨pv, fpp, rfl, hPR, hPO, hb3⟩
          rw [HS2.out] at hPO
          have HM3 := mbox HMX.out hb3
          obtain ⟨ap, cp, rfl, -⟩ := open_strs hPR
          have hn1 : w2.heap.size ∉ fpp := fun hx => by have := (hPO.2 _ hx).1; omega
          have c31 : w3.cell? ⟨w2.heap.size, 1, none⟩ = some (.bool false) := cell_of_row _ _ 1 _ _ _ HM3
          have c32 : w3.cell? ⟨w2.heap.size, 2, none⟩ = some (.slice none 0 0) := cell_of_row _ _ 2 _ _ _ HM3
          have f31 : w3.frozen? ⟨w2.heap.size, 1, none⟩ = false := frozen_of_row _ _ 1 _ _ HM3
          have f32 : w3.frozen? ⟨w2.heap.size, 2, none⟩ = false := frozen_of_row _ _ 2 _ _ HM3
          have HMF := Lib.hid (blk_set (blk_set HM3 1 (.bool true)) 2 (.slice ap ps.length cp))
          have HPF := Lib.hid ((sSlice sStr).setB ((sSlice sStr).setB hPR hn1 1 (.bool true)) hn1 2 (.slice ap ps.length cp))
          have HOF := Lib.hid ((hPO.setCell ⟨w2.heap.size, 1, none⟩ (.bool true)).setCell ⟨w2.heap.size, 2, none⟩ (.slice ap ps.length cp))
          have HKF := Lib.hid (((Kept.of_below (fp := [w2.heap.size]) hb3).setCell (p := ⟨w2.heap.size, 1, none⟩) (by simp) (.bool true)).setCell (p := ⟨w2.heap.size, 2, none⟩) (by simp) (.slice ap ps.length cp))
          have hneg : ¬ (n : Int) < 0 := by omega
          clear hPR hPO HM3 hb3 hn1
          go_wp2
          go_meet
          case rel => exact ⟨n, true, ap, cp, ps, fpp, rfl, hnl, HF, HMF.out, HPF, HOF, HKF⟩
    case rest =>
      obtain ⟨n, fn, ap, cp, ps, fpp, rfl, hn, HF, HM, HP, HO, HK⟩ := hcut
      have hsz := HK.out.size
      rw [HS2.out] at hsz
      have HBc := Lib.hid (hBX.trans (HK.out.below (lo := w.heap.size) (by intro b hb; have e : b = w2.heap.size := (by simpa using hb); omega) (by rw [HS2.out]; omega)))
      have HZc := Lib.hid ((HK.out.block w.heap.size (by rw [HS2.out]; omega) (by simp; omega)).trans HZX.out)
      have HEc : Hid (∀ i, (hi : i < l.length) → ∃ hh, ElemAt wc b1 off1 4 i [.int .i64 l[i].kind, .string l[i].text, .bool l[i].spaced, hh] ∧ okInt l[i].kind ∧ okStr l[i].text) := fun i hi => by
        obtain ⟨hh, hE, k1, k2⟩ := HEL.out i hi
        exact ⟨hh, (hE.frame (hbx.block b1 hb1s)).frame (HK.out.block b1 (by rw [HS2.out]; omega) (by simp; omega)), k1, k2⟩
      have HE0 := Lib.hid (RowE.nil sTok wc.heap.size 89 wc)
      have HPlt : Hid (∀ b ∈ fpp, b < wc.heap.size) := (sSlice sStr).lt HP.out
      have HPn : Hid (w2.heap.size ∉ fpp) := fun hx => by have := (HO.out.2 _ hx).1; omega
      clear HEL HLX HMX HZX HX1 HLL HZ hbx hBX hB1 hB2 c01 HK HVD
      go_wp2_with fail
      go_loopw [8] (fun i wr => ∃ (k : Nat) (vb : Value) (L : List (Elem Tok)), n ≤ k ∧ k ≤ l.length ∧ i = .int .i64 k ∧ Hid (L.length = k - n) ∧ Hid (wr.heap[w2.heap.size]? = some (.cells #[.string nm, .bool fn, .slice ap ps.length cp, vb] 35 (0, 0))) ∧ Hid (RowE sTok wc.heap.size 89 vb L wr) ∧ Hid (L.map (·.d) = (bodyFrom l n).take (k - n)) ∧ Hid (∀ x ∈ L, x.fp = []) ∧ Hid (Kept [w2.heap.size] wc wr)) (fun i _ => l.length - (intOf i).toNat)
      case atStart => exact ⟨n, _, [], by omega, hn, rfl, by show _ = _; simp, HM, HE0, by show _ = _; simp, by intro x hx; simp at hx, Kept.refl _ _⟩
      case round =>
        obtain ⟨k, vb, L, hnk, hkl, rfl, HLn, HMr, HE, HD, HFP, HKr⟩ := hrel
        obtain ⟨ab, cb, rfl, -⟩ := HE.out.val
        have hszr := HKr.out.size
        by_cases hlt : k < l.length
        · obtain ⟨hh, hE, ki, ks⟩ := HEc.out k hlt
          have hEr := hE.frame (HKr.out.block b1 (by omega) (by simp; omega))
          have q3 : wr.cell? ⟨w2.heap.size, 3, none⟩ = some (.slice ab L.length cb) := cell_of_row _ _ 3 _ _ _ HMr.out
          have e0 : wr.cell? ⟨b1, off1 + k * 4, none⟩ = some (.int .i64 l[k].kind) := elem_cell0 hEr (by decide) rfl
          have e1 : wr.cell? ⟨b1, off1 + k * 4 + 1, none⟩ = some (.string l[k].text) := elem_cell (j := 1) hEr (by decide) rfl
          have e2 : wr.cell? ⟨b1, off1 + k * 4 + 2, none⟩ = some (.bool l[k].spaced) := elem_cell (j := 2) hEr (by decide) rfl
          have HKI := Lib.hid (And.intro ki ks)
          have HT := Lib.hid (body_take hnk hlt)
          have HEd : Hid (RowE sTok wc.heap.size 89 (.slice ab L.length cb) L ({ wr with drawn := wr.drawn + 1 } : World)) := HE.out.same fun _ _ _ => rfl
          have hown : ∀ b, (Value.slice ab L.length cb).ownBlock = some b → wc.heap.size ≤ b := HE.out.mine
          clear hE hEr hh ki ks
          cases hsp : l[k].spaced
          · rw [hsp] at e2 HT
            clear hsp
            go_wp2
            refine wp_region_app (P := Try.prog) (by kernel_rfl) (by kernel_rfl) 23 24 26 (by kernel_rfl) (by kernel_rfl) (by decide) (by decide) rfl rfl rfl [some (.pointer (some ⟨w2.heap.size, 3, none⟩)), some (.slice ab L.length cb), some (.slice (some ⟨b1, off1, none⟩) l.length cap), some (.int .i64 (k : Int)), some (.pointer (some ⟨b1, off1 + k * 4, none⟩)), some (.pointer (some ⟨b1, off1 + k * 4, none⟩)), some (.int .i64 l[k].kind), some (.slice (some ⟨b1, off1, none⟩) l.length cap), some (.int .i64 (k : Int)), some (.pointer (some ⟨b1, off1 + k * 4, none⟩)), some (.pointer (some ⟨b1, off1 + k * 4 + 1, none⟩)), some (.string l[k].text), some (.slice (some ⟨b1, off1, none⟩) l.length cap), some (.int .i64 (k : Int)), some (.pointer (some ⟨b1, off1 + k * 4, none⟩)), some (.pointer (some ⟨b1, off1 + k * 4 + 2, none⟩)), some (.bool false), some (.bool false), none, none, none, some (.bool false), some (.agg #[.int .i64 l[k].kind, .string l[k].text, .bool false, .slice none 0 0]), none, none, some (.pointer (some ⟨w2.heap.size, 3, none⟩)), none] (.slice (some ⟨wr.heap.size, 0, none⟩) 1 1) ((({ wr with drawn := wr.drawn + 1 } : World).alloc (.cells #[.int .i64 l[k].kind, .string l[k].text, .bool false, .slice none 0 0] 89))) (fun v u => RowE sTok wc.heap.size 89 v (L ++ [(⟨[.int .i64 l[k].kind, .string l[k].text, .bool false, .slice none 0 0], ⟨l[k].kind, l[k].text, false, []⟩, []⟩ : Elem Tok)]) u ∧ ({ wr with drawn := wr.drawn + 1 } : World).grownBy u (Value.slice ab L.length cb).ownBlock) (fun v u => ∃ u2, (RowE sTok wc.heap.size 89 v (L ++ [(⟨[.int .i64 l[k].kind, .string l[k].text, .bool false, .slice none 0 0], ⟨l[k].kind, l[k].text, false, []⟩, []⟩ : Elem Tok)]) u2 ∧ ({ wr with drawn := wr.drawn + 1 } : World).grownBy u2 (Value.slice ab L.length cb).ownBlock) ∧ u = u2.setCell ⟨w2.heap.size, 3, none⟩ v) (fun u => u.cell? ⟨w2.heap.size, 3, none⟩ = some (.slice ab L.length cb) ∧ u.cell? ⟨b1, off1 + k * 4, none⟩ = some (.int .i64 l[k].kind) ∧ u.cell? ⟨b1, off1 + k * 4 + 1, none⟩ = some (.string l[k].text) ∧ u.cell? ⟨b1, off1 + k * 4 + 2, none⟩ = some (.bool false)) ?b0 ?b1 ?b2 (cons_all ⟨.inr (.inr (.inr ?s0)), .inr (.inr (.inr ?s1)), .inr (.inr (.inr ?s2)), .inr (.inr (.inr ?s3)), .inr (.inr (.inr ?s4)), .inr (.inr (.inr ?s5)), .inr (.inr (.inr ?s6)), .inr (.inr (.inr ?s7)), .inr (.inr (.inr ?s8)), .inr (.inr (.inr ?s9)), .inr (.inr (.inr ?s10)), .inr (.inr (.inr ?s11)), .inr (.inr (.inr ?s12)), .inr (.inr (.inr ?s13)), .inr (.inr (.inr ?s14)), .inr (.inr (.inr ?s15)), .inr (.inr (.inr ?s16)), .inr (.inr (.inr ?s17)), .inr (.inr (.inr ?s18)), .inr (.inr (.inr ?s19)), .inr (.inr (.inr ?s20)), .inr (.inr (.inr ?s21)), .inr (.inr (.inr ?s22)), .inl rfl, .inr (.inl rfl), .inr (.inr (.inr ?s25)), .inr (.inr (.inl rfl)), trivial⟩) ?sA ?sB ?sC ?done
            case b0 =>
              exact ⟨q3, e0, e1, e2⟩
            case b1 =>
              have hbb := alloc_below' ({ wr with drawn := wr.drawn + 1 } : World) (.cells #[.int .i64 l[k].kind, .string l[k].text, .bool false, .slice none 0 0] 89)
              exact ⟨(hbb.cell (p := ⟨w2.heap.size, 3, none⟩) (show w2.heap.size < wr.heap.size by omega)).trans q3, (hbb.cell (p := ⟨b1, off1 + k * 4, none⟩) (show b1 < wr.heap.size by omega)).trans e0, (hbb.cell (p := ⟨b1, off1 + k * 4 + 1, none⟩) (show b1 < wr.heap.size by omega)).trans e1, (hbb.cell (p := ⟨b1, off1 + k * 4 + 2, none⟩) (show b1 < wr.heap.size by omega)).trans e2⟩
            case b2 =>
              rintro v u ⟨-, hg⟩
              have kb : ∀ b, b < wc.heap.size → u.heap[b]? = wr.heap[b]? := fun b hb => hg.block b (show b < wr.heap.size by omega) (fun he => by have := hown b he.symm; omega)
              exact ⟨(World.cell?_of_block (a := ⟨w2.heap.size, 3, none⟩) (kb w2.heap.size (by omega))).trans q3, (World.cell?_of_block (a := ⟨b1, off1 + k * 4, none⟩) (kb b1 (by omega))).trans e0, (World.cell?_of_block (a := ⟨b1, off1 + k * 4 + 1, none⟩) (kb b1 (by omega))).trans e1, (World.cell?_of_block (a := ⟨b1, off1 + k * 4 + 2, none⟩) (kb b1 (by omega))).trans e2⟩
            case s0 =>
              intro xs w' hl _ hd hB K hK
              obtain ⟨x0, x1, x2, x3, x4, x5, x6, x7, x8, x9, x10, x11, x12, x13, x14, x15, x16, x17, x18, x19, x20, x21, x22, x23, x24, x25, x26, rfl⟩ := len27 hl
              obtain ⟨q3, e0, e1, e2⟩ := hB
              clear hd
              simp only [fill, Act.put, List.map_cons, List.map_nil, List.setIfInBounds_toArray, List.set_cons_succ, List.set_cons_zero] at hK ⊢
              go_wp2
              exact hK _ (fun u hu => by simpa using hu)
            case s1 =>
              intro xs w' hl _ hd hB K hK
              obtain ⟨x0, x1, x2, x3, x4, x5, x6, x7, x8, x9, x10, x11, x12, x13, x14, x15, x16, x17, x18, x19, x20, x21, x22, x23, x24, x25, x26, rfl⟩ := len27 hl
              obtain rfl : x0 = .pointer (some ⟨w2.heap.size, 3, none⟩) := by simpa using hd ⟨0, .data⟩ (by simp) rfl (by decide) (by decide) (by decide) _ rfl
              obtain ⟨q3, e0, e1, e2⟩ := hB
              clear hd
              simp only [fill, Act.put, List.map_cons, List.map_nil, List.setIfInBounds_toArray, List.set_cons_succ, List.set_cons_zero] at hK ⊢
              go_wp2
              exact hK _ (fun u hu => by simpa using hu)
            case s2 =>
              intro xs w' hl _ hd hB K hK
              obtain ⟨x0, x1, x2, x3, x4, x5, x6, x7, x8, x9, x10, x11, x12, x13, x14, x15, x16, x17, x18, x19, x20, x21, x22, x23, x24, x25, x26, rfl⟩ := len27 hl
              obtain ⟨q3, e0, e1, e2⟩ := hB
              clear hd
              simp only [fill, Act.put, List.map_cons, List.map_nil, List.setIfInBounds_toArray, List.set_cons_succ, List.set_cons_zero] at hK ⊢
              go_wp2
              exact hK _ (fun u hu => by simpa using hu)
            case s3 =>
              intro xs w' hl _ hd hB K hK
              obtain ⟨x0, x1, x2, x3, x4, x5, x6, x7, x8, x9, x10, x11, x12, x13, x14, x15, x16, x17, x18, x19, x20, x21, x22, x23, x24, x25, x26, rfl⟩ := len27 hl
              obtain ⟨q3, e0, e1, e2⟩ := hB
              clear hd
              simp only [fill, Act.put, List.map_cons, List.map_nil, List.setIfInBounds_toArray, List.set_cons_succ, List.set_cons_zero] at hK ⊢
              go_wp2
              exact hK _ (fun u hu => by simpa using hu)
            case s4 =>
              intro xs w' hl _ hd hB K hK
              obtain ⟨x0, x1, x2, x3, x4, x5, x6, x7, x8, x9, x10, x11, x12, x13, x14, x15, x16, x17, x18, x19, x20, x21, x22, x23, x24, x25, x26, rfl⟩ := len27 hl
              obtain rfl : x2 = .slice (some ⟨b1, off1, none⟩) l.length cap := by simpa using hd ⟨2, .data⟩ (by simp) rfl (by decide) (by decide) (by decide) _ rfl
              obtain rfl : x3 = .int .i64 (k : Int) := by simpa using hd ⟨3, .data⟩ (by simp) rfl (by decide) (by decide) (by decide) _ rfl
              obtain ⟨q3, e0, e1, e2⟩ := hB
              clear hd
              simp only [fill, Act.put, List.map_cons, List.map_nil, List.setIfInBounds_toArray, List.set_cons_succ, List.set_cons_zero] at hK ⊢
              go_wp2
              exact hK _ (fun u hu => by simpa using hu)
            case s5 =>
              intro xs w' hl _ hd hB K hK
              obtain ⟨x0, x1, x2, x3, x4, x5, x6, x7, x8, x9, x10, x11, x12, x13, x14, x15, x16, x17, x18, x19, x20, x21, x22, x23, x24, x25, x26, rfl⟩ := len27 hl
              obtain rfl : x4 = .pointer (some ⟨b1, off1 + k * 4, none⟩) := by simpa using hd ⟨4, .data⟩ (by simp) rfl (by decide) (by decide) (by decide) _ rfl
              obtain ⟨q3, e0, e1, e2⟩ := hB
              clear hd
              simp only [fill, Act.put, List.map_cons, List.map_nil, List.setIfInBounds_toArray, List.set_cons_succ, List.set_cons_zero] at hK ⊢
              go_wp2
              exact hK _ (fun u hu => by simpa using hu)
            case s6 =>
              intro xs w' hl _ hd hB K hK
              obtain ⟨x0, x1, x2, x3, x4, x5, x6, x7, x8, x9, x10, x11, x12, x13, x14, x15, x16, x17, x18, x19, x20, x21, x22, x23, x24, x25, x26, rfl⟩ := len27 hl
              obtain rfl : x5 = .pointer (some ⟨b1, off1 + k * 4, none⟩) := by simpa using hd ⟨5, .data⟩ (by simp) rfl (by decide) (by decide) (by decide) _ rfl
              obtain ⟨q3, e0, e1, e2⟩ := hB
              clear hd
              simp only [fill, Act.put, List.map_cons, List.map_nil, List.setIfInBounds_toArray, List.set_cons_succ, List.set_cons_zero] at hK ⊢
              go_wp2
              exact hK _ (fun u hu => by simpa using hu)
            case s7 =>
              intro xs w' hl _ hd hB K hK
              obtain ⟨x0, x1, x2, x3, x4, x5, x6, x7, x8, x9, x10, x11, x12, x13, x14, x15, x16, x17, x18, x19, x20, x21, x22, x23, x24, x25, x26, rfl⟩ := len27 hl
              obtain ⟨q3, e0, e1, e2⟩ := hB
              clear hd
              simp only [fill, Act.put, List.map_cons, List.map_nil, List.setIfInBounds_toArray, List.set_cons_succ, List.set_cons_zero] at hK ⊢
              go_wp2
              exact hK _ (fun u hu => by simpa using hu)
            case s8 =>
              intro xs w' hl _ hd hB K hK
              obtain ⟨x0, x1, x2, x3, x4, x5, x6, x7, x8, x9, x10, x11, x12, x13, x14, x15, x16, x17, x18, x19, x20, x21, x22, x23, x24, x25, x26, rfl⟩ := len27 hl
              obtain ⟨q3, e0, e1, e2⟩ := hB
              clear hd
              simp only [fill, Act.put, List.map_cons, List.map_nil, List.setIfInBounds_toArray, List.set_cons_succ, List.set_cons_zero] at hK ⊢
              go_wp2
              exact hK _ (fun u hu => by simpa using hu)
            case s9 =>
              intro xs w' hl _ hd hB K hK
              obtain ⟨x0, x1, x2, x3, x4, x5, x6, x7, x8, x9, x10, x11, x12, x13, x14, x15, x16, x17, x18, x19, x20, x21, x22, x23, x24, x25, x26, rfl⟩ := len27 hl
              obtain rfl : x7 = .slice (some ⟨b1, off1, none⟩) l.length cap := by simpa using hd ⟨7, .data⟩ (by simp) rfl (by decide) (by decide) (by decide) _ rfl
              obtain rfl : x8 = .int .i64 (k : Int) := by simpa using hd ⟨8, .data⟩ (by simp) rfl (by decide) (by decide) (by decide) _ rfl
              obtain ⟨q3, e0, e1, e2⟩ := hB
              clear hd
              simp only [fill, Act.put, List.map_cons, List.map_nil, List.setIfInBounds_toArray, List.set_cons_succ, List.set_cons_zero] at hK ⊢
              go_wp2
              exact hK _ (fun u hu => by simpa using hu)
            case s10 =>
              intro xs w' hl _ hd hB K hK
              obtain ⟨x0, x1, x2, x3, x4, x5, x6, x7, x8, x9, x10, x11, x12, x13, x14, x15, x16, x17, x18, x19, x20, x21, x22, x23, x24, x25, x26, rfl⟩ := len27 hl
              obtain rfl : x9 = .pointer (some ⟨b1, off1 + k * 4, none⟩) := by simpa using hd ⟨9, .data⟩ (by simp) rfl (by decide) (by decide) (by decide) _ rfl
              obtain ⟨q3, e0, e1, e2⟩ := hB
              clear hd
              simp only [fill, Act.put, List.map_cons, List.map_nil, List.setIfInBounds_toArray, List.set_cons_succ, List.set_cons_zero] at hK ⊢
              go_wp2
              exact hK _ (fun u hu => by simpa using hu)
            case s11 =>
              intro xs w' hl _ hd hB K hK
              obtain ⟨x0, x1, x2, x3, x4, x5, x6, x7, x8, x9, x10, x11, x12, x13, x14, x15, x16, x17, x18, x19, x20, x21, x22, x23, x24, x25, x26, rfl⟩ := len27 hl
              obtain rfl : x10 = .pointer (some ⟨b1, off1 + k * 4 + 1, none⟩) := by simpa using hd ⟨10, .data⟩ (by simp) rfl (by decide) (by decide) (by decide) _ rfl
              obtain ⟨q3, e0, e1, e2⟩ := hB
              clear hd
              simp only [fill, Act.put, List.map_cons, List.map_nil, List.setIfInBounds_toArray, List.set_cons_succ, List.set_cons_zero] at hK ⊢
              go_wp2
              exact hK _ (fun u hu => by simpa using hu)
            case s12 =>
              intro xs w' hl _ hd hB K hK
              obtain ⟨x0, x1, x2, x3, x4, x5, x6, x7, x8, x9, x10, x11, x12, x13, x14, x15, x16, x17, x18, x19, x20, x21, x22, x23, x24, x25, x26, rfl⟩ := len27 hl
              obtain ⟨q3, e0, e1, e2⟩ := hB
              clear hd
              simp only [fill, Act.put, List.map_cons, List.map_nil, List.setIfInBounds_toArray, List.set_cons_succ, List.set_cons_zero] at hK ⊢
              go_wp2
              exact hK _ (fun u hu => by simpa using hu)
            case s13 =>
              intro xs w' hl _ hd hB K hK
              obtain ⟨x0, x1, x2, x3, x4, x5, x6, x7, x8, x9, x10, x11, x12, x13, x14, x15, x16, x17, x18, x19, x20, x21, x22, x23, x24, x25, x26, rfl⟩ := len27 hl
              obtain ⟨q3, e0, e1, e2⟩ := hB
              clear hd
              simp only [fill, Act.put, List.map_cons, List.map_nil, List.setIfInBounds_toArray, List.set_cons_succ, List.set_cons_zero] at hK ⊢
              go_wp2
              exact hK _ (fun u hu => by simpa using hu)
            case s14 =>
              intro xs w' hl _ hd hB K hK
              obtain ⟨x0, x1, x2, x3, x4, x5, x6, x7, x8, x9, x10, x11, x12, x13, x14, x15, x16, x17, x18, x19, x20, x21, x22, x23, x24, x25, x26, rfl⟩ := len27 hl
              obtain rfl : x12 = .slice (some ⟨b1, off1, none⟩) l.length cap := by simpa using hd ⟨12, .data⟩ (by simp) rfl (by decide) (by decide) (by decide) _ rfl
              obtain rfl : x13 = .int .i64 (k : Int) := by simpa using hd ⟨13, .data⟩ (by simp) rfl (by decide) (by decide) (by decide) _ rfl
              obtain ⟨q3, e0, e1, e2⟩ := hB
              clear hd
              simp only [fill, Act.put, List.map_cons, List.map_nil, List.setIfInBounds_toArray, List.set_cons_succ, List.set_cons_zero] at hK ⊢
              go_wp2
              exact hK _ (fun u hu => by simpa using hu)
            case s15 =>
              intro xs w' hl _ hd hB K hK
              obtain ⟨x0, x1, x2, x3, x4, x5, x6, x7, x8, x9, x10, x11, x12, x13, x14, x15, x16, x17, x18, x19, x20, x21, x22, x23, x24, x25, x26, rfl⟩ := len27 hl
              obtain rfl : x14 = .pointer (some ⟨b1, off1 + k * 4, none⟩) := by simpa using hd ⟨14, .data⟩ (by simp) rfl (by decide) (by decide) (by decide) _ rfl
              obtain ⟨q3, e0, e1, e2⟩ := hB
              clear hd
              simp only [fill, Act.put, List.map_cons, List.map_nil, List.setIfInBounds_toArray, List.set_cons_succ, List.set_cons_zero] at hK ⊢
              go_wp2
              exact hK _ (fun u hu => by simpa using hu)
            case s16 =>
              intro xs w' hl _ hd hB K hK
              obtain ⟨x0, x1, x2, x3, x4, x5, x6, x7, x8, x9, x10, x11, x12, x13, x14, x15, x16, x17, x18, x19, x20, x21, x22, x23, x24, x25, x26, rfl⟩ := len27 hl
              obtain rfl : x15 = .pointer (some ⟨b1, off1 + k * 4 + 2, none⟩) := by simpa using hd ⟨15, .data⟩ (by simp) rfl (by decide) (by decide) (by decide) _ rfl
              obtain ⟨q3, e0, e1, e2⟩ := hB
              clear hd
              simp only [fill, Act.put, List.map_cons, List.map_nil, List.setIfInBounds_toArray, List.set_cons_succ, List.set_cons_zero] at hK ⊢
              go_wp2
              exact hK _ (fun u hu => by simpa using hu)
            case s17 =>
              intro xs w' hl _ hd hB K hK
              obtain ⟨x0, x1, x2, x3, x4, x5, x6, x7, x8, x9, x10, x11, x12, x13, x14, x15, x16, x17, x18, x19, x20, x21, x22, x23, x24, x25, x26, rfl⟩ := len27 hl
              obtain rfl : x16 = .bool false := by simpa using hd ⟨16, .data⟩ (by simp) rfl (by decide) (by decide) (by decide) _ rfl
              obtain ⟨q3, e0, e1, e2⟩ := hB
              clear hd
              simp only [fill, Act.put, List.map_cons, List.map_nil, List.setIfInBounds_toArray, List.set_cons_succ, List.set_cons_zero] at hK ⊢
              go_wp2
              exact hK _ (fun u hu => by simpa using hu)
            case s18 =>
              intro xs w' hl hold hd hB K hK
              clear hold
              have f17 : xs[17]? = some (.bool false) := hd ⟨17, .guard⟩ (by simp) rfl (by decide) (by decide) (by decide) _ rfl
              clear hd
              obtain ⟨x0, x1, x2, x3, x4, x5, x6, x7, x8, x9, x10, x11, x12, x13, x14, x15, x16, x17, x18, x19, x20, x21, x22, x23, x24, x25, x26, hxs⟩ := len27 hl
              have g17 : x17 = .bool false := by rw [hxs] at f17; simpa using f17
              rw [g17] at hxs
              clear hl f17 g17
              refine sw_skip ?_ (hK _ (fun u hu => by simp at hu))
              rw [hxs]
              kernel_rfl
            case s19 =>
              intro xs w' hl hold hd hB K hK
              clear hold
              have f17 : xs[17]? = some (.bool false) := hd ⟨17, .guard⟩ (by simp) rfl (by decide) (by decide) (by decide) _ rfl
              clear hd
              obtain ⟨x0, x1, x2, x3, x4, x5, x6, x7, x8, x9, x10, x11, x12, x13, x14, x15, x16, x17, x18, x19, x20, x21, x22, x23, x24, x25, x26, hxs⟩ := len27 hl
              have g17 : x17 = .bool false := by rw [hxs] at f17; simpa using f17
              rw [g17] at hxs
              clear hl f17 g17
              refine sw_skip ?_ (hK _ (fun u hu => by simp at hu))
              rw [hxs]
              kernel_rfl
            case s20 =>
              intro xs w' hl hold hd hB K hK
              clear hold
              have f17 : xs[17]? = some (.bool false) := hd ⟨17, .guard⟩ (by simp) rfl (by decide) (by decide) (by decide) _ rfl
              clear hd
              obtain ⟨x0, x1, x2, x3, x4, x5, x6, x7, x8, x9, x10, x11, x12, x13, x14, x15, x16, x17, x18, x19, x20, x21, x22, x23, x24, x25, x26, hxs⟩ := len27 hl
              have g17 : x17 = .bool false := by rw [hxs] at f17; simpa using f17
              rw [g17] at hxs
              clear hl f17 g17
              refine sw_skip ?_ (hK _ (fun u hu => by simp at hu))
              rw [hxs]
              kernel_rfl
            case s21 =>
              intro xs w' hl _ hd hB K hK
              obtain ⟨x0, x1, x2, x3, x4, x5, x6, x7, x8, x9, x10, x11, x12, x13, x14, x15, x16, x17, x18, x19, x20, x21, x22, x23, x24, x25, x26, rfl⟩ := len27 hl
              obtain rfl : x17 = .bool false := by simpa using hd ⟨17, .data⟩ (by simp) rfl (by decide) (by decide) (by decide) _ rfl
              obtain ⟨q3, e0, e1, e2⟩ := hB
              clear hd
              simp only [fill, Act.put, List.map_cons, List.map_nil, List.setIfInBounds_toArray, List.set_cons_succ, List.set_cons_zero] at hK ⊢
              go_wp2
              exact hK _ (fun u hu => by simpa using hu)
            case s22 =>
              intro xs w' hl _ hd hB K hK
              obtain ⟨x0, x1, x2, x3, x4, x5, x6, x7, x8, x9, x10, x11, x12, x13, x14, x15, x16, x17, x18, x19, x20, x21, x22, x23, x24, x25, x26, rfl⟩ := len27 hl
              obtain rfl : x6 = .int .i64 l[k].kind := by simpa using hd ⟨6, .data⟩ (by simp) rfl (by decide) (by decide) (by decide) _ rfl
              obtain rfl : x11 = .string l[k].text := by simpa using hd ⟨11, .data⟩ (by simp) rfl (by decide) (by decide) (by decide) _ rfl
              obtain rfl : x21 = .bool false := by simpa using hd ⟨21, .data⟩ (by simp) rfl (by decide) (by decide) (by decide) _ rfl
              obtain ⟨q3, e0, e1, e2⟩ := hB
              clear hd
              simp only [fill, Act.put, List.map_cons, List.map_nil, List.setIfInBounds_toArray, List.set_cons_succ, List.set_cons_zero] at hK ⊢
              go_wp2
              exact hK _ (fun u hu => by simpa using hu)
            case s25 =>
              intro xs w' hl _ hd hB K hK
              obtain ⟨x0, x1, x2, x3, x4, x5, x6, x7, x8, x9, x10, x11, x12, x13, x14, x15, x16, x17, x18, x19, x20, x21, x22, x23, x24, x25, x26, rfl⟩ := len27 hl
              obtain ⟨q3, e0, e1, e2⟩ := hB
              clear hd
              simp only [fill, Act.put, List.map_cons, List.map_nil, List.setIfInBounds_toArray, List.set_cons_succ, List.set_cons_zero] at hK ⊢
              go_wp2
              exact hK _ (fun u hu => by simpa using hu)
            case sA =>
              intro xs hl hd K hK
              obtain ⟨x0, x1, x2, x3, x4, x5, x6, x7, x8, x9, x10, x11, x12, x13, x14, x15, x16, x17, x18, x19, x20, x21, x22, x23, x24, x25, x26, rfl⟩ := len27 hl
              obtain rfl : x22 = .agg #[.int .i64 l[k].kind, .string l[k].text, .bool false, .slice none 0 0] := by simpa using hd ⟨22, .data⟩ (by simp) rfl (by decide) (by decide) (by decide) _ rfl
              clear hd
              simp only [fill, Act.put, List.map_cons, List.map_nil, List.setIfInBounds_toArray, List.set_cons_succ, List.set_cons_zero] at hK ⊢
              go_wp2
              exact hK
            case sB =>
              intro xs hl hd hva K hK
              obtain ⟨x0, x1, x2, x3, x4, x5, x6, x7, x8, x9, x10, x11, x12, x13, x14, x15, x16, x17, x18, x19, x20, x21, x22, x23, x24, x25, x26, rfl⟩ := len27 hl
              obtain rfl : x1 = .slice ab L.length cb := by simpa using hd ⟨1, .data⟩ (by simp) rfl (by decide) (by decide) (by decide) _ rfl
              obtain rfl : x23 = .slice (some ⟨wr.heap.size, 0, none⟩) 1 1 := by simpa using hva
              clear hd
              simp only [fill, Act.put, List.map_cons, List.map_nil, List.setIfInBounds_toArray, List.set_cons_succ, List.set_cons_zero] at hK ⊢
              refine wp_append_tokE rfl (.tmp 62) (.tmp 84) rfl wc.heap.size (.slice ab L.length cb) L rfl HEd.out l[k].kind l[k].text false none 0 0 [] [] rfl ⟨_, rfl, HKI.out.1, HKI.out.2, slice_empty sStr _ _ _ (by simp)⟩ (by simp) (by simp) (by have := HLn.out; omega) (by show wc.heap.size ≤ wr.heap.size; omega) ?_
              intro v' u' h1 h2
              exact hK v' u' ⟨h1, h2⟩
            case sC =>
              intro xs v w2u hl hd hvb hApp K hK
              obtain ⟨x0, x1, x2, x3, x4, x5, x6, x7, x8, x9, x10, x11, x12, x13, x14, x15, x16, x17, x18, x19, x20, x21, x22, x23, x24, x25, x26, rfl⟩ := len27 hl
              obtain rfl : x25 = .pointer (some ⟨w2.heap.size, 3, none⟩) := by simpa using hd ⟨25, .data⟩ (by simp) rfl (by decide) (by decide) (by decide) _ rfl
              obtain rfl : x24 = v := by simpa using hvb
              clear hd
              simp only [fill, Act.put, List.map_cons, List.map_nil, List.setIfInBounds_toArray, List.set_cons_succ, List.set_cons_zero] at hK ⊢
              obtain ⟨hA, hg⟩ := hApp
              obtain ⟨av, cv, hvv, -⟩ := hA.val
              rw [List.length_append, show ([(⟨[.int .i64 l[k].kind, .string l[k].text, .bool false, .slice none 0 0], ⟨l[k].kind, l[k].text, false, []⟩, []⟩ : Elem Tok)] : List (Elem Tok)).length = 1 from rfl] at hvv
              subst hvv
              have hMu := (hg.block w2.heap.size (show w2.heap.size < wr.heap.size by omega) (fun he => by have := hown _ he.symm; omega)).trans HMr.out
              have c3 : w2u.cell? ⟨w2.heap.size, 3, none⟩ = some (.slice ab L.length cb) := cell_of_row _ _ 3 _ _ _ hMu
              have f3 : w2u.frozen? ⟨w2.heap.size, 3, none⟩ = false := frozen_of_row _ _ 3 _ _ hMu
              go_wp2
              exact hK undef _ ⟨_, ⟨hA, hg⟩, rfl⟩
            case done =>
              intro xs v w3 hl hd hva hvb hFin
              obtain ⟨x0, x1, x2, x3, x4, x5, x6, x7, x8, x9, x10, x11, x12, x13, x14, x15, x16, x17, x18, x19, x20, x21, x22, x23, x24, x25, x26, rfl⟩ := len27 hl
              clear hd hva hvb
              simp only [fill, Act.put, List.map_cons, List.map_nil, List.setIfInBounds_toArray, List.set_cons_succ, List.set_cons_zero]
              obtain ⟨u, ⟨hA, hg⟩, rfl⟩ := hFin
              have kb : ∀ b, b < wr.heap.size → (Value.slice ab L.length cb).ownBlock ≠ some b → u.heap[b]? = wr.heap[b]? := fun b hb hn => hg.block b (show b < wr.heap.size by omega) (fun he => hn he.symm)
              have hMu := (kb w2.heap.size (by omega) (fun he => by have := hown _ he; omega)).trans HMr.out
              have HM6 := Lib.hid (blk_set hMu 3 v)
              have HE6 := Lib.hid (hA.same (w' := u.setCell ⟨w2.heap.size, 3, none⟩ v) fun b hb hl => Below.heap_setCell _ _ _ _ (by show b ≠ w2.heap.size; omega))
              have hus : wr.heap.size ≤ u.heap.size := hg.size
              have HK6 : Hid (Kept [w2.heap.size] wc (u.setCell ⟨w2.heap.size, 3, none⟩ v)) := ⟨by have h1 : u.os = wr.os := hg.os; exact h1.trans HKr.out.os, by have h1 : u.tape = wr.tape := hg.tape; exact h1.trans HKr.out.tape, by have h1 : u.output = wr.output := hg.output; exact h1.trans HKr.out.output, by rw [size_setCell]; omega, fun b hb hn => by
                have hne : b ≠ w2.heap.size := by simpa using hn
                exact (Below.heap_setCell _ _ _ _ hne).trans ((kb b (by omega) (fun he => by have := hown _ he; omega)).trans (HKr.out.block b hb hn))⟩
              have HL6 : Hid ((L ++ [(⟨[.int .i64 l[k].kind, .string l[k].text, .bool false, .slice none 0 0], ⟨l[k].kind, l[k].text, false, []⟩, []⟩ : Elem Tok)]).length = k + 1 - n) := by show _ = _; rw [List.length_append, HLn.out]; show _ + 1 = _; omega
              have HD6 : Hid ((L ++ [(⟨[.int .i64 l[k].kind, .string l[k].text, .bool false, .slice none 0 0], ⟨l[k].kind, l[k].text, false, []⟩, []⟩ : Elem Tok)]).map (·.d) = (bodyFrom l n).take (k + 1 - n)) := by show _ = _; rw [HT.out, List.map_append, HD.out]; simp
              have HF6 : Hid (∀ x ∈ L ++ [(⟨[.int .i64 l[k].kind, .string l[k].text, .bool false, .slice none 0 0], ⟨l[k].kind, l[k].text, false, []⟩, []⟩ : Elem Tok)], x.fp = []) := fun x hx => by
                rcases List.mem_append.1 hx with h | h
                · exact HFP.out x h
                · obtain rfl := List.mem_singleton.1 h; rfl
              clear hA hg kb hMu HMr HE HD HFP HKr HLn HT q3 e0 e1 e2
              go_wp2
              go_roundw
              case rel => exact ⟨k + 1, v, _, by omega, by omega, by go_num, HL6, HM6, HE6, HD6, HF6, HK6⟩
              case measure => simp [intOf]; omega
          · rw [hsp] at e2 HT
            clear hsp
            go_wp2
            refine wp_region_app (P := Try.prog) (by kernel_rfl) (by kernel_rfl) 23 24 26 (by kernel_rfl) (by kernel_rfl) (by decide) (by decide) rfl rfl rfl [some (.pointer (some ⟨w2.heap.size, 3, none⟩)), some (.slice ab L.length cb), some (.slice (some ⟨b1, off1, none⟩) l.length cap), some (.int .i64 (k : Int)), some (.pointer (some ⟨b1, off1 + k * 4, none⟩)), some (.pointer (some ⟨b1, off1 + k * 4, none⟩)), some (.int .i64 l[k].kind), some (.slice (some ⟨b1, off1, none⟩) l.length cap), some (.int .i64 (k : Int)), some (.pointer (some ⟨b1, off1 + k * 4, none⟩)), some (.pointer (some ⟨b1, off1 + k * 4 + 1, none⟩)), some (.string l[k].text), some (.slice (some ⟨b1, off1, none⟩) l.length cap), some (.int .i64 (k : Int)), some (.pointer (some ⟨b1, off1 + k * 4, none⟩)), some (.pointer (some ⟨b1, off1 + k * 4 + 2, none⟩)), some (.bool true), some (.bool true), some (.int .i64 (k : Int)), some (.int .i64 (n : Int)), some (.bool (decide (n < k))), some (.bool (decide (n < k))), some (.agg #[.int .i64 l[k].kind, .string l[k].text, .bool (decide (n < k)), .slice none 0 0]), none, none, some (.pointer (some ⟨w2.heap.size, 3, none⟩)), none] (.slice (some ⟨wr.heap.size, 0, none⟩) 1 1) ((({ wr with drawn := wr.drawn + 1 } : World).alloc (.cells #[.int .i64 l[k].kind, .string l[k].text, .bool (decide (n < k)), .slice none 0 0] 89))) (fun v u => RowE sTok wc.heap.size 89 v (L ++ [(⟨[.int .i64 l[k].kind, .string l[k].text, .bool (decide (n < k)), .slice none 0 0], ⟨l[k].kind, l[k].text, (decide (n < k)), []⟩, []⟩ : Elem Tok)]) u ∧ ({ wr with drawn := wr.drawn + 1 } : World).grownBy u (Value.slice ab L.length cb).ownBlock) (fun v u => ∃ u2, (RowE sTok wc.heap.size 89 v (L ++ [(⟨[.int .i64 l[k].kind, .string l[k].text, .bool (decide (n < k)), .slice none 0 0], ⟨l[k].kind, l[k].text, (decide (n < k)), []⟩, []⟩ : Elem Tok)]) u2 ∧ ({ wr with drawn := wr.drawn + 1 } : World).grownBy u2 (Value.slice ab L.length cb).ownBlock) ∧ u = u2.setCell ⟨w2.heap.size, 3, none⟩ v) (fun u => u.cell? ⟨w2.heap.size, 3, none⟩ = some (.slice ab L.length cb) ∧ u.cell? ⟨b1, off1 + k * 4, none⟩ = some (.int .i64 l[k].kind) ∧ u.cell? ⟨b1, off1 + k * 4 + 1, none⟩ = some (.string l[k].text) ∧ u.cell? ⟨b1, off1 + k * 4 + 2, none⟩ = some (.bool true)) ?b0 ?b1 ?b2 (cons_all ⟨.inr (.inr (.inr ?s0)), .inr (.inr (.inr ?s1)), .inr (.inr (.inr ?s2)), .inr (.inr (.inr ?s3)), .inr (.inr (.inr ?s4)), .inr (.inr (.inr ?s5)), .inr (.inr (.inr ?s6)), .inr (.inr (.inr ?s7)), .inr (.inr (.inr ?s8)), .inr (.inr (.inr ?s9)), .inr (.inr (.inr ?s10)), .inr (.inr (.inr ?s11)), .inr (.inr (.inr ?s12)), .inr (.inr (.inr ?s13)), .inr (.inr (.inr ?s14)), .inr (.inr (.inr ?s15)), .inr (.inr (.inr ?s16)), .inr (.inr (.inr ?s17)), .inr (.inr (.inr ?s18)), .inr (.inr (.inr ?s19)), .inr (.inr (.inr ?s20)), .inr (.inr (.inr ?s21)), .inr (.inr (.inr ?s22)), .inl rfl, .inr (.inl rfl), .inr (.inr (.inr ?s25)), .inr (.inr (.inl rfl)), trivial⟩) ?sA ?sB ?sC ?done
            case b0 =>
              exact ⟨q3, e0, e1, e2⟩
            case b1 =>
              have hbb := alloc_below' ({ wr with drawn := wr.drawn + 1 } : World) (.cells #[.int .i64 l[k].kind, .string l[k].text, .bool (decide (n < k)), .slice none 0 0] 89)
              exact ⟨(hbb.cell (p := ⟨w2.heap.size, 3, none⟩) (show w2.heap.size < wr.heap.size by omega)).trans q3, (hbb.cell (p := ⟨b1, off1 + k * 4, none⟩) (show b1 < wr.heap.size by omega)).trans e0, (hbb.cell (p := ⟨b1, off1 + k * 4 + 1, none⟩) (show b1 < wr.heap.size by omega)).trans e1, (hbb.cell (p := ⟨b1, off1 + k * 4 + 2, none⟩) (show b1 < wr.heap.size by omega)).trans e2⟩
            case b2 =>
              rintro v u ⟨-, hg⟩
              have kb : ∀ b, b < wc.heap.size → u.heap[b]? = wr.heap[b]? := fun b hb => hg.block b (show b < wr.heap.size by omega) (fun he => by have := hown b he.symm; omega)
              exact ⟨(World.cell?_of_block (a := ⟨w2.heap.size, 3, none⟩) (kb w2.heap.size (by omega))).trans q3, (World.cell?_of_block (a := ⟨b1, off1 + k * 4, none⟩) (kb b1 (by omega))).trans e0, (World.cell?_of_block (a := ⟨b1, off1 + k * 4 + 1, none⟩) (kb b1 (by omega))).trans e1, (World.cell?_of_block (a := ⟨b1, off1 + k * 4 + 2, none⟩) (kb b1 (by omega))).trans e2⟩
            case s0 =>
              intro xs w' hl _ hd hB K hK
              obtain ⟨x0, x1, x2, x3, x4, x5, x6, x7, x8, x9, x10, x11, x12, x13, x14, x15, x16, x17, x18, x19, x20, x21, x22, x23, x24, x25, x26, rfl⟩ := len27 hl
              obtain ⟨q3, e0, e1, e2⟩ := hB
              clear hd
              simp only [fill, Act.put, List.map_cons, List.map_nil, List.setIfInBounds_toArray, List.set_cons_succ, List.set_cons_zero] at hK ⊢
              go_wp2
              exact hK _ (fun u hu => by simpa using hu)
            case s1 =>
              intro xs w' hl _ hd hB K hK
              obtain ⟨x0, x1, x2, x3, x4, x5, x6, x7, x8, x9, x10, x11, x12, x13, x14, x15, x16, x17, x18, x19, x20, x21, x22, x23, x24, x25, x26, rfl⟩ := len27 hl
              obtain rfl : x0 = .pointer (some ⟨w2.heap.size, 3, none⟩) := by simpa using hd ⟨0, .data⟩ (by simp) rfl (by decide) (by decide) (by decide) _ rfl
              obtain ⟨q3, e0, e1, e2⟩ := hB
              clear hd
              simp only [fill, Act.put, List.map_cons, List.map_nil, List.setIfInBounds_toArray, List.set_cons_succ, List.set_cons_zero] at hK ⊢
              go_wp2
              exact hK _ (fun u hu => by simpa using hu)
            case s2 =>
              intro xs w' hl _ hd hB K hK
              obtain ⟨x0, x1, x2, x3, x4, x5, x6, x7, x8, x9, x10, x11, x12, x13, x14, x15, x16, x17, x18, x19, x20, x21, x22, x23, x24, x25, x26, rfl⟩ := len27 hl
              obtain ⟨q3, e0, e1, e2⟩ := hB
              clear hd
              simp only [fill, Act.put, List.map_cons, List.map_nil, List.setIfInBounds_toArray, List.set_cons_succ, List.set_cons_zero] at hK ⊢
              go_wp2
              exact hK _ (fun u hu => by simpa using hu)
            case s3 =>
              intro xs w' hl _ hd hB K hK
              obtain ⟨x0, x1, x2, x3, x4, x5, x6, x7, x8, x9, x10, x11, x12, x13, x14, x15, x16, x17, x18, x19, x20, x21, x22, x23, x24, x25, x26, rfl⟩ := len27 hl
              obtain ⟨q3, e0, e1, e2⟩ := hB
              clear hd
              simp only [fill, Act.put, List.map_cons, List.map_nil, List.setIfInBounds_toArray, List.set_cons_succ, List.set_cons_zero] at hK ⊢
              go_wp2
              exact hK _ (fun u hu => by simpa using hu)
            case s4 =>
              intro xs w' hl _ hd hB K hK
              obtain ⟨x0, x1, x2, x3, x4, x5, x6, x7, x8, x9, x10, x11, x12, x13, x14, x15, x16, x17, x18, x19, x20, x21, x22, x23, x24, x25, x26, rfl⟩ := len27 hl
              obtain rfl : x2 = .slice (some ⟨b1, off1, none⟩) l.length cap := by simpa using hd ⟨2, .data⟩ (by simp) rfl (by decide) (by decide) (by decide) _ rfl
              obtain rfl : x3 = .int .i64 (k : Int) := by simpa using hd ⟨3, .data⟩ (by simp) rfl (by decide) (by decide) (by decide) _ rfl
              obtain ⟨q3, e0, e1, e2⟩ := hB
              clear hd
              simp only [fill, Act.put, List.map_cons, List.map_nil, List.setIfInBounds_toArray, List.set_cons_succ, List.set_cons_zero] at hK ⊢
              go_wp2
              exact hK _ (fun u hu => by simpa using hu)
            case s5 =>
              intro xs w' hl _ hd hB K hK
              obtain ⟨x0, x1, x2, x3, x4, x5, x6, x7, x8, x9, x10, x11, x12, x13, x14, x15, x16, x17, x18, x19, x20, x21, x22, x23, x24, x25, x26, rfl⟩ := len27 hl
              obtain rfl : x4 = .pointer (some ⟨b1, off1 + k * 4, none⟩) := by simpa using hd ⟨4, .data⟩ (by simp) rfl (by decide) (by decide) (by decide) _ rfl
              obtain ⟨q3, e0, e1, e2⟩ := hB
              clear hd
              simp only [fill, Act.put, List.map_cons, List.map_nil, List.setIfInBounds_toArray, List.set_cons_succ, List.set_cons_zero] at hK ⊢
              go_wp2
              exact hK _ (fun u hu => by simpa using hu)
            case s6 =>
              intro xs w' hl _ hd hB K hK
              obtain ⟨x0, x1, x2, x3, x4, x5, x6, x7, x8, x9, x10, x11, x12, x13, x14, x15, x16, x17, x18, x19, x20, x21, x22, x23, x24, x25, x26, rfl⟩ := len27 hl
              obtain rfl : x5 = .pointer (some ⟨b1, off1 + k * 4, none⟩) := by simpa using hd ⟨5, .data⟩ (by simp) rfl (by decide) (by decide) (by decide) _ rfl
              obtain ⟨q3, e0, e1, e2⟩ := hB
              clear hd
              simp only [fill, Act.put, List.map_cons, List.map_nil, List.setIfInBounds_toArray, List.set_cons_succ, List.set_cons_zero] at hK ⊢
              go_wp2
              exact hK _ (fun u hu => by simpa using hu)
            case s7 =>
              intro xs w' hl _ hd hB K hK
              obtain ⟨x0, x1, x2, x3, x4, x5, x6, x7, x8, x9, x10, x11, x12, x13, x14, x15, x16, x17, x18, x19, x20, x21, x22, x23, x24, x25, x26, rfl⟩ := len27 hl
              obtain ⟨q3, e0, e1, e2⟩ := hB
              clear hd
              simp only [fill, Act.put, List.map_cons, List.map_nil, List.setIfInBounds_toArray, List.set_cons_succ, List.set_cons_zero] at hK ⊢
              go_wp2
              exact hK _ (fun u hu => by simpa using hu)
            case s8 =>
              intro xs w' hl _ hd hB K hK
              obtain ⟨x0, x1, x2, x3, x4, x5, x6, x7, x8, x9, x10, x11, x12, x13, x14, x15, x16, x17, x18, x19, x20, x21, x22, x23, x24, x25, x26, rfl⟩ := len27 hl
              obtain ⟨q3, e0, e1, e2⟩ := hB
              clear hd
              simp only [fill, Act.put, List.map_cons, List.map_nil, List.setIfInBounds_toArray, List.set_cons_succ, List.set_cons_zero] at hK ⊢
              go_wp2
              exact hK _ (fun u hu => by simpa using hu)
            case s9 =>
              intro xs w' hl _ hd hB K hK
              obtain ⟨x0, x1, x2, x3, x4, x5, x6, x7, x8, x9, x10, x11, x12, x13, x14, x15, x16, x17, x18, x19, x20, x21, x22, x23, x24, x25, x26, rfl⟩ := len27 hl
              obtain rfl : x7 = .slice (some ⟨b1, off1, none⟩) l.length cap := by simpa using hd ⟨7, .data⟩ (by simp) rfl (by decide) (by decide) (by decide) _ rfl
              obtain rfl : x8 = .int .i64 (k : Int) := by simpa using hd ⟨8, .data⟩ (by simp) rfl (by decide) (by decide) (by decide) _ rfl
              obtain ⟨q3, e0, e1, e2⟩ := hB
              clear hd
              simp only [fill, Act.put, List.map_cons, List.map_nil, List.setIfInBounds_toArray, List.set_cons_succ, List.set_cons_zero] at hK ⊢
              go_wp2
              exact hK _ (fun u hu => by simpa using hu)
            case s10 =>
              intro xs w' hl _ hd hB K hK
              obtain ⟨x0, x1, x2, x3, x4, x5, x6, x7, x8, x9, x10, x11, x12, x13, x14, x15, x16, x17, x18, x19, x20, x21, x22, x23, x24, x25, x26, rfl⟩ := len27 hl
              obtain rfl : x9 = .pointer (some ⟨b1, off1 + k * 4, none⟩) := by simpa using hd ⟨9, .data⟩ (by simp) rfl (by decide) (by decide) (by decide) _ rfl
              obtain ⟨q3, e0, e1, e2⟩ := hB
              clear hd
              simp only [fill, Act.put, List.map_cons, List.map_nil, List.setIfInBounds_toArray, List.set_cons_succ, List.set_cons_zero] at hK ⊢
              go_wp2
              exact hK _ (fun u hu => by simpa using hu)
            case s11 =>
              intro xs w' hl _ hd hB K hK
              obtain ⟨x0, x1, x2, x3, x4, x5, x6, x7, x8, x9, x10, x11, x12, x13, x14, x15, x16, x17, x18, x19, x20, x21, x22, x23, x24, x25, x26, rfl⟩ := len27 hl
              obtain rfl : x10 = .pointer (some ⟨b1, off1 + k * 4 + 1, none⟩) := by simpa using hd ⟨10, .data⟩ (by simp) rfl (by decide) (by decide) (by decide) _ rfl
              obtain ⟨q3, e0, e1, e2⟩ := hB
              clear hd
              simp only [fill, Act.put, List.map_cons, List.map_nil, List.setIfInBounds_toArray, List.set_cons_succ, List.set_cons_zero] at hK ⊢
              go_wp2
              exact hK _ (fun u hu => by simpa using hu)
            case s12 =>
              intro xs w' hl _ hd hB K hK
              obtain ⟨x0, x1, x2, x3, x4, x5, x6, x7, x8, x9, x10, x11, x12, x13, x14, x15, x16, x17, x18, x19, x20, x21, x22, x23, x24, x25, x26, rfl⟩ := len27 hl
              obtain ⟨q3, e0, e1, e2⟩ := hB
              clear hd
              simp only [fill, Act.put, List.map_cons, List.map_nil, List.setIfInBounds_toArray, List.set_cons_succ, List.set_cons_zero] at hK ⊢
              go_wp2
              exact hK _ (fun u hu => by simpa using hu)
            case s13 =>
              intro xs w' hl _ hd hB K hK
              obtain ⟨x0, x1, x2, x3, x4, x5, x6, x7, x8, x9, x10, x11, x12, x13, x14, x15, x16, x17, x18, x19, x20, x21, x22, x23, x24, x25, x26, rfl⟩ := len27 hl
              obtain ⟨q3, e0, e1, e2⟩ := hB
              clear hd
              simp only [fill, Act.put, List.map_cons, List.map_nil, List.setIfInBounds_toArray, List.set_cons_succ, List.set_cons_zero] at hK ⊢
              go_wp2
              exact hK _ (fun u hu => by simpa using hu)
            case s14 =>
              intro xs w' hl _ hd hB K hK
              obtain ⟨x0, x1, x2, x3, x4, x5, x6, x7, x8, x9, x10, x11, x12, x13, x14, x15, x16, x17, x18, x19, x20, x21, x22, x23, x24, x25, x26, rfl⟩ := len27 hl
              obtain rfl : x12 = .slice (some ⟨b1, off1, none⟩) l.length cap := by simpa using hd ⟨12, .data⟩ (by simp) rfl (by decide) (by decide) (by decide) _ rfl
              obtain rfl : x13 = .int .i64 (k : Int) := by simpa using hd ⟨13, .data⟩ (by simp) rfl (by decide) (by decide) (by decide) _ rfl
              obtain ⟨q3, e0, e1, e2⟩ := hB
              clear hd
              simp only [fill, Act.put, List.map_cons, List.map_nil, List.setIfInBounds_toArray, List.set_cons_succ, List.set_cons_zero] at hK ⊢
              go_wp2
              exact hK _ (fun u hu => by simpa using hu)
            case s15 =>
              intro xs w' hl _ hd hB K hK
              obtain ⟨x0, x1, x2, x3, x4, x5, x6, x7, x8, x9, x10, x11, x12, x13, x14, x15, x16, x17, x18, x19, x20, x21, x22, x23, x24, x25, x26, rfl⟩ := len27 hl
              obtain rfl : x14 = .pointer (some ⟨b1, off1 + k * 4, none⟩) := by simpa using hd ⟨14, .data⟩ (by simp) rfl (by decide) (by decide) (by decide) _ rfl
              obtain ⟨q3, e0, e1, e2⟩ := hB
              clear hd
              simp only [fill, Act.put, List.map_cons, List.map_nil, List.setIfInBounds_toArray, List.set_cons_succ, List.set_cons_zero] at hK ⊢
              go_wp2
              exact hK _ (fun u hu => by simpa using hu)
            case s16 =>
              intro xs w' hl _ hd hB K hK
              obtain ⟨x0, x1, x2, x3, x4, x5, x6, x7, x8, x9, x10, x11, x12, x13, x14, x15, x16, x17, x18, x19, x20, x21, x22, x23, x24, x25, x26, rfl⟩ := len27 hl
              obtain rfl : x15 = .pointer (some ⟨b1, off1 + k * 4 + 2, none⟩) := by simpa using hd ⟨15, .data⟩ (by simp) rfl (by decide) (by decide) (by decide) _ rfl
              obtain ⟨q3, e0, e1, e2⟩ := hB
              clear hd
              simp only [fill, Act.put, List.map_cons, List.map_nil, List.setIfInBounds_toArray, List.set_cons_succ, List.set_cons_zero] at hK ⊢
              go_wp2
              exact hK _ (fun u hu => by simpa using hu)
            case s17 =>
              intro xs w' hl _ hd hB K hK
              obtain ⟨x0, x1, x2, x3, x4, x5, x6, x7, x8, x9, x10, x11, x12, x13, x14, x15, x16, x17, x18, x19, x20, x21, x22, x23, x24, x25, x26, rfl⟩ := len27 hl
              obtain rfl : x16 = .bool true := by simpa using hd ⟨16, .data⟩ (by simp) rfl (by decide) (by decide) (by decide) _ rfl
              obtain ⟨q3, e0, e1, e2⟩ := hB
              clear hd
              simp only [fill, Act.put, List.map_cons, List.map_nil, List.setIfInBounds_toArray, List.set_cons_succ, List.set_cons_zero] at hK ⊢
              go_wp2
              exact hK _ (fun u hu => by simpa using hu)
            case s18 =>
              intro xs w' hl hold hd hB K hK
              clear hold
              have f17 : xs[17]? = some (.bool true) := hd ⟨17, .guard⟩ (by simp) rfl (by decide) (by decide) (by decide) _ rfl
              clear hd
              obtain ⟨x0, x1, x2, x3, x4, x5, x6, x7, x8, x9, x10, x11, x12, x13, x14, x15, x16, x17, x18, x19, x20, x21, x22, x23, x24, x25, x26, hxs⟩ := len27 hl
              have g17 : x17 = .bool true := by rw [hxs] at f17; simpa using f17
              rw [g17] at hxs
              clear hl f17 g17
              obtain ⟨q3, e0, e1, e2⟩ := hB
              simp only [hxs, fill, Act.put, List.map_cons, List.map_nil, List.setIfInBounds_toArray, List.set_cons_succ, List.set_cons_zero] at hK ⊢
              refine wpList_guarded (by kernel_rfl) ?_
              go_wp2
              exact hK _ (fun u hu => by simpa using hu)
            case s19 =>
              intro xs w' hl hold hd hB K hK
              clear hold
              have f17 : xs[17]? = some (.bool true) := hd ⟨17, .guard⟩ (by simp) rfl (by decide) (by decide) (by decide) _ rfl
              clear hd
              obtain ⟨x0, x1, x2, x3, x4, x5, x6, x7, x8, x9, x10, x11, x12, x13, x14, x15, x16, x17, x18, x19, x20, x21, x22, x23, x24, x25, x26, hxs⟩ := len27 hl
              have g17 : x17 = .bool true := by rw [hxs] at f17; simpa using f17
              rw [g17] at hxs
              clear hl f17 g17
              obtain ⟨q3, e0, e1, e2⟩ := hB
              simp only [hxs, fill, Act.put, List.map_cons, List.map_nil, List.setIfInBounds_toArray, List.set_cons_succ, List.set_cons_zero] at hK ⊢
              refine wpList_guarded (by kernel_rfl) ?_
              go_wp2
              exact hK _ (fun u hu => by simpa using hu)
            case s20 =>
              intro xs w' hl hold hd hB K hK
              clear hold
              have f18 : xs[18]? = some (.int .i64 (k : Int)) := hd ⟨18, .data⟩ (by simp) rfl (by decide) (by decide) (by decide) _ rfl
              have f19 : xs[19]? = some (.int .i64 (n : Int)) := hd ⟨19, .data⟩ (by simp) rfl (by decide) (by decide) (by decide) _ rfl
              have f17 : xs[17]? = some (.bool true) := hd ⟨17, .guard⟩ (by simp) rfl (by decide) (by decide) (by decide) _ rfl
              clear hd
              obtain ⟨x0, x1, x2, x3, x4, x5, x6, x7, x8, x9, x10, x11, x12, x13, x14, x15, x16, x17, x18, x19, x20, x21, x22, x23, x24, x25, x26, hxs⟩ := len27 hl
              have g18 : x18 = .int .i64 (k : Int) := by rw [hxs] at f18; simpa using f18
              have g19 : x19 = .int .i64 (n : Int) := by rw [hxs] at f19; simpa using f19
              have g17 : x17 = .bool true := by rw [hxs] at f17; simpa using f17
              rw [g18, g19, g17] at hxs
              clear hl f18 g18 f19 g19 f17 g17
              obtain ⟨q3, e0, e1, e2⟩ := hB
              simp only [hxs, fill, Act.put, List.map_cons, List.map_nil, List.setIfInBounds_toArray, List.set_cons_succ, List.set_cons_zero] at hK ⊢
              refine wpList_guarded (by kernel_rfl) ?_
              go_wp2
              exact hK _ (fun u hu => by simpa using hu)
            case s21 =>
              intro xs w' hl _ hd hB K hK
              obtain ⟨x0, x1, x2, x3, x4, x5, x6, x7, x8, x9, x10, x11, x12, x13, x14, x15, x16, x17, x18, x19, x20, x21, x22, x23, x24, x25, x26, rfl⟩ := len27 hl
              obtain rfl : x17 = .bool true := by simpa using hd ⟨17, .data⟩ (by simp) rfl (by decide) (by decide) (by decide) _ rfl
              obtain rfl : x20 = .bool (decide (n < k)) := by simpa using hd ⟨20, .data⟩ (by simp) rfl (by decide) (by decide) (by decide) _ rfl
              obtain ⟨q3, e0, e1, e2⟩ := hB
              clear hd
              simp only [fill, Act.put, List.map_cons, List.map_nil, List.setIfInBounds_toArray, List.set_cons_succ, List.set_cons_zero] at hK ⊢
              go_wp2
              exact hK _ (fun u hu => by simpa using hu)
            case s22 =>
              intro xs w' hl _ hd hB K hK
              obtain ⟨x0, x1, x2, x3, x4, x5, x6, x7, x8, x9, x10, x11, x12, x13, x14, x15, x16, x17, x18, x19, x20, x21, x22, x23, x24, x25, x26, rfl⟩ := len27 hl
              obtain rfl : x6 = .int .i64 l[k].kind := by simpa using hd ⟨6, .data⟩ (by simp) rfl (by decide) (by decide) (by decide) _ rfl
              obtain rfl : x11 = .string l[k].text := by simpa using hd ⟨11, .data⟩ (by simp) rfl (by decide) (by decide) (by decide) _ rfl
              obtain rfl : x21 = .bool (decide (n < k)) := by simpa using hd ⟨21, .data⟩ (by simp) rfl (by decide) (by decide) (by decide) _ rfl
              obtain ⟨q3, e0, e1, e2⟩ := hB
              clear hd
              simp only [fill, Act.put, List.map_cons, List.map_nil, List.setIfInBounds_toArray, List.set_cons_succ, List.set_cons_zero] at hK ⊢
              go_wp2
              exact hK _ (fun u hu => by simpa using hu)
            case s25 =>
              intro xs w' hl _ hd hB K hK
              obtain ⟨x0, x1, x2, x3, x4, x5, x6, x7, x8, x9, x10, x11, x12, x13, x14, x15, x16, x17, x18, x19, x20, x21, x22, x23, x24, x25, x26, rfl⟩ := len27 hl
              obtain ⟨q3, e0, e1, e2⟩ := hB
              clear hd
              simp only [fill, Act.put, List.map_cons, List.map_nil, List.setIfInBounds_toArray, List.set_cons_succ, List.set_cons_zero] at hK ⊢
              go_wp2
              exact hK _ (fun u hu => by simpa using hu)
            case sA =>
              intro xs hl hd K hK
              obtain ⟨x0, x1, x2, x3, x4, x5, x6, x7, x8, x9, x10, x11, x12, x13, x14, x15, x16, x17, x18, x19, x20, x21, x22, x23, x24, x25, x26, rfl⟩ := len27 hl
              obtain rfl : x22 = .agg #[.int .i64 l[k].kind, .string l[k].text, .bool (decide (n < k)), .slice none 0 0] := by simpa using hd ⟨22, .data⟩ (by simp) rfl (by decide) (by decide) (by decide) _ rfl
              clear hd
              simp only [fill, Act.put, List.map_cons, List.map_nil, List.setIfInBounds_toArray, List.set_cons_succ, List.set_cons_zero] at hK ⊢
              go_wp2
              exact hK
            case sB =>
              intro xs hl hd hva K hK
              obtain ⟨x0, x1, x2, x3, x4, x5, x6, x7, x8, x9, x10, x11, x12, x13, x14, x15, x16, x17, x18, x19, x20, x21, x22, x23, x24, x25, x26, rfl⟩ := len27 hl
              obtain rfl : x1 = .slice ab L.length cb := by simpa using hd ⟨1, .data⟩ (by simp) rfl (by decide) (by decide) (by decide) _ rfl
              obtain rfl : x23 = .slice (some ⟨wr.heap.size, 0, none⟩) 1 1 := by simpa using hva
              clear hd
              simp only [fill, Act.put, List.map_cons, List.map_nil, List.setIfInBounds_toArray, List.set_cons_succ, List.set_cons_zero] at hK ⊢
              refine wp_append_tokE rfl (.tmp 62) (.tmp 84) rfl wc.heap.size (.slice ab L.length cb) L rfl HEd.out l[k].kind l[k].text (decide (n < k)) none 0 0 [] [] rfl ⟨_, rfl, HKI.out.1, HKI.out.2, slice_empty sStr _ _ _ (by simp)⟩ (by simp) (by simp) (by have := HLn.out; omega) (by show wc.heap.size ≤ wr.heap.size; omega) ?_
              intro v' u' h1 h2
              exact hK v' u' ⟨h1, h2⟩
            case sC =>
              intro xs v w2u hl hd hvb hApp K hK
              obtain ⟨x0, x1, x2, x3, x4, x5, x6, x7, x8, x9, x10, x11, x12, x13, x14, x15, x16, x17, x18, x19, x20, x21, x22, x23, x24, x25, x26, rfl⟩ := len27 hl
              obtain rfl : x25 = .pointer (some ⟨w2.heap.size, 3, none⟩) := by simpa using hd ⟨25, .data⟩ (by simp) rfl (by decide) (by decide) (by decide) _ rfl
              obtain rfl : x24 = v := by simpa using hvb
              clear hd
              simp only [fill, Act.put, List.map_cons, List.map_nil, List.setIfInBounds_toArray, List.set_cons_succ, List.set_cons_zero] at hK ⊢
              obtain ⟨hA, hg⟩ := hApp
              obtain ⟨av, cv, hvv, -⟩ := hA.val
              rw [List.length_append, show ([(⟨[.int .i64 l[k].kind, .string l[k].text, .bool (decide (n < k)), .slice none 0 0], ⟨l[k].kind, l[k].text, (decide (n < k)), []⟩, []⟩ : Elem Tok)] : List (Elem Tok)).length = 1 from rfl] at hvv
              subst hvv
              have hMu := (hg.block w2.heap.size (show w2.heap.size < wr.heap.size by omega) (fun he => by have := hown _ he.symm; omega)).trans HMr.out
              have c3 : w2u.cell? ⟨w2.heap.size, 3, none⟩ = some (.slice ab L.length cb) := cell_of_row _ _ 3 _ _ _ hMu
              have f3 : w2u.frozen? ⟨w2.heap.size, 3, none⟩ = false := frozen_of_row _ _ 3 _ _ hMu
              go_wp2
              exact hK undef _ ⟨_, ⟨hA, hg⟩, rfl⟩
            case done =>
              intro xs v w3 hl hd hva hvb hFin
              obtain ⟨x0, x1, x2, x3, x4, x5, x6, x7, x8, x9, x10, x11, x12, x13, x14, x15, x16, x17, x18, x19, x20, x21, x22, x23, x24, x25, x26, rfl⟩ := len27 hl
              clear hd hva hvb
              simp only [fill, Act.put, List.map_cons, List.map_nil, List.setIfInBounds_toArray, List.set_cons_succ, List.set_cons_zero]
              obtain ⟨u, ⟨hA, hg⟩, rfl⟩ := hFin
              have kb : ∀ b, b < wr.heap.size → (Value.slice ab L.length cb).ownBlock ≠ some b → u.heap[b]? = wr.heap[b]? := fun b hb hn => hg.block b (show b < wr.heap.size by omega) (fun he => hn he.symm)
              have hMu := (kb w2.heap.size (by omega) (fun he => by have := hown _ he; omega)).trans HMr.out
              have HM6 := Lib.hid (blk_set hMu 3 v)
              have HE6 := Lib.hid (hA.same (w' := u.setCell ⟨w2.heap.size, 3, none⟩ v) fun b hb hl => Below.heap_setCell _ _ _ _ (by show b ≠ w2.heap.size; omega))
              have hus : wr.heap.size ≤ u.heap.size := hg.size
              have HK6 : Hid (Kept [w2.heap.size] wc (u.setCell ⟨w2.heap.size, 3, none⟩ v)) := ⟨by have h1 : u.os = wr.os := hg.os; exact h1.trans HKr.out.os, by have h1 : u.tape = wr.tape := hg.tape; exact h1.trans HKr.out.tape, by have h1 : u.output = wr.output := hg.output; exact h1.trans HKr.out.output, by rw [size_setCell]; omega, fun b hb hn => by
                have hne : b ≠ w2.heap.size := by simpa using hn
                exact (Below.heap_setCell _ _ _ _ hne).trans ((kb b (by omega) (fun he => by have := hown _ he; omega)).trans (HKr.out.block b hb hn))⟩
              have HL6 : Hid ((L ++ [(⟨[.int .i64 l[k].kind, .string l[k].text, .bool (decide (n < k)), .slice none 0 0], ⟨l[k].kind, l[k].text, (decide (n < k)), []⟩, []⟩ : Elem Tok)]).length = k + 1 - n) := by show _ = _; rw [List.length_append, HLn.out]; show _ + 1 = _; omega
              have HD6 : Hid ((L ++ [(⟨[.int .i64 l[k].kind, .string l[k].text, .bool (decide (n < k)), .slice none 0 0], ⟨l[k].kind, l[k].text, (decide (n < k)), []⟩, []⟩ : Elem Tok)]).map (·.d) = (bodyFrom l n).take (k + 1 - n)) := by show _ = _; rw [HT.out, List.map_append, HD.out]; simp
              have HF6 : Hid (∀ x ∈ L ++ [(⟨[.int .i64 l[k].kind, .string l[k].text, .bool (decide (n < k)), .slice none 0 0], ⟨l[k].kind, l[k].text, (decide (n < k)), []⟩, []⟩ : Elem Tok)], x.fp = []) := fun x hx => by
                rcases List.mem_append.1 hx with h | h
                · exact HFP.out x h
                · obtain rfl := List.mem_singleton.1 h; rfl
              clear hA hg kb hMu HMr HE HD HFP HKr HLn HT q3 e0 e1 e2
              go_wp2
              go_roundw
              case rel => exact ⟨k + 1, v, _, by omega, by omega, by go_num, HL6, HM6, HE6, HD6, HF6, HK6⟩
              case measure => simp [intOf]; omega
        · have hkl' : k = l.length := by omega
          have hd := HD.out
          rw [List.take_of_length_le (by rw [bodyFrom_len]; omega)] at hd
          obtain ⟨fpb, hRB, hOB⟩ := rowE_own HE.out HFP.out
          rw [hd] at hRB
          have hP := (sSlice sStr).kept HP.out (fun b hb hx => HPn.out (by have e : b = w2.heap.size := (by simpa using hx); exact e ▸ hb)) HKr.out
          have hO := HO.out.kept (fun b hb hx => HPn.out (by have e : b = w2.heap.size := (by simpa using hx); exact e ▸ hb)) HKr.out
          have hap : ∀ b ∈ fpp, b ∉ fpb := fun b h1 h2 => by have h3 := HPlt.out b h1; have h4 := (hOB.2 b h2).1; omega
          have HR : Hid (sMacro.R wr [.string nm, .bool fn, .slice ap ps.length cp, .slice ab L.length cb] ⟨nm, fn, ps, bodyFrom l n⟩ (fpp ++ fpb)) := ⟨_, _, fpp, fpb, rfl, okn, hP, hRB, rfl⟩
          have HOO := Lib.hid (Own.app (hO.lower (by omega : w.heap.size ≤ _)) (hOB.lower (by omega : w.heap.size ≤ _)) hap)
          have hnw : w.heap.size ∉ fpp ++ fpb := fun hx => by
            rcases List.mem_append.1 hx with h | h
            · have := (HO.out.2 _ h).1; omega
            · have := (hOB.2 _ h).1; omega
          have HBr := Lib.hid (HBc.out.trans (HKr.out.below (lo := w.heap.size) (by intro b hb; have e : b = w2.heap.size := (by simpa using hb); omega) (by omega)))
          have HZr := Lib.hid ((HKr.out.block w.heap.size (by omega) (by simp; omega)).trans HZc.out)
          have q0 : wr.cell? ⟨w2.heap.size, 0, none⟩ = some (.string nm) := cell_of_row _ _ 0 _ _ _ HMr.out
          have q1 : wr.cell? ⟨w2.heap.size, 1, none⟩ = some (.bool fn) := cell_of_row _ _ 1 _ _ _ HMr.out
          have q2 : wr.cell? ⟨w2.heap.size, 2, none⟩ = some (.slice ap ps.length cp) := cell_of_row _ _ 2 _ _ _ HMr.out
          have q3 : wr.cell? ⟨w2.heap.size, 3, none⟩ = some (.slice ab L.length cb) := cell_of_row _ _ 3 _ _ _ HMr.out
          clear hd hRB hOB hP hO hap HEc HD HE HFP HKr HLn
          go_wp2_with fail
          refine (spec_MacroValid _ _ _ _ HR.out).mono ?_
          rintro e w5 ⟨rfl, hb5⟩
          have hB5 := HBr.out.trans (hb5.mono HBr.out.size)
          have HZ5 := Lib.hid (mbox HZr.out hb5)
          have HM5 := Lib.hid (mbox HMr.out hb5)
          have HR5 := Lib.hid (sMacro.below HR.out hb5)
          have HO5 := Lib.hid (HOO.out.grow hb5)
          clear q0 q1 q2 q3 hb5 HR HOO HZr HMr
          cases hok : macOk ⟨nm, fn, ps, bodyFrom l n⟩
          · have HFF := Lib.hid (HF.out.trans (chk_no hok))
            clear hok
            have z0 : w5.cell? ⟨w.heap.size, 0, none⟩ = some (.string ⟨#[]⟩) := cell_of_row _ _ 0 _ _ _ HZ5.out
            have zf0 : w5.frozen? ⟨w.heap.size, 0, none⟩ = false := frozen_of_row _ _ 0 _ _ HZ5.out
            have z1 : w5.cell? ⟨w.heap.size, 1, none⟩ = some (.bool false) := cell_of_row _ _ 1 _ _ _ HZ5.out
            have zf1 : w5.frozen? ⟨w.heap.size, 1, none⟩ = false := frozen_of_row _ _ 1 _ _ HZ5.out
            have z2 : w5.cell? ⟨w.heap.size, 2, none⟩ = some (.slice none 0 0) := cell_of_row _ _ 2 _ _ _ HZ5.out
            have zf2 : w5.frozen? ⟨w.heap.size, 2, none⟩ = false := frozen_of_row _ _ 2 _ _ HZ5.out
            have z3 : w5.cell? ⟨w.heap.size, 3, none⟩ = some (.slice none 0 0) := cell_of_row _ _ 3 _ _ _ HZ5.out
            have zf3 : w5.frozen? ⟨w.heap.size, 3, none⟩ = false := frozen_of_row _ _ 3 _ _ HZ5.out
            have HS := Lib.hid (blk_set (blk_set (blk_set (blk_set HZ5.out 0 (.string ⟨#[]⟩)) 1 (.bool false)) 2 (.slice none 0 0)) 3 (.slice none 0 0))
            have HBF := Lib.hid ((((hB5.setCell (p := ⟨w.heap.size, 0, none⟩) (Nat.le_refl _) (.string ⟨#[]⟩)).setCell (p := ⟨w.heap.size, 1, none⟩) (Nat.le_refl _) (.bool false)).setCell (p := ⟨w.heap.size, 2, none⟩) (Nat.le_refl _) (.slice none 0 0)).setCell (p := ⟨w.heap.size, 3, none⟩) (Nat.le_refl _) (.slice none 0 0))
            go_wp2
            refine bodyPost_ret (results_cell2 rfl _ _ w.heap.size _ _ _ _ rfl HS.out Try.underlying35 rfl (by kernel_rfl)) rfl ?_
            exact mof_no HFF.out HBF.out
          · have HFF := Lib.hid (HF.out.trans (chk_yes hok))
            clear hok
            have q0 : w5.cell? ⟨w2.heap.size, 0, none⟩ = some (.string nm) := cell_of_row _ _ 0 _ _ _ HM5.out
            have q1 : w5.cell? ⟨w2.heap.size, 1, none⟩ = some (.bool fn) := cell_of_row _ _ 1 _ _ _ HM5.out
            have q2 : w5.cell? ⟨w2.heap.size, 2, none⟩ = some (.slice ap ps.length cp) := cell_of_row _ _ 2 _ _ _ HM5.out
            have q3 : w5.cell? ⟨w2.heap.size, 3, none⟩ = some (.slice ab L.length cb) := cell_of_row _ _ 3 _ _ _ HM5.out
            have z0 : w5.cell? ⟨w.heap.size, 0, none⟩ = some (.string ⟨#[]⟩) := cell_of_row _ _ 0 _ _ _ HZ5.out
            have z1 : w5.cell? ⟨w.heap.size, 1, none⟩ = some (.bool false) := cell_of_row _ _ 1 _ _ _ HZ5.out
            have z2 : w5.cell? ⟨w.heap.size, 2, none⟩ = some (.slice none 0 0) := cell_of_row _ _ 2 _ _ _ HZ5.out
            have z3 : w5.cell? ⟨w.heap.size, 3, none⟩ = some (.slice none 0 0) := cell_of_row _ _ 3 _ _ _ HZ5.out
            have zf0 : w5.frozen? ⟨w.heap.size, 0, none⟩ = false := frozen_of_row _ _ 0 _ _ HZ5.out
            have zf1 : w5.frozen? ⟨w.heap.size, 1, none⟩ = false := frozen_of_row _ _ 1 _ _ HZ5.out
            have zf2 : w5.frozen? ⟨w.heap.size, 2, none⟩ = false := frozen_of_row _ _ 2 _ _ HZ5.out
            have zf3 : w5.frozen? ⟨w.heap.size, 3, none⟩ = false := frozen_of_row _ _ 3 _ _ HZ5.out
            have HS := Lib.hid (blk_set (blk_set (blk_set (blk_set HZ5.out 0 (.string nm)) 1 (.bool fn)) 2 (.slice ap ps.length cp)) 3 (.slice ab L.length cb))
            have HBF := Lib.hid ((((hB5.setCell (p := ⟨w.heap.size, 0, none⟩) (Nat.le_refl _) (.string nm)).setCell (p := ⟨w.heap.size, 1, none⟩) (Nat.le_refl _) (.bool fn)).setCell (p := ⟨w.heap.size, 2, none⟩) (Nat.le_refl _) (.slice ap ps.length cp)).setCell (p := ⟨w.heap.size, 3, none⟩) (Nat.le_refl _) (.slice ab L.length cb))
            have HRF := Lib.hid (sMacro.setB (sMacro.setB (sMacro.setB (sMacro.setB HR5.out hnw 0 (.string nm)) hnw 1 (.bool fn)) hnw 2 (.slice ap ps.length cp)) hnw 3 (.slice ab L.length cb))
            have HOF := Lib.hid ((((HO5.out.setCell ⟨w.heap.size, 0, none⟩ (.string nm)).setCell ⟨w.heap.size, 1, none⟩ (.bool fn)).setCell ⟨w.heap.size, 2, none⟩ (.slice ap ps.length cp)).setCell ⟨w.heap.size, 3, none⟩ (.slice ab L.length cb))
            clear HR5 HO5 HM5 HZ5 hB5
            go_wp2
            refine bodyPost_ret (results_cell2 rfl _ _ w.heap.size _ _ _ _ rfl HS.out Try.underlying35 rfl (by kernel_rfl)) rfl ?_
            exact mof_yes (cs := [.string nm, .bool fn, .slice ap ps.length cp, .slice ab L.length cb]) HFF.out HRF.out HOF.out HBF.out

end Go.Proofs.Ythbojipdhgidlab

/- strings.Builder at this program, walked here: what its writers leave. (The library's own contracts don't fit this translation: a builder's copy check ends otherwise.) -/
namespace Go.Proofs.Ythbojipdhgidlab
open Go.RowKit
theorem byte_info : ∃ i, Try.prog.info? 5 = some i ∧ i.zero = some (.int .u8 0) ∧ i.size = 1 ∧ i.bytes = 1 := by
  have h : (Try.prog.info? 5).map (fun i => (i.zero, i.size, i.bytes)) = some (some (.int .u8 0), 1, 1) := by kernel_rfl
  obtain ⟨i, h1, h2⟩ := Option.map_eq_some_iff.1 h
  simp only [Prod.mk.injEq] at h2
  exact ⟨i, h1, h2.1, h2.2.1, h2.2.2⟩

end Go.Proofs.Ythbojipdhgidlab

/- PrintTokens: the program. -/
namespace Go.Proofs.Ythbojipdhgidlab
open Go.RowKit
theorem strCells_snoc (s : ByteArray) : Lib.strCells s ++ [.int .u8 32] = Lib.strCells (s ++ ⟨#[32]⟩) := by
  unfold Lib.strCells; rw [ByteArray.data_append, Array.toList_append, List.map_append]; rfl
theorem strCells_app (s t : ByteArray) : Lib.strCells s ++ Lib.strCells t = Lib.strCells (s ++ t) := by
  unfold Lib.strCells; rw [ByteArray.data_append, Array.toList_append, List.map_append]
theorem kept_cell {b g : Nat} {arr : Array Value} {ty : TypeId} {fr : Nat × Nat} {w w' : World} (hk : Lib.OthersKept 5 (some b) w w') (h : w.heap[g]? = some (.cells arr ty fr)) (hg : g ≠ b) (hty : ty ≠ 5) : w'.heap[g]? = some (.cells arr ty fr) :=
  hk g _ h (fun e => hg (Option.some.inj e)) (fun c fz e => hty (by simp only [Obj.cells.injEq] at e; exact e.2.1))

end Go.Proofs.Ythbojipdhgidlab

/- MacroText of both. (Made by gen_mac7.py.) -/
namespace Go.Proofs.Ythbojipdhgidlab
open Go.RowKit

/-! ### The head's bytes -/
def parL (m : DMacro) : List (List UInt8) := m.params.map (·.data.toList)
theorem hd_list (m : DMacro) : ∀ k, k ≤ m.params.length → (hdTo m k).data.toList = m.name.data.toList ++ [40] ++ Lib.join ((parL m).take k) [44]
  | 0, _ => by
    show (m.name ++ openB).data.toList = _
    rw [ByteArray.data_append, Array.toList_append, List.take_zero, Lib.join_nil, List.append_nil]; rfl
  | k + 1, hk => by
    have ih := hd_list m k (by omega)
    have hk' : k < m.params.length := by omega
    have hx : (parL m)[k]? = some m.params[k].data.toList := by unfold parL; rw [List.getElem?_map, List.getElem?_eq_getElem hk']; rfl
    rw [hdTo, dif_pos hk', ByteArray.data_append, Array.toList_append]
    by_cases h0 : 0 < k
    · rw [if_pos h0, ByteArray.data_append, Array.toList_append, ih]
      obtain ⟨j, rfl⟩ : ∃ j, k = j + 1 := ⟨k - 1, by omega⟩
      cases hp : parL m with
      | nil => rw [hp] at hx; simp at hx
      | cons p r =>
        rw [hp] at hx
        rw [List.take_succ_cons, List.take_succ_cons, Lib.join_cons, Lib.join_cons, Lib.joinTail_take_succ [44] r j _ (by simpa using hx)]
        have : commaB.data.toList = [44] := rfl
        rw [this]
        simp [List.append_assoc]
    · have hz : k = 0 := by omega
      subst hz
      rw [if_neg (by omega), ih]
      cases hp : parL m with
      | nil => rw [hp] at hx; simp at hx
      | cons p r =>
        rw [hp] at hx
        have hpe : p = m.params[0].data.toList := by simpa using hx
        simp [Lib.join_nil, Lib.join_one, hpe]
def joinB (m : DMacro) : ByteArray := ⟨(Lib.join (parL m) [44]).toArray⟩
theorem hd_join (m : DMacro) : hdTo m m.params.length = m.name ++ openB ++ joinB m := by
  have h := hd_list m m.params.length (Nat.le_refl _)
  rw [List.take_of_length_le (by unfold parL; simp)] at h
  apply ByteArray.ext
  apply Array.toList_inj.1
  rw [h, ByteArray.data_append, Array.toList_append, ByteArray.data_append, Array.toList_append]
  show _ = _ ++ (Lib.join (parL m) [44]).toArray.toList
  rw [List.toList_toArray]
  rfl
theorem joinB_nil {m : DMacro} (h : m.params.length = 0) : joinB m = ⟨#[]⟩ := by
  unfold joinB parL
  rw [List.length_eq_zero_iff.1 h]; rfl
theorem name_size {s : ByteArray} (h : oneTok s 1 = true) : s.size ≤ 12 := (name_facts h).2.1
theorem hdTo_size {m : DMacro} (h : macOk m = true) : ∀ k, k ≤ m.params.length → (hdTo m k).size ≤ 13 + 13 * k
  | 0, _ => by
    have := name_size (macOk_facts h).1.1
    show (m.name ++ openB).size ≤ _
    rw [ByteArray.size_append]
    have : openB.size = 1 := rfl
    omega
  | k + 1, hk => by
    have ih := hdTo_size h k (by omega)
    have hk' : k < m.params.length := by omega
    have := name_size ((macOk_facts h).2.1 k hk')
    have : commaB.size = 1 := rfl
    rw [hdTo, dif_pos hk', ByteArray.size_append]
    split
    · rw [ByteArray.size_append]; omega
    · omega
theorem hd_size {m : DMacro} (h : macOk m = true) : (hdTo m m.params.length).size ≤ 65 := by
  have := hdTo_size h _ (Nat.le_refl _)
  have := (macOk_facts h).1.2.2.1
  omega
theorem headOf_size {m : DMacro} (h : macOk m = true) : (headOf m).size ≤ 66 := by
  have := hd_size h
  have := name_size (macOk_facts h).1.1
  unfold headOf
  split
  · rw [ByteArray.size_append]; have : closeB.size = 1 := rfl; omega
  · omega
theorem join_size {m : DMacro} (h : macOk m = true) : (joinB m).size ≤ 65 := by
  have := hd_size h
  rw [hd_join, ByteArray.size_append] at this
  omega
theorem join_len {m : DMacro} (h : macOk m = true) : (Lib.join (m.params.map (·.data.toList)) [44]).length ≤ 65 := by
  have := join_size h
  unfold joinB at this
  have e : (⟨(Lib.join (parL m) [44]).toArray⟩ : ByteArray).size = (Lib.join (parL m) [44]).length := by show (Lib.join (parL m) [44]).toArray.size = _; simp
  rw [e] at this
  exact this
theorem printRes_size (l : List Tok) : (printRes l).1.size ≤ 200 := by
  unfold printRes
  split
  · split
    · show (0 : Nat) ≤ 200; omega
    · rename_i h; show (prTo l l.length).size ≤ 200; omega
  · show (0 : Nat) ≤ 200; omega
theorem printRes_nil {l : List Tok} (h : ¬ 0 < l.length) : printRes l = (⟨#[]⟩, true) := by
  have : l = [] := List.length_eq_zero_iff.1 (by omega)
  subst this; rfl
theorem mt_no {m : DMacro} (h : macOk m = false) : macText m = (⟨#[]⟩, false) := by unfold macText; rw [if_neg (by simp [h])]
theorem mt_pr {m : DMacro} (h : macOk m = true) (h2 : (printRes m.body).2 = false) : macText m = (⟨#[]⟩, false) := by unfold macText; rw [if_pos h, if_pos (.inl h2)]
theorem mt_long {m : DMacro} (h : macOk m = true) (h2 : 200 < (macOut m).size) : macText m = (⟨#[]⟩, false) := by unfold macText; rw [if_pos h, if_pos (.inr h2)]
theorem mt_yes {m : DMacro} (h : macOk m = true) (h2 : (printRes m.body).2 = true) (h3 : ¬ 200 < (macOut m).size) : macText m = (macOut m, true) := by
  unfold macText; rw [if_pos h, if_neg (by rintro (h | h); · rw [h2] at h; simp at h
                                           · exact h3 h)]
theorem out_body {m : DMacro} (h : 0 < m.body.length) : macOut m = headOf m ++ ⟨#[32]⟩ ++ (printRes m.body).1 := by unfold macOut; rw [if_pos h]
theorem out_bare {m : DMacro} (h : ¬ 0 < m.body.length) : macOut m = headOf m := by unfold macOut; rw [if_neg h]
theorem head_no {m : DMacro} (h : m.function = false) : headOf m = m.name := by unfold headOf; rw [if_neg (by simp [h])]
theorem head_yes {m : DMacro} (h : m.function = true) : headOf m = hdTo m m.params.length ++ closeB := by unfold headOf; rw [if_pos h]

/-- What MacroText hands back. -/
def MText (m : DMacro) (w : World) (e : Ending) (w' : World) : Prop := e = .returned (.tuple #[.string (macText m).1, .bool (macText m).2]) ∧ Below w.heap.size w w'
theorem mtext_ret {m : DMacro} {s : ByteArray} {b : Bool} {w w' : World} (h : macText m = (s, b)) (hb : Below w.heap.size w w') : MText m w (.returned (.tuple #[.string s, .bool b])) w' := ⟨by rw [h], hb⟩

/-- A sum of texts under a name of its own. -/
theorem add_name (a b : ByteArray) (h : a.size + b.size ≤ 1000000) : ∃ c : ByteArray, Hid (c = a ++ b) ∧ (∀ W : World, (Op.stringOp .add a b).run Try.prog W = .ok (.string c) W) ∧ c.size = a.size + b.size :=
  ⟨a ++ b, rfl, fun W => run_string_add_sum (P := Try.prog) W a b (by omega), ByteArray.size_append⟩
theorem one_size (c : UInt8) : (⟨#[c]⟩ : ByteArray).size = 1 := rfl

end Go.Proofs.Ythbojipdhgidlab

/- Macros are drawn. (Made by gen_drawmac.py.) -/
namespace Go.Proofs.Ythbojipdhgidlab
open Go.RowKit

/-- A drawn macro: small. -/
def okMac (m : DMacro) : Prop := m.name.size ≤ 1000 ∧ m.params.length ≤ 100 ∧ m.body.length ≤ 100 ∧ ∀ t ∈ m.body, t.hidden.length ≤ 3
/-- What is read out of tokens is small, and hides nothing. -/
theorem of_small (l : List Tok) : (macOf l).1.name.size ≤ 12 ∧ (macOf l).1.params.length ≤ 4 ∧ (macOf l).1.body.length ≤ 20 ∧ ∀ t ∈ (macOf l).1.body, t.hidden = [] := by
  rcases h : macOf l with ⟨m, ok⟩
  cases ok
  · have := macOf_no h
    subst this
    exact ⟨by show (0 : Nat) ≤ 12; omega, by show (0 : Nat) ≤ 4; omega, by show (0 : Nat) ≤ 20; omega, fun t ht => by simp [zeroMac] at ht⟩
  · obtain ⟨⟨h1, h2, h3, h4, h5⟩, h6, h7⟩ := macOk_facts (macOf_ok h)
    refine ⟨name_size h1, h3, h5, fun t ht => ?_⟩
    obtain ⟨k, hk, rfl⟩ := List.getElem_of_mem ht
    exact (bodOk_facts hk (h7 k hk)).2.1
/-- A macro is drawn, by at most n picks. -/
def DrawnMac (rb p n : Nat) (w : World) (e : Ending) (w' : World) : Prop :=
  ∃ (nm : ByteArray) (f : Bool) (a2 a3 : Option Addr) (n2 c2 n3 c3 : Nat) (ps : List ByteArray) (bd : List Tok) (fp : List Nat) (q : Nat), e = .returned (.agg #[.string nm, .bool f, .slice a2 n2 c2, .slice a3 n3 c3]) ∧
    sMacro.R w' [.string nm, .bool f, .slice a2 n2 c2, .slice a3 n3 c3] ⟨nm, f, ps, bd⟩ fp ∧ okMac ⟨nm, f, ps, bd⟩ ∧ (∀ b ∈ fp, w.heap.size ≤ b) ∧ q ≤ p + n ∧ Rd w' rb q ∧ Kept [rb] w w'

/-- Four cells of a result. -/
def set4 (w : World) (g : Nat) (v0 v1 v2 v3 : Value) : World := (((w.setCell ⟨g, 0, none⟩ v0).setCell ⟨g, 1, none⟩ v1).setCell ⟨g, 2, none⟩ v2).setCell ⟨g, 3, none⟩ v3
theorem set4_mac {w wP : World} {g rb q : Nat} {nm : ByteArray} {f : Bool} {s2 s3 : Value} {m : DMacro} {fp : List Nat} (HZ : wP.heap[g]? = some (.cells #[.string ⟨#[]⟩, .bool false, .slice none 0 0, .slice none 0 0] 35 (0, 0))) (R : sMacro.R wP [.string nm, .bool f, s2, s3] m fp) (hn : g ∉ fp) (HR : Rd wP rb q) (hr : rb < g) (HK : Kept [rb] w wP) (hg : w.heap.size ≤ g) :
    (set4 wP g (.string nm) (.bool f) s2 s3).heap[g]? = some (.cells #[.string nm, .bool f, s2, s3] 35 (0, 0)) ∧ sMacro.R (set4 wP g (.string nm) (.bool f) s2 s3) [.string nm, .bool f, s2, s3] m fp ∧ Rd (set4 wP g (.string nm) (.bool f) s2 s3) rb q ∧ Kept [rb] w (set4 wP g (.string nm) (.bool f) s2 s3) :=
  ⟨blk_set (blk_set (blk_set (blk_set HZ 0 _) 1 _) 2 _) 3 _, sMacro.setB (sMacro.setB (sMacro.setB (sMacro.setB R hn 0 _) hn 1 _) hn 2 _) hn 3 _, rdSet (rdSet (rdSet (rdSet HR hr 0 _) hr 1 _) hr 2 _) hr 3 _, keptSet (keptSet (keptSet (keptSet HK hg _ 0) hg _ 1) hg _ 2) hg _ 3⟩
theorem dm_ret {rb p n q : Nat} {w wF : World} {nm : ByteArray} {f : Bool} {a2 a3 : Option Addr} {n2 c2 n3 c3 : Nat} {ps : List ByteArray} {bd : List Tok} {fp : List Nat} (hR : sMacro.R wF [.string nm, .bool f, .slice a2 n2 c2, .slice a3 n3 c3] ⟨nm, f, ps, bd⟩ fp) (ho : okMac ⟨nm, f, ps, bd⟩) (hlo : ∀ b ∈ fp, w.heap.size ≤ b) (hq : q ≤ p + n) (hRd : Rd wF rb q) (hK : Kept [rb] w wF) :
    DrawnMac rb p n w (.returned (.agg #[.string nm, .bool f, .slice a2 n2 c2, .slice a3 n3 c3])) wF := ⟨nm, f, a2, a3, n2, c2, n3, c3, ps, bd, fp, q, rfl, hR, ho, hlo, hq, hRd, hK⟩

/-- append of any tokens that can be read, and hide nothing, behind a row of the call's own. -/
theorem wp_append_toksR {w : World} {ops : Array Oper} {rest : List Oper} {o : Oper} {a : Act} {Q : Exit → Act → World → Prop} (hg : o.guard = none) (s y : Operand)
    (ho : o.op = .call { callee := .builtin .append, args := #[s, y], argTypes := #[33, 33] })
    (base : Nat) (v u : Value) (L : List (Elem Tok)) (M : List Tok) (fp : List Nat) (hs : a.eval s = v) (hown : RowE sTok base 89 v L w) (hy : a.eval y = u) (HM : (sSlice sTok).R w [u] M fp) (hh : ∀ t ∈ M, t.hidden = [])
    (h63 : L.length + M.length ≤ 2000000) (hbase : base ≤ w.heap.size)
    (h : ∀ v' X w', X.map (·.d) = M → (∀ x ∈ X, x.fp = []) → RowE sTok base 89 v' (L ++ X) w' → w.grownBy w' v.ownBlock → wpList Try.prog ops Q rest (a.put o.dst v') w') : wpList Try.prog ops Q (o :: rest) a w := by
  obtain ⟨i, hi, hz0, hz1, hz2⟩ := info_parts ti_tok.2
  obtain ⟨ad, cap, rfl, hc, hm, hrow⟩ := open_rows HM
  by_cases h0 : 0 < M.length
  · obtain ⟨b, off, fps, rfl, hb, -, he⟩ := hrow h0
    have hex : ∀ k, (hk : k < M.length) → ∃ hh : Value, ElemAt w b off 4 k [.int .i64 M[k].kind, .string M[k].text, .bool M[k].spaced, hh] ∧ sTok.R w [.int .i64 M[k].kind, .string M[k].text, .bool M[k].spaced, hh] M[k] [] ∧ hh.oneCell' = true := fun k hk => by
      obtain ⟨es, hE, hR⟩ := he k hk
      have hk0 := hh _ (List.getElem_mem hk)
      obtain ⟨hv, rfl, k1, k2, hK⟩ := hR
      obtain ⟨ao, co, rfl, hc1, hm1, -⟩ := open_rows hK
      exact ⟨_, hE, ⟨_, rfl, k1, k2, by rw [hk0]; exact slice_empty sStr w ao co hm1⟩, rfl⟩
    let X : List (Elem Tok) := List.ofFn fun (k : Fin M.length) => (⟨[.int .i64 M[k.1].kind, .string M[k.1].text, .bool M[k.1].spaced, (hex k.1 k.2).choose], M[k.1], []⟩ : Elem Tok)
    have hXl : X.length = M.length := by simp [X]
    have hXg : ∀ k, (hk : k < X.length) → X[k] = ⟨[.int .i64 (M[k]'(by omega)).kind, .string (M[k]'(by omega)).text, .bool (M[k]'(by omega)).spaced, (hex k (by omega)).choose], M[k]'(by omega), []⟩ := fun k hk => by simp [X]
    have hXm : ∀ x ∈ X, ∃ k, ∃ hk : k < M.length, x = ⟨[.int .i64 M[k].kind, .string M[k].text, .bool M[k].spaced, (hex k hk).choose], M[k], []⟩ := fun x hx => by
      obtain ⟨k, hk, rfl⟩ := List.getElem_of_mem hx
      exact ⟨k, by omega, hXg k hk⟩
    have hXd : X.map (·.d) = M := List.ext_getElem (by simpa using hXl) fun k h1 h2 => by rw [List.getElem_map, hXg k (by simpa using h1)]
    have hX4 : ∀ x ∈ X, x.cells.length = 4 := fun x hx => by obtain ⟨k, hk, rfl⟩ := hXm x hx; rfl
    have hX1 : ∀ x ∈ X, ∀ u ∈ x.cells, u.oneCell' = true := fun x hx u hu => by
      obtain ⟨k, hk, rfl⟩ := hXm x hx
      have := (hex k hk).choose_spec.2.2
      simp only [List.mem_cons, List.not_mem_nil, or_false] at hu
      rcases hu with rfl | rfl | rfl | rfl
      · rfl
      · rfl
      · rfl
      · exact this
    refine wpList_append_own _ hg s y _ ho base _ i _ 4 _ ti_tok.1 hi hz0 hz1 hz2 rfl (by decide) v L.length _ hs hown.row ⟨b, off, none⟩ M.length cap (X.flatMap (·.cells)) hy (by rw [flatMap_len hX4, hXl]) ?_ ?_ (by unfold maxLen; omega) (by omega) hbase fun v' w' h1 h2 _ => h v' X w' hXd (fun x hx => by obtain ⟨k, hk, rfl⟩ := hXm x hx; rfl) (hown.appended (X := X) (by rw [List.length_append, hXl, List.flatMap_append]; exact h1) h2 hX4 (fun x hx => by obtain ⟨k, hk, rfl⟩ := hXm x hx; exact (hex k hk).choose_spec.2.1) (fun x hx b hb => by obtain ⟨k, hk, rfl⟩ := hXm x hx; simp at hb) (fun x hx b hb => by obtain ⟨k, hk, rfl⟩ := hXm x hx; simp at hb)) h2
    · intro j u hj
      have hjl : j < X.length * 4 := by have := (List.getElem?_eq_some_iff.1 hj).1; rwa [flatMap_len hX4] at this
      have hdm : j = j / 4 * 4 + j % 4 := by omega
      have hk : j / 4 < X.length := by omega
      rw [hdm, flatMap_at (f := Elem.cells) hX4 hk (by omega), hXg _ hk] at hj
      have hE := (hex (j / 4) (by omega)).choose_spec.1
      have := hE.2 (j % 4) (by omega)
      rw [Addr.add_lit, show off + j = off + j / 4 * 4 + j % 4 by omega, this]
      exact hj
    · intro u hu
      obtain ⟨x, hx, hu⟩ := List.mem_flatMap.1 hu
      exact hX1 x hx u hu
  · have hM : M = [] := List.length_eq_zero_iff.1 (by omega)
    subst hM
    cases ad with
    | none =>
      have hrun := run_append_nil (P := Try.prog) (w := w) base _ o.type _ i 4 cap ti_tok.1 hi v L.length _ hown.row
      have hK := h v [] w rfl (by simp) (by simpa using hown) ⟨rfl, rfl, rfl, Nat.le_refl _, fun _ _ _ => rfl⟩
      refine wpList_plain hg fun K hK' => ?_
      unfold Oper.wp
      simp only [List.length_nil] at hy
      simp [execOp, ho, resolve, invoke, builtin, hs, hy, hrun, Result.andThen]
      exact hK' _ _ hK
    | some ad =>
      refine wpList_append_own _ hg s y _ ho base _ i _ 4 _ ti_tok.1 hi hz0 hz1 hz2 rfl (by decide) v L.length _ hs hown.row ad 0 cap [] hy rfl (by simp) (by simp) (by unfold maxLen; omega) (by omega) hbase fun v' w' h1 h2 _ => h v' [] w' rfl (by simp) ?_ h2
      exact hown.appended (X := []) (by have h1' := h1; simp only [Nat.add_zero, List.append_nil] at h1' ⊢; exact h1') h2 (by simp) (by simp) (by simp) (by simp)

def mac_texts : List ByteArray := [⟨#[97, 32, 49]⟩, ⟨#[98, 32, 97, 32, 43, 32, 50]⟩, ⟨#[65, 66, 32, 97, 32, 98]⟩, ⟨#[102, 40, 120, 41, 32, 120, 32, 43, 32, 120]⟩, ⟨#[103, 40, 120, 44, 121, 41, 32, 120, 32, 35, 35, 32, 121]⟩, ⟨#[104, 40, 120, 41, 32, 35, 32, 120]⟩, ⟨#[101, 40, 41, 32, 55]⟩, ⟨#[97, 32, 102]⟩, ⟨#[114, 32, 114, 32, 43, 32, 49]⟩, ⟨#[112, 40, 120, 41, 32, 102, 40, 120, 41]⟩, ⟨#[113, 40, 120, 44, 121, 44, 122, 41, 32, 122, 32, 121, 32, 120]⟩, ⟨#[110]⟩, ⟨#[102, 40, 120, 41, 32, 120, 32, 35, 35, 32, 49]⟩, ⟨#[109, 40, 120, 41, 32, 40, 120, 41, 32, 42, 32, 40, 120, 41]⟩, ⟨#[98, 32, 98]⟩, ⟨#[103, 40, 120, 44, 121, 41, 32, 102, 40, 120, 41, 32, 121]⟩, ⟨#[97, 32, 40, 32, 50, 32, 41]⟩, ⟨#[120, 32, 102, 32, 40, 32, 51]⟩, ⟨#[99, 40, 120, 41, 32, 120, 32, 120]⟩, ⟨#[100, 32, 53, 32, 35, 35, 32, 54]⟩]
theorem mac_texts_size : ∀ s ∈ mac_texts, s.size ≤ 14 := by decide
def mac_names : List ByteArray := [⟨#[]⟩, ⟨#[49]⟩, ⟨#[100, 101, 102, 105, 110, 101, 100]⟩, ⟨#[97, 32, 98]⟩]
theorem mac_names_size : ∀ s ∈ mac_names, s.size ≤ 7 := by decide
def mac_pars : List ByteArray := [⟨#[120]⟩, ⟨#[49]⟩, ⟨#[]⟩]
theorem mac_pars_size : ∀ s ∈ mac_pars, s.size ≤ 1 := by decide

set_option maxHeartbeats 32000000 in
set_option maxRecDepth 100000 in
theorem l20Macro (rb p : Nat) (n : Int) (w : World) (H : Rd w rb p) (hp : p ≤ 900000) (hn : n ≤ 100) (hn0 : 0 ≤ n) :
    Calls Try.prog 36 #[.pointer (some ⟨rb, 0, none⟩), .int .i64 n] w (DrawnMac rb p 10 w) := by
  have hrb := H.lt
  have hz0 := alloc_below' w (.cells #[.string ⟨#[]⟩, .bool false, .slice none 0 0, .slice none 0 0] 35)
  have HZ := Lib.hid (heap_alloc_new w (.cells #[.string ⟨#[]⟩, .bool false, .slice none 0 0, .slice none 0 0] 35))
  have hzl := alloc_below' (w.alloc (.cells #[.string ⟨#[]⟩, .bool false, .slice none 0 0, .slice none 0 0] 35)) (.cells #[.string ⟨#[97, 32, 49]⟩, .string ⟨#[98, 32, 97, 32, 43, 32, 50]⟩, .string ⟨#[65, 66, 32, 97, 32, 98]⟩, .string ⟨#[102, 40, 120, 41, 32, 120, 32, 43, 32, 120]⟩, .string ⟨#[103, 40, 120, 44, 121, 41, 32, 120, 32, 35, 35, 32, 121]⟩, .string ⟨#[104, 40, 120, 41, 32, 35, 32, 120]⟩, .string ⟨#[101, 40, 41, 32, 55]⟩, .string ⟨#[97, 32, 102]⟩, .string ⟨#[114, 32, 114, 32, 43, 32, 49]⟩, .string ⟨#[112, 40, 120, 41, 32, 102, 40, 120, 41]⟩, .string ⟨#[113, 40, 120, 44, 121, 44, 122, 41, 32, 122, 32, 121, 32, 120]⟩, .string ⟨#[110]⟩, .string ⟨#[102, 40, 120, 41, 32, 120, 32, 35, 35, 32, 49]⟩, .string ⟨#[109, 40, 120, 41, 32, 40, 120, 41, 32, 42, 32, 40, 120, 41]⟩, .string ⟨#[98, 32, 98]⟩, .string ⟨#[103, 40, 120, 44, 121, 41, 32, 102, 40, 120, 41, 32, 121]⟩, .string ⟨#[97, 32, 40, 32, 50, 32, 41]⟩, .string ⟨#[120, 32, 102, 32, 40, 32, 51]⟩, .string ⟨#[99, 40, 120, 41, 32, 120, 32, 120]⟩, .string ⟨#[100, 32, 53, 32, 35, 35, 32, 54]⟩] 9)
  have hs1 : (w.alloc (.cells #[.string ⟨#[]⟩, .bool false, .slice none 0 0, .slice none 0 0] 35)).heap.size = w.heap.size + 1 := Array.size_push _
  have HS1 := Lib.hid hs1
  clear hs1
  have HR1 := Lib.hid ((H.grow hz0).grow hzl)
  go_enter Try.func36, Try.ntmps36
  go_wp2_with fail
  refine (pick rb p _ _ HR1.out (by omega) (by omega) (by omega)).mono ?_
  rintro e w2 ⟨r, rfl, h0, h1, hR2, hK2⟩
  obtain ⟨s, hs, hcs⟩ := lit_pick mac_texts 20 (fun s hs => Nat.le_trans (mac_texts_size s hs) (by decide)) h0 (by show r < 20; omega) (by rw [HS1.out]; omega) hK2
  rw [HS1.out] at hcs
  have hb2 := hz0.trans (hzl.mono hz0.size)
  have hK02 := (Kept.of_below (fp := [rb]) hb2).trans hK2
  have HZ2 := Lib.hid (blkKept ((hzl.block _ (by rw [HS1.out]; omega)).trans HZ.out) hK2 (by omega))
  have hok : okStr s := by unfold okStr maxLen; omega
  clear hzl hz0 HZ HR1
  go_wp2_with fail
  refine (spec_TokensOf s _ hok).mono ?_
  rintro e w3 ⟨v3, f3, rfl, hT, hO, hb3⟩
  have hall := tokRes_all s
  have hK03 := hK02.trans (Kept.of_below hb3)
  have HZ3 := Lib.hid (mbox HZ2.out hb3)
  have hR3 := hR2.grow hb3
  clear hO hb3 hcs HZ2 hR2 hK2 hK02 hb2
  go_wp2_with fail
  refine (spec_MacroOf v3 _ f3 _ (by omega) (fun k hk => by rw [hall.2 _ (List.getElem_mem hk)]; simp) hT).mono ?_
  rintro e w4 ⟨cs, fp, rfl, hM, hMO, hb4⟩
  have HSM := of_small (tokRes s).1
  have hw34 : w.heap.size + 1 ≤ w3.heap.size := mlt HZ3.out
  clear hT hall
  generalize macOf (tokRes s).1 = MM at hM HSM
  obtain ⟨⟨nm, fb, ps, bd⟩, okb⟩ := MM
  obtain ⟨h2, h3, fp2, fp3, rfl, okn, K2, K3, rfl⟩ := hM
  obtain ⟨a2, c2, rfl, -⟩ := open_strs K2
  obtain ⟨a3, c3, rfl, -⟩ := open_rows K3
  obtain ⟨sm1, sm2, sm3, sm4⟩ := HSM
  have hK04 := hK03.trans (Kept.of_below hb4)
  have HZ4 := mbox HZ3.out hb4
  have hR4 := hR3.grow hb4
  have hlo : ∀ b ∈ fp2 ++ fp3, w.heap.size + 1 ≤ b ∧ b < w4.heap.size := fun b hb => ⟨by have := (hMO.2 b hb).1; omega, hMO.lt b hb⟩
  have hbx := alloc_below' w4 (.cells #[.string nm, .bool fb, .slice a2 ps.length c2, .slice a3 bd.length c3] 35)
  have HM5 := Lib.hid (heap_alloc_new w4 (.cells #[.string nm, .bool fb, .slice a2 ps.length c2, .slice a3 bd.length c3] 35))
  have HZ5 := Lib.hid (mbox HZ4 hbx)
  have HR5 := Lib.hid (hR4.grow hbx)
  have HK5 := Lib.hid (hK04.trans (Kept.of_below hbx))
  have HP5 := Lib.hid ((sSlice sStr).below K2 hbx)
  have HB5 := Lib.hid ((sSlice sTok).below K3 hbx)
  have hg1 : w.heap.size < w4.heap.size := mlt HZ4
  have HOK := Lib.hid (And.intro okn (And.intro sm1 (And.intro sm2 (And.intro sm3 sm4))))
  have HLO := Lib.hid hlo
  clear hMO hb4 hK03 hK04 HZ3 HZ4 hR3 hR4 K2 K3 hbx hlo okn sm1 sm2 sm3 sm4
  go_wp2_with fail
  refine (odd rb (p + 1) n _ HR5.out (by omega) (by omega) hn0).mono ?_
  rintro e w5 ⟨b, q, rfl, hq1, hq2, hR6, hK6⟩
  have HM6 := Lib.hid (blkKept HM5.out hK6 (by omega))
  have HZ6 := Lib.hid (blkKept HZ5.out hK6 (by omega))
  have HK6 := Lib.hid (HK5.out.trans hK6)
  have nrb : ∀ b ∈ fp2 ++ fp3, b ∉ [rb] := fun b hb hx => by have := (HLO.out b hb).1; have e : b = rb := (by simpa using hx); omega
  have HP6 := Lib.hid ((sSlice sStr).kept HP5.out (fun b hb => nrb b (by simp [hb])) hK6)
  have HB6 := Lib.hid ((sSlice sTok).kept HB5.out (fun b hb => nrb b (by simp [hb])) hK6)
  have HR6 := Lib.hid hR6
  clear HM5 HZ5 HK5 HP5 HB5 HR5 hK6 hR6
  cases b
  · -- as it is
    have y0 : w5.cell? ⟨w4.heap.size, 0, none⟩ = some (.string nm) := cell_of_row _ _ 0 _ _ _ HM6.out
    have y1 : w5.cell? ⟨w4.heap.size, 1, none⟩ = some (.bool fb) := cell_of_row _ _ 1 _ _ _ HM6.out
    have y2 : w5.cell? ⟨w4.heap.size, 2, none⟩ = some (.slice a2 ps.length c2) := cell_of_row _ _ 2 _ _ _ HM6.out
    have y3 : w5.cell? ⟨w4.heap.size, 3, none⟩ = some (.slice a3 bd.length c3) := cell_of_row _ _ 3 _ _ _ HM6.out
    have z0 : w5.cell? ⟨w.heap.size, 0, none⟩ = some (.string ⟨#[]⟩) := cell_of_row _ _ 0 _ _ _ HZ6.out
    have zf0 : w5.frozen? ⟨w.heap.size, 0, none⟩ = false := frozen_of_row _ _ 0 _ _ HZ6.out
    have z1 : w5.cell? ⟨w.heap.size, 1, none⟩ = some (.bool false) := cell_of_row _ _ 1 _ _ _ HZ6.out
    have zf1 : w5.frozen? ⟨w.heap.size, 1, none⟩ = false := frozen_of_row _ _ 1 _ _ HZ6.out
    have z2 : w5.cell? ⟨w.heap.size, 2, none⟩ = some (.slice none 0 0) := cell_of_row _ _ 2 _ _ _ HZ6.out
    have zf2 : w5.frozen? ⟨w.heap.size, 2, none⟩ = false := frozen_of_row _ _ 2 _ _ HZ6.out
    have z3 : w5.cell? ⟨w.heap.size, 3, none⟩ = some (.slice none 0 0) := cell_of_row _ _ 3 _ _ _ HZ6.out
    have zf3 : w5.frozen? ⟨w.heap.size, 3, none⟩ = false := frozen_of_row _ _ 3 _ _ HZ6.out
    have HS := Lib.hid (set4_mac (w := w) (wP := w5) HZ6.out (show sMacro.R w5 [.string nm, .bool fb, .slice a2 ps.length c2, .slice a3 bd.length c3] ⟨nm, fb, ps, bd⟩ (fp2 ++ fp3) from ⟨_, _, fp2, fp3, rfl, HOK.out.1, HP6.out, HB6.out, rfl⟩) (fun hx => by have := (HLO.out _ hx).1; omega) HR6.out (by omega) HK6.out (Nat.le_refl _))
    have HOKF : Hid (okMac ⟨nm, fb, ps, bd⟩) := ⟨by have := HOK.out.2.1; show nm.size ≤ 1000; omega, by have := HOK.out.2.2.1; show ps.length ≤ 100; omega, by have := HOK.out.2.2.2.1; show bd.length ≤ 100; omega, fun t ht => by rw [HOK.out.2.2.2.2 t ht]; simp⟩
    have HLOF : Hid (∀ b ∈ fp2 ++ fp3, w.heap.size ≤ b) := fun b hb => by have := (HLO.out b hb).1; omega
    clear HLO
    go_wp2
    refine bodyPost_ret (results_cell_row rfl _ _ w.heap.size _ _ _ _ rfl HS.out.1 Try.underlying35 rfl (by kernel_rfl)) rfl ?_
    exact dm_ret HS.out.2.1 HOKF.out HLOF.out (by omega) HS.out.2.2.1 HS.out.2.2.2
  · go_wp2_with fail
    refine (pick rb q _ _ HR6.out (by omega) (by omega) (by omega)).mono ?_
    rintro e w6 ⟨r8, rfl, hr0, hr1, hR7, hK7⟩
    have HM7 := Lib.hid (blkKept HM6.out hK7 (by omega))
    have HZ7 := Lib.hid (blkKept HZ6.out hK7 (by omega))
    have HK7 := Lib.hid (HK6.out.trans hK7)
    have HP7 := Lib.hid ((sSlice sStr).kept HP6.out (fun b hb => nrb b (by simp [hb])) hK7)
    have HB7 := Lib.hid ((sSlice sTok).kept HB6.out (fun b hb => nrb b (by simp [hb])) hK7)
    have HR7 := Lib.hid hR7
    have hs6 : w4.heap.size < w6.heap.size := mlt HM7.out
    have HX0 := Lib.hid (show ¬ (w.heap.size ∈ fp2 ++ fp3) from fun hx => by have := (HLO.out _ hx).1; omega)
    have HX1 := Lib.hid (show ¬ (w4.heap.size ∈ fp2 ++ fp3) from fun hx => by have := (HLO.out _ hx).2; omega)
    clear HM6 HZ6 HK6 HP6 HB6 HR6 hK7 hR7 nrb
    have hr8 : r8 = 0 ∨ r8 = 1 ∨ r8 = 2 ∨ r8 = 3 ∨ r8 = 4 ∨ r8 = 5 ∨ r8 = 6 ∨ r8 = 7 := by omega
    rcases hr8 with rfl | rfl | rfl | rfl | rfl | rfl | rfl | rfl
    · -- case 0
      have hbl := alloc_below' w6 (.cells #[.string ⟨#[]⟩, .string ⟨#[49]⟩, .string ⟨#[100, 101, 102, 105, 110, 101, 100]⟩, .string ⟨#[97, 32, 98]⟩] 9)
      have HRl := Lib.hid (HR7.out.grow hbl)
      go_wp2_with fail
      refine (pick rb (q + 1) _ _ HRl.out (by omega) (by omega) (by omega)).mono ?_
      rintro e w7 ⟨r4, rfl, hr40, hr41, hR8, hK8⟩
      obtain ⟨sn, hsn, hcn⟩ := lit_pick mac_names 7 mac_names_size hr40 (by show r4 < 4; omega) (by omega) hK8
      have HM8 := Lib.hid (blkKept (mbox HM7.out hbl) hK8 (by omega))
      have HZ8 := Lib.hid (blkKept (mbox HZ7.out hbl) hK8 (by omega))
      have HK8 := Lib.hid ((HK7.out.trans (Kept.of_below hbl)).trans hK8)
      have nrb : ∀ b ∈ fp2 ++ fp3, b ∉ [rb] := fun b hb hx => by have := (HLO.out b hb).1; have e : b = rb := (by simpa using hx); omega
      have HP8 := Lib.hid ((sSlice sStr).kept ((sSlice sStr).below HP7.out hbl) (fun b hb => nrb b (by simp [hb])) hK8)
      have HB8 := Lib.hid ((sSlice sTok).kept ((sSlice sTok).below HB7.out hbl) (fun b hb => nrb b (by simp [hb])) hK8)
      have HR8 := Lib.hid hR8
      have oksn : okStr sn := by unfold okStr maxLen; omega
      clear hK8 hR8 hbl HRl
      have y0 : w7.cell? ⟨w4.heap.size, 0, none⟩ = some (.string nm) := cell_of_row _ _ 0 _ _ _ HM8.out
      have y1 : w7.cell? ⟨w4.heap.size, 1, none⟩ = some (.bool fb) := cell_of_row _ _ 1 _ _ _ HM8.out
      have y2 : w7.cell? ⟨w4.heap.size, 2, none⟩ = some (.slice a2 ps.length c2) := cell_of_row _ _ 2 _ _ _ HM8.out
      have y3 : w7.cell? ⟨w4.heap.size, 3, none⟩ = some (.slice a3 bd.length c3) := cell_of_row _ _ 3 _ _ _ HM8.out
      have yf : w7.frozen? ⟨w4.heap.size, 0, none⟩ = false := frozen_of_row _ _ 0 _ _ HM8.out
      have z0 : w7.cell? ⟨w.heap.size, 0, none⟩ = some (.string ⟨#[]⟩) := cell_of_row _ _ 0 _ _ _ HZ8.out
      have zf0 : w7.frozen? ⟨w.heap.size, 0, none⟩ = false := frozen_of_row _ _ 0 _ _ HZ8.out
      have z1 : w7.cell? ⟨w.heap.size, 1, none⟩ = some (.bool false) := cell_of_row _ _ 1 _ _ _ HZ8.out
      have zf1 : w7.frozen? ⟨w.heap.size, 1, none⟩ = false := frozen_of_row _ _ 1 _ _ HZ8.out
      have z2 : w7.cell? ⟨w.heap.size, 2, none⟩ = some (.slice none 0 0) := cell_of_row _ _ 2 _ _ _ HZ8.out
      have zf2 : w7.frozen? ⟨w.heap.size, 2, none⟩ = false := frozen_of_row _ _ 2 _ _ HZ8.out
      have z3 : w7.cell? ⟨w.heap.size, 3, none⟩ = some (.slice none 0 0) := cell_of_row _ _ 3 _ _ _ HZ8.out
      have zf3 : w7.frozen? ⟨w.heap.size, 3, none⟩ = false := frozen_of_row _ _ 3 _ _ HZ8.out
      have HS := Lib.hid (set4_mac (w := w) (wP := w7.setCell ⟨w4.heap.size, 0, none⟩ (.string sn)) (blk_other HZ8.out (by omega : w.heap.size ≠ w4.heap.size) 0 (.string sn)) (sMacro.setB (show sMacro.R w7 [.string sn, .bool fb, .slice a2 ps.length c2, .slice a3 bd.length c3] ⟨sn, fb, ps, bd⟩ (fp2 ++ fp3) from ⟨_, _, fp2, fp3, rfl, oksn, HP8.out, HB8.out, rfl⟩) HX1.out 0 (.string sn)) HX0.out (rdSet HR8.out (by omega) 0 (.string sn)) (by omega) (keptSet HK8.out (by omega) (.string sn) 0) (Nat.le_refl _))
      have HOKF : Hid (okMac ⟨sn, fb, ps, bd⟩) := ⟨by show sn.size ≤ 1000; omega, by have := HOK.out.2.2.1; show ps.length ≤ 100; omega, by have := HOK.out.2.2.2.1; show bd.length ≤ 100; omega, fun t ht => by rw [HOK.out.2.2.2.2 t ht]; simp⟩
      have HLOF : Hid (∀ b ∈ fp2 ++ fp3, w.heap.size ≤ b) := fun b hb => by have := (HLO.out b hb).1; omega
      clear HLO
      go_wp2
      refine bodyPost_ret (results_cell_row rfl _ _ w.heap.size _ _ _ _ rfl HS.out.1 Try.underlying35 rfl (by kernel_rfl)) rfl ?_
      exact dm_ret HS.out.2.1 HOKF.out HLOF.out (by omega) HS.out.2.2.1 HS.out.2.2.2
    · -- case 1
      have hbl := alloc_below' w6 (.cells #[] 9)
      have hlit : Hid ((w6.alloc (.cells #[] 9)).ownsRow w6.heap.size 9 1 (.slice (some ⟨w6.heap.size, 0, none⟩) 0 0) ([] : List ByteArray).length (([] : List ByteArray).map Value.string)) := World.ownsRow_lit (base := w6.heap.size) (e := 9) (size := 1) w6 #[] 0 (Nat.le_refl _) (by simp) rfl
      have HMW := Lib.hid (mbox HM7.out hbl)
      have HZW := Lib.hid (mbox HZ7.out hbl)
      have HRW := Lib.hid (HR7.out.grow hbl)
      have HKW := Lib.hid (HK7.out.trans (Kept.of_below hbl))
      have HPW := Lib.hid ((sSlice sStr).below HP7.out hbl)
      have HBW := Lib.hid ((sSlice sTok).below HB7.out hbl)
      obtain ⟨_, _, -, -, -, -, hsz⟩ := open_strs HPW.out
      have HSZ := Lib.hid hsz
      clear hsz
      have y2 : (w6.alloc (.cells #[] 9)).cell? ⟨w4.heap.size, 2, none⟩ = some (.slice a2 ps.length c2) := cell_of_row _ _ 2 _ _ _ HMW.out
      have hws : (w6.alloc (.cells #[] 9)).heap.size = w6.heap.size + 1 := Array.size_push _
      have HWS := Lib.hid hws
      have hps4 := HOK.out.2.2.1
      clear hbl hws
      have hq1' : q ≤ p + 8 := by omega
      go_wp2_with (first
        | (
          at_builtin
          refine wp_append_strsR rfl (.tmp 48) (.tmp 50) rfl w6.heap.size (.slice (some ⟨w6.heap.size, 0, none⟩) 0 0) (.slice a2 ps.length c2) [] ps fp2 rfl hlit.out rfl HPW.out (by simp; omega) (by rw [HWS.out]; omega) ?_
          intro v8 w8 hE hg
          have hown : ∀ b, (Value.slice (some ⟨w6.heap.size, 0, none⟩) 0 0).ownBlock = some b → w6.heap.size ≤ b := fun b hb => by simp only [Value.ownBlock, Option.some.injEq] at hb; omega
          have hlt6 : w6.heap.size < (w6.alloc (.cells #[] 9)).heap.size := by rw [HWS.out]; omega
          have kb : ∀ b, b < w6.heap.size → w8.heap[b]? = ((w6.alloc (.cells #[] 9))).heap[b]? := fun b hb => hg.block b (by omega) (fun he => by have := hown b he.symm; omega)
          have HM8 := Lib.hid ((kb _ (by omega)).trans HMW.out)
          have HZ8 := Lib.hid ((kb _ (by omega)).trans HZW.out)
          have HR8 := Lib.hid (grownRd HRW.out hg (by omega : rb < w6.heap.size) (fun b hb => hown b hb))
          have HK8 := Lib.hid (grownKept HKW.out hg (fun b hb => by have := hown b hb; omega))
          have HB8 := Lib.hid ((sSlice sTok).frame (fun b hb => kb b (by have := (HLO.out b (by simp [hb])).2; omega)) HBW.out)
          have hs8 : w6.heap.size < w8.heap.size := Nat.lt_of_lt_of_le hlt6 hg.size
          rw [List.nil_append] at hE
          obtain ⟨fp1, R1, -, -⟩ := own_flat (ok := okStr) hE HSZ.out
          obtain ⟨a8, c8, rfl, -⟩ := open_rows R1
          have HE8 := Lib.hid hE
          have hbl2 := alloc_below' w8 (.cells #[.string ⟨#[120]⟩, .string ⟨#[49]⟩, .string ⟨#[]⟩] 9)
          have HR9 := Lib.hid (HR8.out.grow hbl2)
          have HM9 := Lib.hid (mbox HM8.out hbl2)
          have HZ9 := Lib.hid (mbox HZ8.out hbl2)
          have HK9 := Lib.hid (HK8.out.trans (Kept.of_below hbl2))
          have HB9 := Lib.hid ((sSlice sTok).below HB8.out hbl2)
          have HE9 := Lib.hid (HE8.out.alloc (.cells #[.string ⟨#[120]⟩, .string ⟨#[49]⟩, .string ⟨#[]⟩] 9))
          have HS9 : Hid ((w8.alloc (.cells #[.string ⟨#[120]⟩, .string ⟨#[49]⟩, .string ⟨#[]⟩] 9)).heap.size = w8.heap.size + 1) := Array.size_push _
          clear hE hg kb hown y2 hlit R1 HR8 HM8 HZ8 HK8 HB8 HE8 hbl2)
        | (
          go_at_call 65
          refine (pick rb (q + 1) _ _ HR9.out (by omega) (by omega) (by omega)).mono ?_
          rintro e w9 ⟨r9, rfl, hr90, hr91, hR, hK⟩
          obtain ⟨sn, hsn, hcn⟩ := lit_pick mac_pars 1 mac_pars_size hr90 (by show r9 < 3; omega) (by omega) hK
          have nrb : ∀ b ∈ fp2 ++ fp3, b ∉ [rb] := fun b hb hx => by have := (HLO.out b hb).1; have e : b = rb := (by simpa using hx); omega
          have hs9 : w8.heap.size < w9.heap.size := by have := hK.size; have e := HS9.out; omega
          have HMA := Lib.hid (blkKept HM9.out hK (by omega))
          have HZA := Lib.hid (blkKept HZ9.out hK (by omega))
          have HKA := Lib.hid (HK9.out.trans hK)
          have HBA := Lib.hid ((sSlice sTok).kept HB9.out (fun b hb => nrb b (by simp [hb])) hK)
          have HEA := Lib.hid (own_kept HE9.out hK (by omega))
          have HRA := Lib.hid hR
          have oksn : okStr sn := by unfold okStr maxLen; omega
          clear hK hR nrb HR9 HM9 HZ9 HK9 HB9 HE9 HS9)
        | (
          at_builtin
          refine wp_append_one ti27 rfl _ (.string sn) rfl rfl (.tmp 51) (.tmp 57) rfl w6.heap.size (.slice a8 ps.length c8) ps.length (ps.map Value.string) rfl HEA.out rfl (by unfold maxLen; omega) (by omega) (by omega) ?_
          intro v10 w10 hE10 hg10
          have hown : ∀ b, (Value.slice a8 ps.length c8).ownBlock = some b → w6.heap.size ≤ b := fun b hb => (HEA.out.lt b hb).1
          have kb : ∀ b, b < w6.heap.size → w10.heap[b]? = w9.heap[b]? := fun b hb => hg10.block b (by omega) (fun he => by have := hown b he.symm; omega)
          have HMX := Lib.hid ((kb _ (by omega)).trans HMA.out)
          have HZX := Lib.hid ((kb _ (by omega)).trans HZA.out)
          have HRX := Lib.hid (grownRd HRA.out hg10 (by omega : rb < w6.heap.size) (fun b hb => hown b hb))
          have HKX := Lib.hid (grownKept HKA.out hg10 (fun b hb => by have := hown b hb; omega))
          have HBX := Lib.hid ((sSlice sTok).frame (fun b hb => kb b (by have := (HLO.out b (by simp [hb])).2; omega)) HBA.out)
          have hE11 : w10.ownsRow w6.heap.size 9 1 v10 (ps ++ [sn]).length ((ps ++ [sn]).map Value.string) := by simpa using hE10
          obtain ⟨fpP, hRP, hOP, -⟩ := own_flat (ok := okStr) hE11 (fun i hi => (List.mem_append.1 (List.getElem_mem hi)).elim (fun h => by obtain ⟨k, hk, e⟩ := List.getElem_of_mem h; rw [← e]; exact HSZ.out k hk) (fun h => by rw [List.mem_singleton.1 h]; exact oksn))
          have HFB : Hid (∀ b ∈ fpP, w6.heap.size ≤ b) := fun b hb => (hOP.2 b hb).1
          have HRP := Lib.hid hRP
          obtain ⟨av, cv, hv, -⟩ := open_rows hRP
          generalize (ps ++ [sn]).length = nv at hv
          subst hv
          clear hE10 hE11 hg10 kb hRP hOP hown
          have y0 : w10.cell? ⟨w4.heap.size, 0, none⟩ = some (.string nm) := cell_of_row _ _ 0 _ _ _ HMX.out
          have y1 : w10.cell? ⟨w4.heap.size, 1, none⟩ = some (.bool fb) := cell_of_row _ _ 1 _ _ _ HMX.out
          have y2 : w10.cell? ⟨w4.heap.size, 2, none⟩ = some (.slice a2 ps.length c2) := cell_of_row _ _ 2 _ _ _ HMX.out
          have y3 : w10.cell? ⟨w4.heap.size, 3, none⟩ = some (.slice a3 bd.length c3) := cell_of_row _ _ 3 _ _ _ HMX.out
          have yf : w10.frozen? ⟨w4.heap.size, 2, none⟩ = false := frozen_of_row _ _ 2 _ _ HMX.out
          have z0 : w10.cell? ⟨w.heap.size, 0, none⟩ = some (.string ⟨#[]⟩) := cell_of_row _ _ 0 _ _ _ HZX.out
          have zf0 : w10.frozen? ⟨w.heap.size, 0, none⟩ = false := frozen_of_row _ _ 0 _ _ HZX.out
          have z1 : w10.cell? ⟨w.heap.size, 1, none⟩ = some (.bool false) := cell_of_row _ _ 1 _ _ _ HZX.out
          have zf1 : w10.frozen? ⟨w.heap.size, 1, none⟩ = false := frozen_of_row _ _ 1 _ _ HZX.out
          have z2 : w10.cell? ⟨w.heap.size, 2, none⟩ = some (.slice none 0 0) := cell_of_row _ _ 2 _ _ _ HZX.out
          have zf2 : w10.frozen? ⟨w.heap.size, 2, none⟩ = false := frozen_of_row _ _ 2 _ _ HZX.out
          have z3 : w10.cell? ⟨w.heap.size, 3, none⟩ = some (.slice none 0 0) := cell_of_row _ _ 3 _ _ _ HZX.out
          have zf3 : w10.frozen? ⟨w.heap.size, 3, none⟩ = false := frozen_of_row _ _ 3 _ _ HZX.out
          have HS := Lib.hid (set4_mac (w := w) (wP := w10.setCell ⟨w4.heap.size, 2, none⟩ (.slice av nv cv)) (blk_other HZX.out (by omega : w.heap.size ≠ w4.heap.size) 2 (.slice av nv cv)) (sMacro.setB (show sMacro.R w10 [.string nm, .bool fb, .slice av nv cv, .slice a3 bd.length c3] ⟨nm, fb, ps ++ [sn], bd⟩ (fpP ++ fp3) from ⟨_, _, fpP, fp3, rfl, HOK.out.1, HRP.out, HBX.out, rfl⟩) (fun hx => (List.mem_append.1 hx).elim (fun h => by have := HFB.out _ h; omega) (fun h => HX1.out (by simp [h]))) 2 (.slice av nv cv)) (fun hx => (List.mem_append.1 hx).elim (fun h => by have := HFB.out _ h; omega) (fun h => HX0.out (by simp [h]))) (rdSet HRX.out (by omega) 2 (.slice av nv cv)) (by omega) (keptSet HKX.out (by omega) (.slice av nv cv) 2) (Nat.le_refl _))
          have HOKF : Hid (okMac ⟨nm, fb, ps ++ [sn], bd⟩) := ⟨by have := HOK.out.2.1; show nm.size ≤ 1000; omega, by show (ps ++ [sn]).length ≤ 100; simp only [List.length_append, List.length_cons, List.length_nil]; omega, by have := HOK.out.2.2.2.1; show bd.length ≤ 100; omega, fun t ht => by rw [HOK.out.2.2.2.2 t ht]; simp⟩
          have HLOF : Hid (∀ b ∈ fpP ++ fp3, w.heap.size ≤ b) := fun b hb => (List.mem_append.1 hb).elim (fun h => by have := HFB.out _ h; omega) (fun h => by have := (HLO.out b (by simp [h])).1; omega)
          clear HLO))
      refine bodyPost_ret (results_cell_row rfl _ _ w.heap.size _ _ _ _ rfl HS.out.1 Try.underlying35 rfl (by kernel_rfl)) rfl ?_
      exact dm_ret HS.out.2.1 HOKF.out HLOF.out (by omega) HS.out.2.2.1 HS.out.2.2.2
    · -- case 2
      have y0 : w6.cell? ⟨w4.heap.size, 0, none⟩ = some (.string nm) := cell_of_row _ _ 0 _ _ _ HM7.out
      have y1 : w6.cell? ⟨w4.heap.size, 1, none⟩ = some (.bool fb) := cell_of_row _ _ 1 _ _ _ HM7.out
      have y2 : w6.cell? ⟨w4.heap.size, 2, none⟩ = some (.slice a2 ps.length c2) := cell_of_row _ _ 2 _ _ _ HM7.out
      have y3 : w6.cell? ⟨w4.heap.size, 3, none⟩ = some (.slice a3 bd.length c3) := cell_of_row _ _ 3 _ _ _ HM7.out
      have yf : w6.frozen? ⟨w4.heap.size, 1, none⟩ = false := frozen_of_row _ _ 1 _ _ HM7.out
      have z0 : w6.cell? ⟨w.heap.size, 0, none⟩ = some (.string ⟨#[]⟩) := cell_of_row _ _ 0 _ _ _ HZ7.out
      have zf0 : w6.frozen? ⟨w.heap.size, 0, none⟩ = false := frozen_of_row _ _ 0 _ _ HZ7.out
      have z1 : w6.cell? ⟨w.heap.size, 1, none⟩ = some (.bool false) := cell_of_row _ _ 1 _ _ _ HZ7.out
      have zf1 : w6.frozen? ⟨w.heap.size, 1, none⟩ = false := frozen_of_row _ _ 1 _ _ HZ7.out
      have z2 : w6.cell? ⟨w.heap.size, 2, none⟩ = some (.slice none 0 0) := cell_of_row _ _ 2 _ _ _ HZ7.out
      have zf2 : w6.frozen? ⟨w.heap.size, 2, none⟩ = false := frozen_of_row _ _ 2 _ _ HZ7.out
      have z3 : w6.cell? ⟨w.heap.size, 3, none⟩ = some (.slice none 0 0) := cell_of_row _ _ 3 _ _ _ HZ7.out
      have zf3 : w6.frozen? ⟨w.heap.size, 3, none⟩ = false := frozen_of_row _ _ 3 _ _ HZ7.out
      have HS := Lib.hid (set4_mac (w := w) (wP := w6.setCell ⟨w4.heap.size, 1, none⟩ (.bool (!fb))) (blk_other HZ7.out (by omega : w.heap.size ≠ w4.heap.size) 1 (.bool (!fb))) (sMacro.setB (show sMacro.R w6 [.string nm, .bool (!fb), .slice a2 ps.length c2, .slice a3 bd.length c3] ⟨nm, !fb, ps, bd⟩ (fp2 ++ fp3) from ⟨_, _, fp2, fp3, rfl, HOK.out.1, HP7.out, HB7.out, rfl⟩) HX1.out 1 (.bool (!fb))) HX0.out (rdSet HR7.out (by omega) 1 (.bool (!fb))) (by omega) (keptSet HK7.out (by omega) (.bool (!fb)) 1) (Nat.le_refl _))
      have HOKF : Hid (okMac ⟨nm, !fb, ps, bd⟩) := ⟨by have := HOK.out.2.1; show nm.size ≤ 1000; omega, by have := HOK.out.2.2.1; show ps.length ≤ 100; omega, by have := HOK.out.2.2.2.1; show bd.length ≤ 100; omega, fun t ht => by rw [HOK.out.2.2.2.2 t ht]; simp⟩
      have HLOF : Hid (∀ b ∈ fp2 ++ fp3, w.heap.size ≤ b) := fun b hb => by have := (HLO.out b hb).1; omega
      clear HLO
      go_wp2
      refine bodyPost_ret (results_cell_row rfl _ _ w.heap.size _ _ _ _ rfl HS.out.1 Try.underlying35 rfl (by kernel_rfl)) rfl ?_
      exact dm_ret HS.out.2.1 HOKF.out HLOF.out (by omega) HS.out.2.2.1 HS.out.2.2.2
    · -- case 3
      have hbl := alloc_below' w6 (.cells #[.int .i64 4, .string ⟨#[35, 35]⟩, .bool false, .slice none 0 0] 89)
      have hlit : Hid (RowE sTok w6.heap.size 89 (.slice (some ⟨w6.heap.size, 0, none⟩) 1 1) [(⟨[.int .i64 4, .string ⟨#[35, 35]⟩, .bool false, .slice none 0 0], ⟨4, ⟨#[35, 35]⟩, false, []⟩, []⟩ : Elem Tok)] (w6.alloc (.cells #[.int .i64 4, .string ⟨#[35, 35]⟩, .bool false, .slice none 0 0] 89))) := RowE.lit [(⟨[.int .i64 4, .string ⟨#[35, 35]⟩, .bool false, .slice none 0 0], ⟨4, ⟨#[35, 35]⟩, false, []⟩, []⟩ : Elem Tok)] (by intro x hx; obtain rfl := List.mem_singleton.1 hx; rfl) (by intro x hx; obtain rfl := List.mem_singleton.1 hx; exact ⟨_, rfl, ⟨by decide, by decide⟩, by show okStr _; unfold okStr; decide, slice_empty sStr _ _ _ (by simp)⟩) (by intro x hx b hb; obtain rfl := List.mem_singleton.1 hx; simp at hb) (by intro x hx b hb; obtain rfl := List.mem_singleton.1 hx; simp at hb) (Nat.le_refl _) (by decide)
      have HMW := Lib.hid (mbox HM7.out hbl)
      have HZW := Lib.hid (mbox HZ7.out hbl)
      have HRW := Lib.hid (HR7.out.grow hbl)
      have HKW := Lib.hid (HK7.out.trans (Kept.of_below hbl))
      have HPW := Lib.hid ((sSlice sStr).below HP7.out hbl)
      have HBW := Lib.hid ((sSlice sTok).below HB7.out hbl)
      have y3 : (w6.alloc (.cells #[.int .i64 4, .string ⟨#[35, 35]⟩, .bool false, .slice none 0 0] 89)).cell? ⟨w4.heap.size, 3, none⟩ = some (.slice a3 bd.length c3) := cell_of_row _ _ 3 _ _ _ HMW.out
      have hws : (w6.alloc (.cells #[.int .i64 4, .string ⟨#[35, 35]⟩, .bool false, .slice none 0 0] 89)).heap.size = w6.heap.size + 1 := Array.size_push _
      have HWS := Lib.hid hws
      clear hbl hws
      have hq1' : q ≤ p + 9 := by omega
      go_wp2_with (
        at_builtin
        refine wp_append_toksR rfl (.tmp 69) (.tmp 71) rfl w6.heap.size (.slice (some ⟨w6.heap.size, 0, none⟩) 1 1) (.slice a3 bd.length c3) [(⟨[.int .i64 4, .string ⟨#[35, 35]⟩, .bool false, .slice none 0 0], ⟨4, ⟨#[35, 35]⟩, false, []⟩, []⟩ : Elem Tok)] bd fp3 rfl hlit.out rfl HBW.out HOK.out.2.2.2.2 (by have := HOK.out.2.2.2.1; simp; omega) (by rw [HWS.out]; omega) ?_
        intro v8 X w8 hX hXf hE hg
        have hown : ∀ b, (Value.slice (some ⟨w6.heap.size, 0, none⟩) 1 1).ownBlock = some b → w6.heap.size ≤ b := hlit.out.mine
        have hlt6 : w6.heap.size < (w6.alloc (.cells #[.int .i64 4, .string ⟨#[35, 35]⟩, .bool false, .slice none 0 0] 89)).heap.size := by rw [HWS.out]; omega
        have kb : ∀ b, b < w6.heap.size → w8.heap[b]? = ((w6.alloc (.cells #[.int .i64 4, .string ⟨#[35, 35]⟩, .bool false, .slice none 0 0] 89))).heap[b]? := fun b hb => hg.block b (by omega) (fun he => by have := hown b he.symm; omega)
        have HM8 := Lib.hid ((kb _ (by omega)).trans HMW.out)
        have HZ8 := Lib.hid ((kb _ (by omega)).trans HZW.out)
        have HR8 := Lib.hid (grownRd HRW.out hg (by omega : rb < w6.heap.size) (fun b hb => hown b hb))
        have HK8 := Lib.hid (grownKept HKW.out hg (fun b hb => by have := hown b hb; omega))
        have HP8 := Lib.hid ((sSlice sStr).frame (fun b hb => kb b (by have := (HLO.out b (by simp [hb])).2; omega)) HPW.out)
        obtain ⟨fpB, hRB, hOB⟩ := rowE_own hE (fun x hx => (List.mem_append.1 hx).elim (fun h => by obtain rfl := List.mem_singleton.1 h; rfl) (hXf x))
        have HFB : Hid (∀ b ∈ fpB, w6.heap.size ≤ b) := fun b hb => (hOB.2 b hb).1
        obtain ⟨av, cv, hv, -⟩ := hE.val
        generalize ([(⟨[.int .i64 4, .string ⟨#[35, 35]⟩, .bool false, .slice none 0 0], ⟨4, ⟨#[35, 35]⟩, false, []⟩, []⟩ : Elem Tok)] ++ X).length = nv at hv
        subst hv
        have HRB := Lib.hid hRB
        clear hE hg kb hRB hOB hown y3
        have y0 : w8.cell? ⟨w4.heap.size, 0, none⟩ = some (.string nm) := cell_of_row _ _ 0 _ _ _ HM8.out
        have y1 : w8.cell? ⟨w4.heap.size, 1, none⟩ = some (.bool fb) := cell_of_row _ _ 1 _ _ _ HM8.out
        have y2 : w8.cell? ⟨w4.heap.size, 2, none⟩ = some (.slice a2 ps.length c2) := cell_of_row _ _ 2 _ _ _ HM8.out
        have y3 : w8.cell? ⟨w4.heap.size, 3, none⟩ = some (.slice a3 bd.length c3) := cell_of_row _ _ 3 _ _ _ HM8.out
        have yf : w8.frozen? ⟨w4.heap.size, 3, none⟩ = false := frozen_of_row _ _ 3 _ _ HM8.out
        have z0 : w8.cell? ⟨w.heap.size, 0, none⟩ = some (.string ⟨#[]⟩) := cell_of_row _ _ 0 _ _ _ HZ8.out
        have zf0 : w8.frozen? ⟨w.heap.size, 0, none⟩ = false := frozen_of_row _ _ 0 _ _ HZ8.out
        have z1 : w8.cell? ⟨w.heap.size, 1, none⟩ = some (.bool false) := cell_of_row _ _ 1 _ _ _ HZ8.out
        have zf1 : w8.frozen? ⟨w.heap.size, 1, none⟩ = false := frozen_of_row _ _ 1 _ _ HZ8.out
        have z2 : w8.cell? ⟨w.heap.size, 2, none⟩ = some (.slice none 0 0) := cell_of_row _ _ 2 _ _ _ HZ8.out
        have zf2 : w8.frozen? ⟨w.heap.size, 2, none⟩ = false := frozen_of_row _ _ 2 _ _ HZ8.out
        have z3 : w8.cell? ⟨w.heap.size, 3, none⟩ = some (.slice none 0 0) := cell_of_row _ _ 3 _ _ _ HZ8.out
        have zf3 : w8.frozen? ⟨w.heap.size, 3, none⟩ = false := frozen_of_row _ _ 3 _ _ HZ8.out
        have HS := Lib.hid (set4_mac (w := w) (wP := w8.setCell ⟨w4.heap.size, 3, none⟩ (.slice av nv cv)) (blk_other HZ8.out (by omega : w.heap.size ≠ w4.heap.size) 3 (.slice av nv cv)) (sMacro.setB (show sMacro.R w8 [.string nm, .bool fb, .slice a2 ps.length c2, .slice av nv cv] ⟨nm, fb, ps, ([(⟨[.int .i64 4, .string ⟨#[35, 35]⟩, .bool false, .slice none 0 0], ⟨4, ⟨#[35, 35]⟩, false, []⟩, []⟩ : Elem Tok)] ++ X).map (·.d)⟩ (fp2 ++ fpB) from ⟨_, _, fp2, fpB, rfl, HOK.out.1, HP8.out, HRB.out, rfl⟩) (fun hx => (List.mem_append.1 hx).elim (fun h => HX1.out (by simp [h])) (fun h => by have := HFB.out _ h; omega)) 3 (.slice av nv cv)) (fun hx => (List.mem_append.1 hx).elim (fun h => HX0.out (by simp [h])) (fun h => by have := HFB.out _ h; omega)) (rdSet HR8.out (by omega) 3 (.slice av nv cv)) (by omega) (keptSet HK8.out (by omega) (.slice av nv cv) 3) (Nat.le_refl _))
        have HOKF : Hid (okMac ⟨nm, fb, ps, ([(⟨[.int .i64 4, .string ⟨#[35, 35]⟩, .bool false, .slice none 0 0], ⟨4, ⟨#[35, 35]⟩, false, []⟩, []⟩ : Elem Tok)] ++ X).map (·.d)⟩) := ⟨by have := HOK.out.2.1; show nm.size ≤ 1000; omega, by have := HOK.out.2.2.1; show ps.length ≤ 100; omega, by rw [List.map_append, hX]; simp; have := HOK.out.2.2.2.1; omega, fun t ht => by rw [List.map_append, hX] at ht; exact (List.mem_append.1 ht).elim (fun h => by simp at h; rw [h]; decide) (fun h => by rw [HOK.out.2.2.2.2 t h]; simp)⟩
        have HLOF : Hid (∀ b ∈ fp2 ++ fpB, w.heap.size ≤ b) := fun b hb => (List.mem_append.1 hb).elim (fun h => by have := (HLO.out b (by simp [h])).1; omega) (fun h => by have := HFB.out _ h; omega)
        clear HLO)
      refine bodyPost_ret (results_cell_row rfl _ _ w.heap.size _ _ _ _ rfl HS.out.1 Try.underlying35 rfl (by kernel_rfl)) rfl ?_
      exact dm_ret HS.out.2.1 HOKF.out HLOF.out (by omega) HS.out.2.2.1 HS.out.2.2.2
    · -- case 4
      have hbl := alloc_below' w6 (.cells #[] 89)
      have hlit : Hid (RowE sTok w6.heap.size 89 (.slice (some ⟨w6.heap.size, 0, none⟩) 0 0) [] (w6.alloc (.cells #[] 89))) := RowE.lit [] (by simp) (by simp) (by simp) (by simp) (Nat.le_refl _) (by simp)
      have HMW := Lib.hid (mbox HM7.out hbl)
      have HZW := Lib.hid (mbox HZ7.out hbl)
      have HRW := Lib.hid (HR7.out.grow hbl)
      have HKW := Lib.hid (HK7.out.trans (Kept.of_below hbl))
      have HPW := Lib.hid ((sSlice sStr).below HP7.out hbl)
      have HBW := Lib.hid ((sSlice sTok).below HB7.out hbl)
      have y3 : (w6.alloc (.cells #[] 89)).cell? ⟨w4.heap.size, 3, none⟩ = some (.slice a3 bd.length c3) := cell_of_row _ _ 3 _ _ _ HMW.out
      have hws : (w6.alloc (.cells #[] 89)).heap.size = w6.heap.size + 1 := Array.size_push _
      have HWS := Lib.hid hws
      clear hbl hws
      have hq1' : q ≤ p + 9 := by omega
      go_wp2_with (first
        | (
          at_builtin
          refine wp_append_toksR rfl (.tmp 76) (.tmp 78) rfl w6.heap.size (.slice (some ⟨w6.heap.size, 0, none⟩) 0 0) (.slice a3 bd.length c3) [] bd fp3 rfl hlit.out rfl HBW.out HOK.out.2.2.2.2 (by have := HOK.out.2.2.2.1; simp; omega) (by rw [HWS.out]; omega) ?_
          intro v8 X w8 hX hXf hE hg
          have hown : ∀ b, (Value.slice (some ⟨w6.heap.size, 0, none⟩) 0 0).ownBlock = some b → w6.heap.size ≤ b := hlit.out.mine
          have hlt6 : w6.heap.size < (w6.alloc (.cells #[] 89)).heap.size := by rw [HWS.out]; omega
          have kb : ∀ b, b < w6.heap.size → w8.heap[b]? = ((w6.alloc (.cells #[] 89))).heap[b]? := fun b hb => hg.block b (by omega) (fun he => by have := hown b he.symm; omega)
          have HM8 := Lib.hid ((kb _ (by omega)).trans HMW.out)
          have HZ8 := Lib.hid ((kb _ (by omega)).trans HZW.out)
          have HR8 := Lib.hid (grownRd HRW.out hg (by omega : rb < w6.heap.size) (fun b hb => hown b hb))
          have HK8 := Lib.hid (grownKept HKW.out hg (fun b hb => by have := hown b hb; omega))
          have HP8 := Lib.hid ((sSlice sStr).frame (fun b hb => kb b (by have := (HLO.out b (by simp [hb])).2; omega)) HPW.out)
          have hs8 : w6.heap.size < w8.heap.size := Nat.lt_of_lt_of_le hlt6 hg.size
          rw [List.nil_append] at hE
          obtain ⟨a8, c8, hv8, -⟩ := hE.val
          obtain ⟨n8, hn8⟩ : ∃ n, n = X.length := ⟨_, rfl⟩
          rw [← hn8] at hv8
          subst hv8
          have hn8b : n8 ≤ 20 := by have e : X.length = bd.length := (by rw [← hX, List.length_map]); have := HOK.out.2.2.2.1; omega
          have HN8 := Lib.hid hn8
          have HX8 := Lib.hid hX
          have HE8 := Lib.hid hE
          clear hE hg kb hown y3 hn8 hX hXf hlit)
        | (
          at_builtin
          refine wp_append_tokE rfl (.tmp 79) (.tmp 81) rfl w6.heap.size (.slice a8 n8 c8) X rfl HE8.out 4 ⟨#[35]⟩ false none 0 0 [] [] rfl (⟨_, rfl, ⟨by decide, by decide⟩, by show okStr _; unfold okStr; decide, slice_empty sStr _ _ _ (by simp)⟩) (by simp) (by simp) (by rw [← HN8.out]; omega) (by skip; omega) ?_
          intro v10 w10 hE10 hg10
          have hown := HE8.out.mine
          have kb : ∀ b, b < w6.heap.size → w10.heap[b]? = w8.heap[b]? := fun b hb => hg10.block b (by skip; omega) (fun he => by have := hown b he.symm; omega)
          have HMX := Lib.hid ((kb _ (by omega)).trans HM8.out)
          have HZX := Lib.hid ((kb _ (by omega)).trans HZ8.out)
          have HRX := Lib.hid (grownRd HR8.out hg10 (by omega : rb < w6.heap.size) (fun b hb => hown b hb))
          have HKX := Lib.hid (grownKept HK8.out hg10 (fun b hb => by have := hown b hb; omega))
          have HPX := Lib.hid ((sSlice sStr).frame (fun b hb => kb b (by have := (HLO.out b (by simp [hb])).2; omega)) HP8.out)
          obtain ⟨fpB, hRB, hOB⟩ := hE10.read
          have HFB : Hid (∀ b ∈ fpB, w6.heap.size ≤ b) := hOB
          have HRB := Lib.hid hRB
          obtain ⟨av, cv, hv, -⟩ := hE10.val
          generalize (X ++ [(⟨[.int .i64 4, .string ⟨#[35]⟩, .bool false, .slice none 0 0], ⟨4, ⟨#[35]⟩, false, []⟩, []⟩ : Elem Tok)]).length = nv at hv
          subst hv
          clear hE10 hg10 kb hRB hOB hown
          have y0 : w10.cell? ⟨w4.heap.size, 0, none⟩ = some (.string nm) := cell_of_row _ _ 0 _ _ _ HMX.out
          have y1 : w10.cell? ⟨w4.heap.size, 1, none⟩ = some (.bool fb) := cell_of_row _ _ 1 _ _ _ HMX.out
          have y2 : w10.cell? ⟨w4.heap.size, 2, none⟩ = some (.slice a2 ps.length c2) := cell_of_row _ _ 2 _ _ _ HMX.out
          have y3 : w10.cell? ⟨w4.heap.size, 3, none⟩ = some (.slice a3 bd.length c3) := cell_of_row _ _ 3 _ _ _ HMX.out
          have yf : w10.frozen? ⟨w4.heap.size, 3, none⟩ = false := frozen_of_row _ _ 3 _ _ HMX.out
          have z0 : w10.cell? ⟨w.heap.size, 0, none⟩ = some (.string ⟨#[]⟩) := cell_of_row _ _ 0 _ _ _ HZX.out
          have zf0 : w10.frozen? ⟨w.heap.size, 0, none⟩ = false := frozen_of_row _ _ 0 _ _ HZX.out
          have z1 : w10.cell? ⟨w.heap.size, 1, none⟩ = some (.bool false) := cell_of_row _ _ 1 _ _ _ HZX.out
          have zf1 : w10.frozen? ⟨w.heap.size, 1, none⟩ = false := frozen_of_row _ _ 1 _ _ HZX.out
          have z2 : w10.cell? ⟨w.heap.size, 2, none⟩ = some (.slice none 0 0) := cell_of_row _ _ 2 _ _ _ HZX.out
          have zf2 : w10.frozen? ⟨w.heap.size, 2, none⟩ = false := frozen_of_row _ _ 2 _ _ HZX.out
          have z3 : w10.cell? ⟨w.heap.size, 3, none⟩ = some (.slice none 0 0) := cell_of_row _ _ 3 _ _ _ HZX.out
          have zf3 : w10.frozen? ⟨w.heap.size, 3, none⟩ = false := frozen_of_row _ _ 3 _ _ HZX.out
          have HS := Lib.hid (set4_mac (w := w) (wP := w10.setCell ⟨w4.heap.size, 3, none⟩ (.slice av nv cv)) (blk_other HZX.out (by omega : w.heap.size ≠ w4.heap.size) 3 (.slice av nv cv)) (sMacro.setB (show sMacro.R w10 [.string nm, .bool fb, .slice a2 ps.length c2, .slice av nv cv] ⟨nm, fb, ps, (X ++ [(⟨[.int .i64 4, .string ⟨#[35]⟩, .bool false, .slice none 0 0], ⟨4, ⟨#[35]⟩, false, []⟩, []⟩ : Elem Tok)]).map (·.d)⟩ (fp2 ++ fpB) from ⟨_, _, fp2, fpB, rfl, HOK.out.1, HPX.out, HRB.out, rfl⟩) (fun hx => (List.mem_append.1 hx).elim (fun h => HX1.out (by simp [h])) (fun h => by have := HFB.out _ h; omega)) 3 (.slice av nv cv)) (fun hx => (List.mem_append.1 hx).elim (fun h => HX0.out (by simp [h])) (fun h => by have := HFB.out _ h; omega)) (rdSet HRX.out (by omega) 3 (.slice av nv cv)) (by omega) (keptSet HKX.out (by omega) (.slice av nv cv) 3) (Nat.le_refl _))
          have HOKF : Hid (okMac ⟨nm, fb, ps, (X ++ [(⟨[.int .i64 4, .string ⟨#[35]⟩, .bool false, .slice none 0 0], ⟨4, ⟨#[35]⟩, false, []⟩, []⟩ : Elem Tok)]).map (·.d)⟩) := ⟨by have := HOK.out.2.1; show nm.size ≤ 1000; omega, by have := HOK.out.2.2.1; show ps.length ≤ 100; omega, by rw [List.map_append, HX8.out]; simp; have := HOK.out.2.2.2.1; omega, fun t ht => by rw [List.map_append, HX8.out] at ht; exact (List.mem_append.1 ht).elim (fun h => by rw [HOK.out.2.2.2.2 t h]; simp) (fun h => by simp at h; rw [h]; decide)⟩
          have HLOF : Hid (∀ b ∈ fp2 ++ fpB, w.heap.size ≤ b) := fun b hb => (List.mem_append.1 hb).elim (fun h => by have := (HLO.out b (by simp [h])).1; omega) (fun h => by have := HFB.out _ h; omega)
          clear HLO))
      refine bodyPost_ret (results_cell_row rfl _ _ w.heap.size _ _ _ _ rfl HS.out.1 Try.underlying35 rfl (by kernel_rfl)) rfl ?_
      exact dm_ret HS.out.2.1 HOKF.out HLOF.out (by omega) HS.out.2.2.1 HS.out.2.2.2
    · -- case 5
      have hbl := alloc_below' w6 (.cells #[] 89)
      have hlit : Hid (RowE sTok w6.heap.size 89 (.slice (some ⟨w6.heap.size, 0, none⟩) 0 0) [] (w6.alloc (.cells #[] 89))) := RowE.lit [] (by simp) (by simp) (by simp) (by simp) (Nat.le_refl _) (by simp)
      have HMW := Lib.hid (mbox HM7.out hbl)
      have HZW := Lib.hid (mbox HZ7.out hbl)
      have HRW := Lib.hid (HR7.out.grow hbl)
      have HKW := Lib.hid (HK7.out.trans (Kept.of_below hbl))
      have HPW := Lib.hid ((sSlice sStr).below HP7.out hbl)
      have HBW := Lib.hid ((sSlice sTok).below HB7.out hbl)
      have y3 : (w6.alloc (.cells #[] 89)).cell? ⟨w4.heap.size, 3, none⟩ = some (.slice a3 bd.length c3) := cell_of_row _ _ 3 _ _ _ HMW.out
      have hws : (w6.alloc (.cells #[] 89)).heap.size = w6.heap.size + 1 := Array.size_push _
      have HWS := Lib.hid hws
      clear hbl hws
      have hq1' : q ≤ p + 9 := by omega
      go_wp2_with (first
        | (
          at_builtin
          refine wp_append_toksR rfl (.tmp 86) (.tmp 88) rfl w6.heap.size (.slice (some ⟨w6.heap.size, 0, none⟩) 0 0) (.slice a3 bd.length c3) [] bd fp3 rfl hlit.out rfl HBW.out HOK.out.2.2.2.2 (by have := HOK.out.2.2.2.1; simp; omega) (by rw [HWS.out]; omega) ?_
          intro v8 X w8 hX hXf hE hg
          have hown : ∀ b, (Value.slice (some ⟨w6.heap.size, 0, none⟩) 0 0).ownBlock = some b → w6.heap.size ≤ b := hlit.out.mine
          have hlt6 : w6.heap.size < (w6.alloc (.cells #[] 89)).heap.size := by rw [HWS.out]; omega
          have kb : ∀ b, b < w6.heap.size → w8.heap[b]? = ((w6.alloc (.cells #[] 89))).heap[b]? := fun b hb => hg.block b (by omega) (fun he => by have := hown b he.symm; omega)
          have HM8 := Lib.hid ((kb _ (by omega)).trans HMW.out)
          have HZ8 := Lib.hid ((kb _ (by omega)).trans HZW.out)
          have HR8 := Lib.hid (grownRd HRW.out hg (by omega : rb < w6.heap.size) (fun b hb => hown b hb))
          have HK8 := Lib.hid (grownKept HKW.out hg (fun b hb => by have := hown b hb; omega))
          have HP8 := Lib.hid ((sSlice sStr).frame (fun b hb => kb b (by have := (HLO.out b (by simp [hb])).2; omega)) HPW.out)
          have hs8 : w6.heap.size < w8.heap.size := Nat.lt_of_lt_of_le hlt6 hg.size
          rw [List.nil_append] at hE
          obtain ⟨a8, c8, hv8, -⟩ := hE.val
          obtain ⟨n8, hn8⟩ : ∃ n, n = X.length := ⟨_, rfl⟩
          rw [← hn8] at hv8
          subst hv8
          have hn8b : n8 ≤ 20 := by have e : X.length = bd.length := (by rw [← hX, List.length_map]); have := HOK.out.2.2.2.1; omega
          have HN8 := Lib.hid hn8
          have HX8 := Lib.hid hX
          have HE8 := Lib.hid hE
          have hbh := alloc_below' w8 (.cells #[.string ⟨#[97]⟩] 9)
          have hh : (w8.alloc (.cells #[.string ⟨#[97]⟩] 9)).ownsRow w8.heap.size 9 1 (.slice (some ⟨w8.heap.size, 0, none⟩) 1 1) 1 (([⟨#[97]⟩] : List ByteArray).map Value.string) := World.ownsRow_lit (base := w8.heap.size) (e := 9) (size := 1) w8 #[.string ⟨#[97]⟩] 1 (Nat.le_refl _) (by unfold maxLen; omega) rfl
          obtain ⟨fpH, RH, OH, hfpH⟩ := own_flat (ok := okStr) hh (by intro i hi; have e : i = 0 := (by simp at hi; omega); subst e; exact (show okStr (⟨#[97]⟩ : ByteArray) by unfold okStr; decide))
          have HTT : Hid (∀ b ∈ fpH, ∃ cur t fr, (w8.alloc (.cells #[.string ⟨#[97]⟩] 9)).heap[b]? = some (.cells cur t fr) ∧ t ≠ 89) := fun b hb => by
            have e := hfpH b hb
            simp only [Value.ownBlock, Option.some.injEq] at e
            subst e
            exact ⟨_, _, _, heap_alloc_new w8 _, by decide⟩
          have HLH : Hid (∀ b ∈ fpH, w6.heap.size ≤ b) := fun b hb => by have := (OH.2 b hb).1; omega
          have HRH : Hid (sTok.R (w8.alloc (.cells #[.string ⟨#[97]⟩] 9)) [.int .i64 1, .string ⟨#[97]⟩, .bool false, .slice (some ⟨w8.heap.size, 0, none⟩) 1 1] ⟨1, ⟨#[97]⟩, false, [⟨#[97]⟩]⟩ fpH) := ⟨_, rfl, ⟨by decide, by decide⟩, by show okStr _; unfold okStr; decide, RH⟩
          have HW9 : Hid ((w8.alloc (.cells #[.string ⟨#[97]⟩] 9)).heap.size = w8.heap.size + 1) := Array.size_push _
          have HM9 := Lib.hid (mbox HM8.out hbh)
          have HZ9 := Lib.hid (mbox HZ8.out hbh)
          have HR9 := Lib.hid (HR8.out.grow hbh)
          have HK9 := Lib.hid (HK8.out.trans (Kept.of_below hbh))
          have HP9 := Lib.hid ((sSlice sStr).below HP8.out hbh)
          have HE9 := Lib.hid (HE8.out.below hbh)
          clear hbh hh RH OH hfpH HM8 HZ8 HR8 HK8 HP8 HE8
          clear hE hg kb hown y3 hn8 hX hXf hlit)
        | (
          at_builtin
          refine wp_append_tokE rfl (.tmp 89) (.tmp 92) rfl w6.heap.size (.slice a8 n8 c8) X rfl HE9.out 1 ⟨#[97]⟩ false (some ⟨w8.heap.size, 0, none⟩) 1 1 [⟨#[97]⟩] fpH (by rw [HW9.out]; rfl) HRH.out HLH.out HTT.out (by rw [← HN8.out]; omega) (by rw [HW9.out]; omega) ?_
          intro v10 w10 hE10 hg10
          have hown := HE9.out.mine
          have kb : ∀ b, b < w6.heap.size → w10.heap[b]? = (w8.alloc (.cells #[.string ⟨#[97]⟩] 9)).heap[b]? := fun b hb => hg10.block b (by rw [HW9.out]; omega) (fun he => by have := hown b he.symm; omega)
          have HMX := Lib.hid ((kb _ (by omega)).trans HM9.out)
          have HZX := Lib.hid ((kb _ (by omega)).trans HZ9.out)
          have HRX := Lib.hid (grownRd HR9.out hg10 (by omega : rb < w6.heap.size) (fun b hb => hown b hb))
          have HKX := Lib.hid (grownKept HK9.out hg10 (fun b hb => by have := hown b hb; omega))
          have HPX := Lib.hid ((sSlice sStr).frame (fun b hb => kb b (by have := (HLO.out b (by simp [hb])).2; omega)) HP9.out)
          obtain ⟨fpB, hRB, hOB⟩ := hE10.read
          have HFB : Hid (∀ b ∈ fpB, w6.heap.size ≤ b) := hOB
          have HRB := Lib.hid hRB
          obtain ⟨av, cv, hv, -⟩ := hE10.val
          generalize (X ++ [(⟨[.int .i64 1, .string ⟨#[97]⟩, .bool false, .slice (some ⟨w8.heap.size, 0, none⟩) 1 1], ⟨1, ⟨#[97]⟩, false, [⟨#[97]⟩]⟩, fpH⟩ : Elem Tok)]).length = nv at hv
          subst hv
          clear hE10 hg10 kb hRB hOB hown
          have y0 : w10.cell? ⟨w4.heap.size, 0, none⟩ = some (.string nm) := cell_of_row _ _ 0 _ _ _ HMX.out
          have y1 : w10.cell? ⟨w4.heap.size, 1, none⟩ = some (.bool fb) := cell_of_row _ _ 1 _ _ _ HMX.out
          have y2 : w10.cell? ⟨w4.heap.size, 2, none⟩ = some (.slice a2 ps.length c2) := cell_of_row _ _ 2 _ _ _ HMX.out
          have y3 : w10.cell? ⟨w4.heap.size, 3, none⟩ = some (.slice a3 bd.length c3) := cell_of_row _ _ 3 _ _ _ HMX.out
          have yf : w10.frozen? ⟨w4.heap.size, 3, none⟩ = false := frozen_of_row _ _ 3 _ _ HMX.out
          have z0 : w10.cell? ⟨w.heap.size, 0, none⟩ = some (.string ⟨#[]⟩) := cell_of_row _ _ 0 _ _ _ HZX.out
          have zf0 : w10.frozen? ⟨w.heap.size, 0, none⟩ = false := frozen_of_row _ _ 0 _ _ HZX.out
          have z1 : w10.cell? ⟨w.heap.size, 1, none⟩ = some (.bool false) := cell_of_row _ _ 1 _ _ _ HZX.out
          have zf1 : w10.frozen? ⟨w.heap.size, 1, none⟩ = false := frozen_of_row _ _ 1 _ _ HZX.out
          have z2 : w10.cell? ⟨w.heap.size, 2, none⟩ = some (.slice none 0 0) := cell_of_row _ _ 2 _ _ _ HZX.out
          have zf2 : w10.frozen? ⟨w.heap.size, 2, none⟩ = false := frozen_of_row _ _ 2 _ _ HZX.out
          have z3 : w10.cell? ⟨w.heap.size, 3, none⟩ = some (.slice none 0 0) := cell_of_row _ _ 3 _ _ _ HZX.out
          have zf3 : w10.frozen? ⟨w.heap.size, 3, none⟩ = false := frozen_of_row _ _ 3 _ _ HZX.out
          have HS := Lib.hid (set4_mac (w := w) (wP := w10.setCell ⟨w4.heap.size, 3, none⟩ (.slice av nv cv)) (blk_other HZX.out (by omega : w.heap.size ≠ w4.heap.size) 3 (.slice av nv cv)) (sMacro.setB (show sMacro.R w10 [.string nm, .bool fb, .slice a2 ps.length c2, .slice av nv cv] ⟨nm, fb, ps, (X ++ [(⟨[.int .i64 1, .string ⟨#[97]⟩, .bool false, .slice (some ⟨w8.heap.size, 0, none⟩) 1 1], ⟨1, ⟨#[97]⟩, false, [⟨#[97]⟩]⟩, fpH⟩ : Elem Tok)]).map (·.d)⟩ (fp2 ++ fpB) from ⟨_, _, fp2, fpB, rfl, HOK.out.1, HPX.out, HRB.out, rfl⟩) (fun hx => (List.mem_append.1 hx).elim (fun h => HX1.out (by simp [h])) (fun h => by have := HFB.out _ h; omega)) 3 (.slice av nv cv)) (fun hx => (List.mem_append.1 hx).elim (fun h => HX0.out (by simp [h])) (fun h => by have := HFB.out _ h; omega)) (rdSet HRX.out (by omega) 3 (.slice av nv cv)) (by omega) (keptSet HKX.out (by omega) (.slice av nv cv) 3) (Nat.le_refl _))
          have HOKF : Hid (okMac ⟨nm, fb, ps, (X ++ [(⟨[.int .i64 1, .string ⟨#[97]⟩, .bool false, .slice (some ⟨w8.heap.size, 0, none⟩) 1 1], ⟨1, ⟨#[97]⟩, false, [⟨#[97]⟩]⟩, fpH⟩ : Elem Tok)]).map (·.d)⟩) := ⟨by have := HOK.out.2.1; show nm.size ≤ 1000; omega, by have := HOK.out.2.2.1; show ps.length ≤ 100; omega, by rw [List.map_append, HX8.out]; simp; have := HOK.out.2.2.2.1; omega, fun t ht => by rw [List.map_append, HX8.out] at ht; exact (List.mem_append.1 ht).elim (fun h => by rw [HOK.out.2.2.2.2 t h]; simp) (fun h => by simp at h; rw [h]; decide)⟩
          have HLOF : Hid (∀ b ∈ fp2 ++ fpB, w.heap.size ≤ b) := fun b hb => (List.mem_append.1 hb).elim (fun h => by have := (HLO.out b (by simp [h])).1; omega) (fun h => by have := HFB.out _ h; omega)
          clear HLO))
      refine bodyPost_ret (results_cell_row rfl _ _ w.heap.size _ _ _ _ rfl HS.out.1 Try.underlying35 rfl (by kernel_rfl)) rfl ?_
      exact dm_ret HS.out.2.1 HOKF.out HLOF.out (by omega) HS.out.2.2.1 HS.out.2.2.2
    · -- case 6
      have hbl := alloc_below' w6 (.cells #[.int .i64 1, .string ⟨#[97]⟩, .bool true, .slice none 0 0] 89)
      have hlit : RowE sTok w6.heap.size 89 (.slice (some ⟨w6.heap.size, 0, none⟩) 1 1) [(⟨[.int .i64 1, .string ⟨#[97]⟩, .bool true, .slice none 0 0], ⟨1, ⟨#[97]⟩, true, []⟩, []⟩ : Elem Tok)] (w6.alloc (.cells #[.int .i64 1, .string ⟨#[97]⟩, .bool true, .slice none 0 0] 89)) := RowE.lit [(⟨[.int .i64 1, .string ⟨#[97]⟩, .bool true, .slice none 0 0], ⟨1, ⟨#[97]⟩, true, []⟩, []⟩ : Elem Tok)] (by intro x hx; simp only [List.mem_cons, List.not_mem_nil, or_false] at hx; rcases hx with rfl <;> rfl) (by intro x hx; simp only [List.mem_cons, List.not_mem_nil, or_false] at hx; rcases hx with rfl <;> exact ⟨_, rfl, ⟨by decide, by decide⟩, by show okStr _; unfold okStr; decide, slice_empty sStr _ _ _ (by simp)⟩) (by intro x hx b hb; simp only [List.mem_cons, List.not_mem_nil, or_false] at hx; rcases hx with rfl <;> simp at hb) (by intro x hx b hb; simp only [List.mem_cons, List.not_mem_nil, or_false] at hx; rcases hx with rfl <;> simp at hb) (Nat.le_refl _) (by decide)
      obtain ⟨fpB, hRB, hOB⟩ := rowE_own hlit (by intro x hx; simp only [List.mem_cons, List.not_mem_nil, or_false] at hx; rcases hx with rfl <;> rfl)
      have HFB : Hid (∀ b ∈ fpB, w6.heap.size ≤ b) := fun b hb => (hOB.2 b hb).1
      have HRB := Lib.hid hRB
      have HMW := Lib.hid (mbox HM7.out hbl)
      have HZW := Lib.hid (mbox HZ7.out hbl)
      have HRW := Lib.hid (HR7.out.grow hbl)
      have HKW := Lib.hid (HK7.out.trans (Kept.of_below hbl))
      have HPW := Lib.hid ((sSlice sStr).below HP7.out hbl)
      clear hlit hRB hOB hbl
      have x0 : (w6.alloc (.cells #[.int .i64 1, .string ⟨#[97]⟩, .bool true, .slice none 0 0] 89)).cell? ⟨w4.heap.size, 0, none⟩ = some (.string nm) := cell_of_row _ _ 0 _ _ _ HMW.out
      have x1 : (w6.alloc (.cells #[.int .i64 1, .string ⟨#[97]⟩, .bool true, .slice none 0 0] 89)).cell? ⟨w4.heap.size, 1, none⟩ = some (.bool fb) := cell_of_row _ _ 1 _ _ _ HMW.out
      have x2 : (w6.alloc (.cells #[.int .i64 1, .string ⟨#[97]⟩, .bool true, .slice none 0 0] 89)).cell? ⟨w4.heap.size, 2, none⟩ = some (.slice a2 ps.length c2) := cell_of_row _ _ 2 _ _ _ HMW.out
      have x3 : (w6.alloc (.cells #[.int .i64 1, .string ⟨#[97]⟩, .bool true, .slice none 0 0] 89)).cell? ⟨w4.heap.size, 3, none⟩ = some (.slice a3 bd.length c3) := cell_of_row _ _ 3 _ _ _ HMW.out
      have xf : (w6.alloc (.cells #[.int .i64 1, .string ⟨#[97]⟩, .bool true, .slice none 0 0] 89)).frozen? ⟨w4.heap.size, 3, none⟩ = false := frozen_of_row _ _ 3 _ _ HMW.out
      have eW : (w6.alloc (.cells #[.int .i64 1, .string ⟨#[97]⟩, .bool true, .slice none 0 0] 89)).setCell ⟨w4.heap.size, 3, none⟩ (.slice (some ⟨w6.heap.size, 0, none⟩) 1 1) = ((w6.setCell ⟨w4.heap.size, 3, none⟩ (.slice (some ⟨w6.heap.size, 0, none⟩) 1 1)).alloc (.cells #[.int .i64 1, .string ⟨#[97]⟩, .bool true, .slice none 0 0] 89)) := World.setCell_alloc_past _ _ _ _ hs6
      have HMS := Lib.hid (eW ▸ blk_set HMW.out 3 (.slice (some ⟨w6.heap.size, 0, none⟩) 1 1))
      have HZS := Lib.hid (eW ▸ blk_other HZW.out (by omega : w.heap.size ≠ w4.heap.size) 3 (.slice (some ⟨w6.heap.size, 0, none⟩) 1 1))
      have HRS := Lib.hid (eW ▸ rdSet HRW.out (by omega : rb < w4.heap.size) 3 (.slice (some ⟨w6.heap.size, 0, none⟩) 1 1))
      have HKS := Lib.hid (eW ▸ keptSet HKW.out (by omega : w.heap.size ≤ w4.heap.size) (.slice (some ⟨w6.heap.size, 0, none⟩) 1 1) 3)
      have HPS := Lib.hid (eW ▸ (sSlice sStr).setB HPW.out (fun hx => HX1.out (by simp [hx])) 3 (.slice (some ⟨w6.heap.size, 0, none⟩) 1 1))
      have HBS := Lib.hid (eW ▸ (sSlice sTok).setB HRB.out (fun hx => by have := HFB.out _ hx; omega) 3 (.slice (some ⟨w6.heap.size, 0, none⟩) 1 1))
      clear eW HMW HZW HRW HKW HPW HRB
      have y0 : ((w6.setCell ⟨w4.heap.size, 3, none⟩ (.slice (some ⟨w6.heap.size, 0, none⟩) 1 1)).alloc (.cells #[.int .i64 1, .string ⟨#[97]⟩, .bool true, .slice none 0 0] 89)).cell? ⟨w4.heap.size, 0, none⟩ = some (.string nm) := cell_of_row _ _ 0 _ _ _ HMS.out
      have y1 : ((w6.setCell ⟨w4.heap.size, 3, none⟩ (.slice (some ⟨w6.heap.size, 0, none⟩) 1 1)).alloc (.cells #[.int .i64 1, .string ⟨#[97]⟩, .bool true, .slice none 0 0] 89)).cell? ⟨w4.heap.size, 1, none⟩ = some (.bool fb) := cell_of_row _ _ 1 _ _ _ HMS.out
      have y2 : ((w6.setCell ⟨w4.heap.size, 3, none⟩ (.slice (some ⟨w6.heap.size, 0, none⟩) 1 1)).alloc (.cells #[.int .i64 1, .string ⟨#[97]⟩, .bool true, .slice none 0 0] 89)).cell? ⟨w4.heap.size, 2, none⟩ = some (.slice a2 ps.length c2) := cell_of_row _ _ 2 _ _ _ HMS.out
      have y3 : ((w6.setCell ⟨w4.heap.size, 3, none⟩ (.slice (some ⟨w6.heap.size, 0, none⟩) 1 1)).alloc (.cells #[.int .i64 1, .string ⟨#[97]⟩, .bool true, .slice none 0 0] 89)).cell? ⟨w4.heap.size, 3, none⟩ = some (.slice (some ⟨w6.heap.size, 0, none⟩) 1 1) := cell_of_row _ _ 3 _ _ _ HMS.out
      have z0 : ((w6.setCell ⟨w4.heap.size, 3, none⟩ (.slice (some ⟨w6.heap.size, 0, none⟩) 1 1)).alloc (.cells #[.int .i64 1, .string ⟨#[97]⟩, .bool true, .slice none 0 0] 89)).cell? ⟨w.heap.size, 0, none⟩ = some (.string ⟨#[]⟩) := cell_of_row _ _ 0 _ _ _ HZS.out
      have zf0 : ((w6.setCell ⟨w4.heap.size, 3, none⟩ (.slice (some ⟨w6.heap.size, 0, none⟩) 1 1)).alloc (.cells #[.int .i64 1, .string ⟨#[97]⟩, .bool true, .slice none 0 0] 89)).frozen? ⟨w.heap.size, 0, none⟩ = false := frozen_of_row _ _ 0 _ _ HZS.out
      have z1 : ((w6.setCell ⟨w4.heap.size, 3, none⟩ (.slice (some ⟨w6.heap.size, 0, none⟩) 1 1)).alloc (.cells #[.int .i64 1, .string ⟨#[97]⟩, .bool true, .slice none 0 0] 89)).cell? ⟨w.heap.size, 1, none⟩ = some (.bool false) := cell_of_row _ _ 1 _ _ _ HZS.out
      have zf1 : ((w6.setCell ⟨w4.heap.size, 3, none⟩ (.slice (some ⟨w6.heap.size, 0, none⟩) 1 1)).alloc (.cells #[.int .i64 1, .string ⟨#[97]⟩, .bool true, .slice none 0 0] 89)).frozen? ⟨w.heap.size, 1, none⟩ = false := frozen_of_row _ _ 1 _ _ HZS.out
      have z2 : ((w6.setCell ⟨w4.heap.size, 3, none⟩ (.slice (some ⟨w6.heap.size, 0, none⟩) 1 1)).alloc (.cells #[.int .i64 1, .string ⟨#[97]⟩, .bool true, .slice none 0 0] 89)).cell? ⟨w.heap.size, 2, none⟩ = some (.slice none 0 0) := cell_of_row _ _ 2 _ _ _ HZS.out
      have zf2 : ((w6.setCell ⟨w4.heap.size, 3, none⟩ (.slice (some ⟨w6.heap.size, 0, none⟩) 1 1)).alloc (.cells #[.int .i64 1, .string ⟨#[97]⟩, .bool true, .slice none 0 0] 89)).frozen? ⟨w.heap.size, 2, none⟩ = false := frozen_of_row _ _ 2 _ _ HZS.out
      have z3 : ((w6.setCell ⟨w4.heap.size, 3, none⟩ (.slice (some ⟨w6.heap.size, 0, none⟩) 1 1)).alloc (.cells #[.int .i64 1, .string ⟨#[97]⟩, .bool true, .slice none 0 0] 89)).cell? ⟨w.heap.size, 3, none⟩ = some (.slice none 0 0) := cell_of_row _ _ 3 _ _ _ HZS.out
      have zf3 : ((w6.setCell ⟨w4.heap.size, 3, none⟩ (.slice (some ⟨w6.heap.size, 0, none⟩) 1 1)).alloc (.cells #[.int .i64 1, .string ⟨#[97]⟩, .bool true, .slice none 0 0] 89)).frozen? ⟨w.heap.size, 3, none⟩ = false := frozen_of_row _ _ 3 _ _ HZS.out
      have HS := Lib.hid (set4_mac (w := w) (wP := ((w6.setCell ⟨w4.heap.size, 3, none⟩ (.slice (some ⟨w6.heap.size, 0, none⟩) 1 1)).alloc (.cells #[.int .i64 1, .string ⟨#[97]⟩, .bool true, .slice none 0 0] 89))) HZS.out (show sMacro.R ((w6.setCell ⟨w4.heap.size, 3, none⟩ (.slice (some ⟨w6.heap.size, 0, none⟩) 1 1)).alloc (.cells #[.int .i64 1, .string ⟨#[97]⟩, .bool true, .slice none 0 0] 89)) [.string nm, .bool fb, .slice a2 ps.length c2, .slice (some ⟨w6.heap.size, 0, none⟩) 1 1] ⟨nm, fb, ps, ([(⟨[.int .i64 1, .string ⟨#[97]⟩, .bool true, .slice none 0 0], ⟨1, ⟨#[97]⟩, true, []⟩, []⟩ : Elem Tok)]).map (·.d)⟩ (fp2 ++ fpB) from ⟨_, _, fp2, fpB, rfl, HOK.out.1, HPS.out, HBS.out, rfl⟩) (fun hx => (List.mem_append.1 hx).elim (fun h => HX0.out (by simp [h])) (fun h => by have := HFB.out _ h; omega)) HRS.out (by omega) HKS.out (Nat.le_refl _))
      have HOKF : Hid (okMac ⟨nm, fb, ps, ([(⟨[.int .i64 1, .string ⟨#[97]⟩, .bool true, .slice none 0 0], ⟨1, ⟨#[97]⟩, true, []⟩, []⟩ : Elem Tok)]).map (·.d)⟩) := ⟨by have := HOK.out.2.1; show nm.size ≤ 1000; omega, by have := HOK.out.2.2.1; show ps.length ≤ 100; omega, by show (1 : Nat) ≤ 100; omega, fun t ht => by simp only [List.map_cons, List.map_nil, List.mem_cons, List.not_mem_nil, or_false] at ht; rcases ht with rfl <;> decide⟩
      have HLOF : Hid (∀ b ∈ fp2 ++ fpB, w.heap.size ≤ b) := fun b hb => (List.mem_append.1 hb).elim (fun h => by have := (HLO.out b (by simp [h])).1; omega) (fun h => by have := HFB.out _ h; omega)
      clear HLO
      go_wp2
      refine bodyPost_ret (results_cell_row rfl _ _ w.heap.size _ _ _ _ rfl HS.out.1 Try.underlying35 rfl (by kernel_rfl)) rfl ?_
      exact dm_ret HS.out.2.1 HOKF.out HLOF.out (by omega) HS.out.2.2.1 HS.out.2.2.2
    · -- case 7
      have hbl := alloc_below' w6 (.cells #[.int .i64 1, .string ⟨#[97]⟩, .bool false, .slice none 0 0, .int .i64 4, .string ⟨#[35, 35]⟩, .bool false, .slice none 0 0, .int .i64 4, .string ⟨#[35, 35]⟩, .bool false, .slice none 0 0, .int .i64 1, .string ⟨#[98]⟩, .bool false, .slice none 0 0] 89)
      have hlit : RowE sTok w6.heap.size 89 (.slice (some ⟨w6.heap.size, 0, none⟩) 4 4) [(⟨[.int .i64 1, .string ⟨#[97]⟩, .bool false, .slice none 0 0], ⟨1, ⟨#[97]⟩, false, []⟩, []⟩ : Elem Tok), (⟨[.int .i64 4, .string ⟨#[35, 35]⟩, .bool false, .slice none 0 0], ⟨4, ⟨#[35, 35]⟩, false, []⟩, []⟩ : Elem Tok), (⟨[.int .i64 4, .string ⟨#[35, 35]⟩, .bool false, .slice none 0 0], ⟨4, ⟨#[35, 35]⟩, false, []⟩, []⟩ : Elem Tok), (⟨[.int .i64 1, .string ⟨#[98]⟩, .bool false, .slice none 0 0], ⟨1, ⟨#[98]⟩, false, []⟩, []⟩ : Elem Tok)] (w6.alloc (.cells #[.int .i64 1, .string ⟨#[97]⟩, .bool false, .slice none 0 0, .int .i64 4, .string ⟨#[35, 35]⟩, .bool false, .slice none 0 0, .int .i64 4, .string ⟨#[35, 35]⟩, .bool false, .slice none 0 0, .int .i64 1, .string ⟨#[98]⟩, .bool false, .slice none 0 0] 89)) := RowE.lit [(⟨[.int .i64 1, .string ⟨#[97]⟩, .bool false, .slice none 0 0], ⟨1, ⟨#[97]⟩, false, []⟩, []⟩ : Elem Tok), (⟨[.int .i64 4, .string ⟨#[35, 35]⟩, .bool false, .slice none 0 0], ⟨4, ⟨#[35, 35]⟩, false, []⟩, []⟩ : Elem Tok), (⟨[.int .i64 4, .string ⟨#[35, 35]⟩, .bool false, .slice none 0 0], ⟨4, ⟨#[35, 35]⟩, false, []⟩, []⟩ : Elem Tok), (⟨[.int .i64 1, .string ⟨#[98]⟩, .bool false, .slice none 0 0], ⟨1, ⟨#[98]⟩, false, []⟩, []⟩ : Elem Tok)] (by intro x hx; simp only [List.mem_cons, List.not_mem_nil, or_false] at hx; rcases hx with rfl | rfl | rfl | rfl <;> rfl) (by intro x hx; simp only [List.mem_cons, List.not_mem_nil, or_false] at hx; rcases hx with rfl | rfl | rfl | rfl <;> exact ⟨_, rfl, ⟨by decide, by decide⟩, by show okStr _; unfold okStr; decide, slice_empty sStr _ _ _ (by simp)⟩) (by intro x hx b hb; simp only [List.mem_cons, List.not_mem_nil, or_false] at hx; rcases hx with rfl | rfl | rfl | rfl <;> simp at hb) (by intro x hx b hb; simp only [List.mem_cons, List.not_mem_nil, or_false] at hx; rcases hx with rfl | rfl | rfl | rfl <;> simp at hb) (Nat.le_refl _) (by decide)
      obtain ⟨fpB, hRB, hOB⟩ := rowE_own hlit (by intro x hx; simp only [List.mem_cons, List.not_mem_nil, or_false] at hx; rcases hx with rfl | rfl | rfl | rfl <;> rfl)
      have HFB : Hid (∀ b ∈ fpB, w6.heap.size ≤ b) := fun b hb => (hOB.2 b hb).1
      have HRB := Lib.hid hRB
      have HMW := Lib.hid (mbox HM7.out hbl)
      have HZW := Lib.hid (mbox HZ7.out hbl)
      have HRW := Lib.hid (HR7.out.grow hbl)
      have HKW := Lib.hid (HK7.out.trans (Kept.of_below hbl))
      have HPW := Lib.hid ((sSlice sStr).below HP7.out hbl)
      clear hlit hRB hOB hbl
      have x0 : (w6.alloc (.cells #[.int .i64 1, .string ⟨#[97]⟩, .bool false, .slice none 0 0, .int .i64 4, .string ⟨#[35, 35]⟩, .bool false, .slice none 0 0, .int .i64 4, .string ⟨#[35, 35]⟩, .bool false, .slice none 0 0, .int .i64 1, .string ⟨#[98]⟩, .bool false, .slice none 0 0] 89)).cell? ⟨w4.heap.size, 0, none⟩ = some (.string nm) := cell_of_row _ _ 0 _ _ _ HMW.out
      have x1 : (w6.alloc (.cells #[.int .i64 1, .string ⟨#[97]⟩, .bool false, .slice none 0 0, .int .i64 4, .string ⟨#[35, 35]⟩, .bool false, .slice none 0 0, .int .i64 4, .string ⟨#[35, 35]⟩, .bool false, .slice none 0 0, .int .i64 1, .string ⟨#[98]⟩, .bool false, .slice none 0 0] 89)).cell? ⟨w4.heap.size, 1, none⟩ = some (.bool fb) := cell_of_row _ _ 1 _ _ _ HMW.out
      have x2 : (w6.alloc (.cells #[.int .i64 1, .string ⟨#[97]⟩, .bool false, .slice none 0 0, .int .i64 4, .string ⟨#[35, 35]⟩, .bool false, .slice none 0 0, .int .i64 4, .string ⟨#[35, 35]⟩, .bool false, .slice none 0 0, .int .i64 1, .string ⟨#[98]⟩, .bool false, .slice none 0 0] 89)).cell? ⟨w4.heap.size, 2, none⟩ = some (.slice a2 ps.length c2) := cell_of_row _ _ 2 _ _ _ HMW.out
      have x3 : (w6.alloc (.cells #[.int .i64 1, .string ⟨#[97]⟩, .bool false, .slice none 0 0, .int .i64 4, .string ⟨#[35, 35]⟩, .bool false, .slice none 0 0, .int .i64 4, .string ⟨#[35, 35]⟩, .bool false, .slice none 0 0, .int .i64 1, .string ⟨#[98]⟩, .bool false, .slice none 0 0] 89)).cell? ⟨w4.heap.size, 3, none⟩ = some (.slice a3 bd.length c3) := cell_of_row _ _ 3 _ _ _ HMW.out
      have xf : (w6.alloc (.cells #[.int .i64 1, .string ⟨#[97]⟩, .bool false, .slice none 0 0, .int .i64 4, .string ⟨#[35, 35]⟩, .bool false, .slice none 0 0, .int .i64 4, .string ⟨#[35, 35]⟩, .bool false, .slice none 0 0, .int .i64 1, .string ⟨#[98]⟩, .bool false, .slice none 0 0] 89)).frozen? ⟨w4.heap.size, 3, none⟩ = false := frozen_of_row _ _ 3 _ _ HMW.out
      have eW : (w6.alloc (.cells #[.int .i64 1, .string ⟨#[97]⟩, .bool false, .slice none 0 0, .int .i64 4, .string ⟨#[35, 35]⟩, .bool false, .slice none 0 0, .int .i64 4, .string ⟨#[35, 35]⟩, .bool false, .slice none 0 0, .int .i64 1, .string ⟨#[98]⟩, .bool false, .slice none 0 0] 89)).setCell ⟨w4.heap.size, 3, none⟩ (.slice (some ⟨w6.heap.size, 0, none⟩) 4 4) = ((w6.setCell ⟨w4.heap.size, 3, none⟩ (.slice (some ⟨w6.heap.size, 0, none⟩) 4 4)).alloc (.cells #[.int .i64 1, .string ⟨#[97]⟩, .bool false, .slice none 0 0, .int .i64 4, .string ⟨#[35, 35]⟩, .bool false, .slice none 0 0, .int .i64 4, .string ⟨#[35, 35]⟩, .bool false, .slice none 0 0, .int .i64 1, .string ⟨#[98]⟩, .bool false, .slice none 0 0] 89)) := World.setCell_alloc_past _ _ _ _ hs6
      have HMS := Lib.hid (eW ▸ blk_set HMW.out 3 (.slice (some ⟨w6.heap.size, 0, none⟩) 4 4))
      have HZS := Lib.hid (eW ▸ blk_other HZW.out (by omega : w.heap.size ≠ w4.heap.size) 3 (.slice (some ⟨w6.heap.size, 0, none⟩) 4 4))
      have HRS := Lib.hid (eW ▸ rdSet HRW.out (by omega : rb < w4.heap.size) 3 (.slice (some ⟨w6.heap.size, 0, none⟩) 4 4))
      have HKS := Lib.hid (eW ▸ keptSet HKW.out (by omega : w.heap.size ≤ w4.heap.size) (.slice (some ⟨w6.heap.size, 0, none⟩) 4 4) 3)
      have HPS := Lib.hid (eW ▸ (sSlice sStr).setB HPW.out (fun hx => HX1.out (by simp [hx])) 3 (.slice (some ⟨w6.heap.size, 0, none⟩) 4 4))
      have HBS := Lib.hid (eW ▸ (sSlice sTok).setB HRB.out (fun hx => by have := HFB.out _ hx; omega) 3 (.slice (some ⟨w6.heap.size, 0, none⟩) 4 4))
      clear eW HMW HZW HRW HKW HPW HRB
      have y0 : ((w6.setCell ⟨w4.heap.size, 3, none⟩ (.slice (some ⟨w6.heap.size, 0, none⟩) 4 4)).alloc (.cells #[.int .i64 1, .string ⟨#[97]⟩, .bool false, .slice none 0 0, .int .i64 4, .string ⟨#[35, 35]⟩, .bool false, .slice none 0 0, .int .i64 4, .string ⟨#[35, 35]⟩, .bool false, .slice none 0 0, .int .i64 1, .string ⟨#[98]⟩, .bool false, .slice none 0 0] 89)).cell? ⟨w4.heap.size, 0, none⟩ = some (.string nm) := cell_of_row _ _ 0 _ _ _ HMS.out
      have y1 : ((w6.setCell ⟨w4.heap.size, 3, none⟩ (.slice (some ⟨w6.heap.size, 0, none⟩) 4 4)).alloc (.cells #[.int .i64 1, .string ⟨#[97]⟩, .bool false, .slice none 0 0, .int .i64 4, .string ⟨#[35, 35]⟩, .bool false, .slice none 0 0, .int .i64 4, .string ⟨#[35, 35]⟩, .bool false, .slice none 0 0, .int .i64 1, .string ⟨#[98]⟩, .bool false, .slice none 0 0] 89)).cell? ⟨w4.heap.size, 1, none⟩ = some (.bool fb) := cell_of_row _ _ 1 _ _ _ HMS.out
      have y2 : ((w6.setCell ⟨w4.heap.size, 3, none⟩ (.slice (some ⟨w6.heap.size, 0, none⟩) 4 4)).alloc (.cells #[.int .i64 1, .string ⟨#[97]⟩, .bool false, .slice none 0 0, .int .i64 4, .string ⟨#[35, 35]⟩, .bool false, .slice none 0 0, .int .i64 4, .string ⟨#[35, 35]⟩, .bool false, .slice none 0 0, .int .i64 1, .string ⟨#[98]⟩, .bool false, .slice none 0 0] 89)).cell? ⟨w4.heap.size, 2, none⟩ = some (.slice a2 ps.length c2) := cell_of_row _ _ 2 _ _ _ HMS.out
      have y3 : ((w6.setCell ⟨w4.heap.size, 3, none⟩ (.slice (some ⟨w6.heap.size, 0, none⟩) 4 4)).alloc (.cells #[.int .i64 1, .string ⟨#[97]⟩, .bool false, .slice none 0 0, .int .i64 4, .string ⟨#[35, 35]⟩, .bool false, .slice none 0 0, .int .i64 4, .string ⟨#[35, 35]⟩, .bool false, .slice none 0 0, .int .i64 1, .string ⟨#[98]⟩, .bool false, .slice none 0 0] 89)).cell? ⟨w4.heap.size, 3, none⟩ = some (.slice (some ⟨w6.heap.size, 0, none⟩) 4 4) := cell_of_row _ _ 3 _ _ _ HMS.out
      have z0 : ((w6.setCell ⟨w4.heap.size, 3, none⟩ (.slice (some ⟨w6.heap.size, 0, none⟩) 4 4)).alloc (.cells #[.int .i64 1, .string ⟨#[97]⟩, .bool false, .slice none 0 0, .int .i64 4, .string ⟨#[35, 35]⟩, .bool false, .slice none 0 0, .int .i64 4, .string ⟨#[35, 35]⟩, .bool false, .slice none 0 0, .int .i64 1, .string ⟨#[98]⟩, .bool false, .slice none 0 0] 89)).cell? ⟨w.heap.size, 0, none⟩ = some (.string ⟨#[]⟩) := cell_of_row _ _ 0 _ _ _ HZS.out
      have zf0 : ((w6.setCell ⟨w4.heap.size, 3, none⟩ (.slice (some ⟨w6.heap.size, 0, none⟩) 4 4)).alloc (.cells #[.int .i64 1, .string ⟨#[97]⟩, .bool false, .slice none 0 0, .int .i64 4, .string ⟨#[35, 35]⟩, .bool false, .slice none 0 0, .int .i64 4, .string ⟨#[35, 35]⟩, .bool false, .slice none 0 0, .int .i64 1, .string ⟨#[98]⟩, .bool false, .slice none 0 0] 89)).frozen? ⟨w.heap.size, 0, none⟩ = false := frozen_of_row _ _ 0 _ _ HZS.out
      have z1 : ((w6.setCell ⟨w4.heap.size, 3, none⟩ (.slice (some ⟨w6.heap.size, 0, none⟩) 4 4)).alloc (.cells #[.int .i64 1, .string ⟨#[97]⟩, .bool false, .slice none 0 0, .int .i64 4, .string ⟨#[35, 35]⟩, .bool false, .slice none 0 0, .int .i64 4, .string ⟨#[35, 35]⟩, .bool false, .slice none 0 0, .int .i64 1, .string ⟨#[98]⟩, .bool false, .slice none 0 0] 89)).cell? ⟨w.heap.size, 1, none⟩ = some (.bool false) := cell_of_row _ _ 1 _ _ _ HZS.out
      have zf1 : ((w6.setCell ⟨w4.heap.size, 3, none⟩ (.slice (some ⟨w6.heap.size, 0, none⟩) 4 4)).alloc (.cells #[.int .i64 1, .string ⟨#[97]⟩, .bool false, .slice none 0 0, .int .i64 4, .string ⟨#[35, 35]⟩, .bool false, .slice none 0 0, .int .i64 4, .string ⟨#[35, 35]⟩, .bool false, .slice none 0 0, .int .i64 1, .string ⟨#[98]⟩, .bool false, .slice none 0 0] 89)).frozen? ⟨w.heap.size, 1, none⟩ = false := frozen_of_row _ _ 1 _ _ HZS.out
      have z2 : ((w6.setCell ⟨w4.heap.size, 3, none⟩ (.slice (some ⟨w6.heap.size, 0, none⟩) 4 4)).alloc (.cells #[.int .i64 1, .string ⟨#[97]⟩, .bool false, .slice none 0 0, .int .i64 4, .string ⟨#[35, 35]⟩, .bool false, .slice none 0 0, .int .i64 4, .string ⟨#[35, 35]⟩, .bool false, .slice none 0 0, .int .i64 1, .string ⟨#[98]⟩, .bool false, .slice none 0 0] 89)).cell? ⟨w.heap.size, 2, none⟩ = some (.slice none 0 0) := cell_of_row _ _ 2 _ _ _ HZS.out
      have zf2 : ((w6.setCell ⟨w4.heap.size, 3, none⟩ (.slice (some ⟨w6.heap.size, 0, none⟩) 4 4)).alloc (.cells #[.int .i64 1, .string ⟨#[97]⟩, .bool false, .slice none 0 0, .int .i64 4, .string ⟨#[35, 35]⟩, .bool false, .slice none 0 0, .int .i64 4, .string ⟨#[35, 35]⟩, .bool false, .slice none 0 0, .int .i64 1, .string ⟨#[98]⟩, .bool false, .slice none 0 0] 89)).frozen? ⟨w.heap.size, 2, none⟩ = false := frozen_of_row _ _ 2 _ _ HZS.out
      have z3 : ((w6.setCell ⟨w4.heap.size, 3, none⟩ (.slice (some ⟨w6.heap.size, 0, none⟩) 4 4)).alloc (.cells #[.int .i64 1, .string ⟨#[97]⟩, .bool false, .slice none 0 0, .int .i64 4, .string ⟨#[35, 35]⟩, .bool false, .slice none 0 0, .int .i64 4, .string ⟨#[35, 35]⟩, .bool false, .slice none 0 0, .int .i64 1, .string ⟨#[98]⟩, .bool false, .slice none 0 0] 89)).cell? ⟨w.heap.size, 3, none⟩ = some (.slice none 0 0) := cell_of_row _ _ 3 _ _ _ HZS.out
      have zf3 : ((w6.setCell ⟨w4.heap.size, 3, none⟩ (.slice (some ⟨w6.heap.size, 0, none⟩) 4 4)).alloc (.cells #[.int .i64 1, .string ⟨#[97]⟩, .bool false, .slice none 0 0, .int .i64 4, .string ⟨#[35, 35]⟩, .bool false, .slice none 0 0, .int .i64 4, .string ⟨#[35, 35]⟩, .bool false, .slice none 0 0, .int .i64 1, .string ⟨#[98]⟩, .bool false, .slice none 0 0] 89)).frozen? ⟨w.heap.size, 3, none⟩ = false := frozen_of_row _ _ 3 _ _ HZS.out
      have HS := Lib.hid (set4_mac (w := w) (wP := ((w6.setCell ⟨w4.heap.size, 3, none⟩ (.slice (some ⟨w6.heap.size, 0, none⟩) 4 4)).alloc (.cells #[.int .i64 1, .string ⟨#[97]⟩, .bool false, .slice none 0 0, .int .i64 4, .string ⟨#[35, 35]⟩, .bool false, .slice none 0 0, .int .i64 4, .string ⟨#[35, 35]⟩, .bool false, .slice none 0 0, .int .i64 1, .string ⟨#[98]⟩, .bool false, .slice none 0 0] 89))) HZS.out (show sMacro.R ((w6.setCell ⟨w4.heap.size, 3, none⟩ (.slice (some ⟨w6.heap.size, 0, none⟩) 4 4)).alloc (.cells #[.int .i64 1, .string ⟨#[97]⟩, .bool false, .slice none 0 0, .int .i64 4, .string ⟨#[35, 35]⟩, .bool false, .slice none 0 0, .int .i64 4, .string ⟨#[35, 35]⟩, .bool false, .slice none 0 0, .int .i64 1, .string ⟨#[98]⟩, .bool false, .slice none 0 0] 89)) [.string nm, .bool fb, .slice a2 ps.length c2, .slice (some ⟨w6.heap.size, 0, none⟩) 4 4] ⟨nm, fb, ps, ([(⟨[.int .i64 1, .string ⟨#[97]⟩, .bool false, .slice none 0 0], ⟨1, ⟨#[97]⟩, false, []⟩, []⟩ : Elem Tok), (⟨[.int .i64 4, .string ⟨#[35, 35]⟩, .bool false, .slice none 0 0], ⟨4, ⟨#[35, 35]⟩, false, []⟩, []⟩ : Elem Tok), (⟨[.int .i64 4, .string ⟨#[35, 35]⟩, .bool false, .slice none 0 0], ⟨4, ⟨#[35, 35]⟩, false, []⟩, []⟩ : Elem Tok), (⟨[.int .i64 1, .string ⟨#[98]⟩, .bool false, .slice none 0 0], ⟨1, ⟨#[98]⟩, false, []⟩, []⟩ : Elem Tok)]).map (·.d)⟩ (fp2 ++ fpB) from ⟨_, _, fp2, fpB, rfl, HOK.out.1, HPS.out, HBS.out, rfl⟩) (fun hx => (List.mem_append.1 hx).elim (fun h => HX0.out (by simp [h])) (fun h => by have := HFB.out _ h; omega)) HRS.out (by omega) HKS.out (Nat.le_refl _))
      have HOKF : Hid (okMac ⟨nm, fb, ps, ([(⟨[.int .i64 1, .string ⟨#[97]⟩, .bool false, .slice none 0 0], ⟨1, ⟨#[97]⟩, false, []⟩, []⟩ : Elem Tok), (⟨[.int .i64 4, .string ⟨#[35, 35]⟩, .bool false, .slice none 0 0], ⟨4, ⟨#[35, 35]⟩, false, []⟩, []⟩ : Elem Tok), (⟨[.int .i64 4, .string ⟨#[35, 35]⟩, .bool false, .slice none 0 0], ⟨4, ⟨#[35, 35]⟩, false, []⟩, []⟩ : Elem Tok), (⟨[.int .i64 1, .string ⟨#[98]⟩, .bool false, .slice none 0 0], ⟨1, ⟨#[98]⟩, false, []⟩, []⟩ : Elem Tok)]).map (·.d)⟩) := ⟨by have := HOK.out.2.1; show nm.size ≤ 1000; omega, by have := HOK.out.2.2.1; show ps.length ≤ 100; omega, by show (4 : Nat) ≤ 100; omega, fun t ht => by simp only [List.map_cons, List.map_nil, List.mem_cons, List.not_mem_nil, or_false] at ht; rcases ht with rfl | rfl | rfl | rfl <;> decide⟩
      have HLOF : Hid (∀ b ∈ fp2 ++ fpB, w.heap.size ≤ b) := fun b hb => (List.mem_append.1 hb).elim (fun h => by have := (HLO.out b (by simp [h])).1; omega) (fun h => by have := HFB.out _ h; omega)
      clear HLO
      go_wp2
      refine bodyPost_ret (results_cell_row rfl _ _ w.heap.size _ _ _ _ rfl HS.out.1 Try.underlying35 rfl (by kernel_rfl)) rfl ?_
      exact dm_ret HS.out.2.1 HOKF.out HLOF.out (by omega) HS.out.2.2.1 HS.out.2.2.2

end Go.Proofs.Ythbojipdhgidlab

/- Tables are drawn. -/
namespace Go.Proofs.Ythbojipdhgidlab
open Go.RowKit

theorem okMac_sm {m : DMacro} (h : okMac m) : MacSm m := ⟨by have := h.2.1; omega, by have := h.2.2.1; omega, fun k hk => by have := h.2.2.2 _ (List.getElem_mem hk); omega⟩
theorem defM_mem {l : List DMacro} {m : DMacro} : ∀ x ∈ (defM l m).1, x ∈ l ∨ x = m := by
  intro x hx
  unfold defM at hx
  split at hx
  · split at hx
    · split at hx
      · exact .inl hx
      · split at hx
        · exact .inl hx
        · unfold putAt at hx
          simp only [List.mem_append, List.mem_singleton] at hx
          rcases hx with (h | h) | h
          · exact .inl (List.mem_of_mem_take h)
          · exact .inr h
          · exact .inl (List.mem_of_mem_drop h)
    · exact .inl hx
  · simp at hx
theorem defM_len (l : List DMacro) (m : DMacro) : (defM l m).1.length ≤ l.length + 1 := by
  unfold defM
  split
  · split
    · split
      · simp
      · split
        · simp
        · unfold putAt
          simp only [List.length_append, List.length_take, List.length_drop, List.length_singleton]
          omega
    · simp
  · simp
/-- A drawn table. -/
def DrawnTab (rb p n : Nat) (w : World) (e : Ending) (w' : World) : Prop :=
  ∃ (v : Value) (l : List DMacro) (fp : List Nat) (q : Nat), e = .returned v ∧ (sSlice sMacro).R w' [v] l fp ∧ (∀ b ∈ fp, w.heap.size ≤ b) ∧ (∀ m ∈ l, okMac m) ∧ l.length ≤ 9 ∧ q ≤ p + n ∧ Rd w' rb q ∧ Kept [rb] w w'
/-- append behind a row: what can be read then. -/
theorem wp_append_read {α : Type} {S : Shape α} {P : Program} {t e : TypeId} {z : Value} {bytes : Nat} (ti : TI P t e z S.m bytes) (hzs : z.cells.size = S.m) (h0 : 0 < S.m) (w : World) {L X : List (Elem α)} {ops : Array Oper} {rest : List Oper} {o : Oper} {a : Act} {Q : Exit → Act → World → Prop}
    (hg : o.guard = none) (s y : Operand) (ho : o.op = .call { callee := .builtin .append, args := #[s, y], argTypes := #[t, t] })
    (base : Nat) (v : Value) (hs : a.eval s = v) (hown : RowG S base e v L w) (g off m c : Nat) (hy : a.eval y = .slice (some ⟨g, off, none⟩) m c) (hm : X.length = m)
    (hX : ∀ x ∈ X, x.cells.length = S.m ∧ S.R w x.cells x.d x.fp ∧ ∀ b ∈ x.fp, v.ownBlock ≠ some b) (h1 : ∀ x ∈ X, ∀ u ∈ x.cells, u.oneCell' = true) (hcell : ∀ j u, (X.flatMap (·.cells))[j]? = some u → w.cell? ⟨g, off + j, none⟩ = some u)
    (h63 : L.length + m ≤ maxLen) (hbytes : (L.length + m) * bytes ≤ 140737488355328) (hbase : base ≤ w.heap.size)
    (h : ∀ v' fp w', (sSlice S).R w' [v'] ((L ++ X).map (·.d)) fp → (∀ b ∈ fp, base ≤ b ∨ ∃ x ∈ L ++ X, b ∈ x.fp) → w.grownBy w' v.ownBlock → wpList P ops Q rest (a.put o.dst v') w') : wpList P ops Q (o :: rest) a w := by
  obtain ⟨i, hi, hz0, hz1, hz2⟩ := info_parts ti.2
  subst hm
  refine wpList_append_own _ hg s y t ho base e i z S.m bytes ti.1 hi hz0 hz1 hz2 hzs h0 v L.length _ hs hown.row ⟨g, off, none⟩ X.length c (X.flatMap (·.cells)) hy (flatMap_len (f := Elem.cells) fun x hx => (hX x hx).1) ?_ ?_ h63 hbytes hbase fun v' w' r1 r2 _ => ?_
  · intro j u hj
    rw [Addr.add_lit]
    exact hcell j u hj
  · intro u hu
    obtain ⟨x, hx, hu⟩ := List.mem_flatMap.1 hu
    exact h1 x hx u hu
  · have hall : ∀ x ∈ L ++ X, x.cells.length = S.m ∧ S.R w' x.cells x.d x.fp := fun x hx => by
      have hb : x.cells.length = S.m ∧ S.R w x.cells x.d x.fp ∧ ∀ b ∈ x.fp, v.ownBlock ≠ some b := by
        rcases List.mem_append.1 hx with hx | hx
        · exact ⟨hown.len x hx, hown.el x hx, hown.ap x hx⟩
        · exact hX x hx
      exact ⟨hb.1, S.frame (fun b hb' => r2.block b (S.lt hb.2.1 b hb') fun e => hb.2.2 b hb' e.symm) hb.2.1⟩
    have hrow : w'.ownsRow base e S.m v' (L ++ X).length ((L ++ X).flatMap (·.cells)) := by
      rw [List.length_append, List.flatMap_append]; exact r1
    obtain ⟨fp, q1, q2, _⟩ := slice_of_row hrow hall
    refine h v' fp w' q1 (fun b hb => ?_) r2
    rcases q2 b hb with h0 | h0
    · exact .inl (hrow.lt b h0).1
    · obtain ⟨x, hx, hb'⟩ := List.mem_flatMap.1 h0
      exact .inr ⟨x, hx, hb'⟩

set_option maxHeartbeats 8000000 in
set_option maxRecDepth 100000 in
theorem l20Table (rb p : Nat) (n : Int) (w : World) (H : Rd w rb p) (hp : p ≤ 1000) (hn : n ≤ 100) (hn0 : 0 ≤ n) :
    Calls Try.prog 35 #[.pointer (some ⟨rb, 0, none⟩), .int .i64 n] w (DrawnTab rb p 200 w) := by
  have hrb := H.lt
  have hlit := Lib.hid (RowG.lit0 sMacro 35 w)
  have hba := alloc_below' w (.cells #[] 35)
  have HR0 := Lib.hid (H.grow hba)
  have HK0 := Lib.hid (Kept.of_below (fp := [rb]) hba)
  have hs0 := hba.size
  go_enter Try.func35, Try.ntmps35
  go_wp2_with fail
  refine (pick rb p _ _ HR0.out (by omega) (by omega) (by omega)).mono ?_
  rintro e w1 ⟨r, rfl, hr0, hr1, hR1, hK1⟩
  have HE1 := Lib.hid (hlit.out.kept hK1 (fun g hg hx => by have h1 := hlit.out.mine g hg; have h2 : g = rb := (by simpa using hx); omega) (by simp))
  have HK01 := Lib.hid (HK0.out.trans hK1)
  obtain ⟨c, rfl⟩ : ∃ c : Nat, r = c := ⟨r.toNat, by omega⟩
  clear hlit hba HR0 HK0 hK1
  go_wp2
  go_loopw [5, 6] (fun o i wr => ∃ (k q top : Nat) (L : List (Elem DMacro)), k ≤ c ∧ i = .int .i64 k ∧ q ≤ p + 1 + 10 * (c - k) ∧ w.heap.size ≤ top ∧ top ≤ wr.heap.size ∧ Hid (RowG sMacro top 35 o L wr) ∧ L.length + k ≤ c ∧ Hid (∀ x ∈ L, okMac x.d ∧ ∀ b ∈ x.fp, w.heap.size ≤ b) ∧ Rd wr rb q ∧ Kept [rb] w wr) (fun _ i _ => (intOf i).toNat)
  case atStart => exact ⟨c, p + 1, w.heap.size, [], by omega, rfl, by omega, by omega, by have := HK01.out.size; omega, HE1, by simp, (show ∀ x ∈ ([] : List (Elem DMacro)), okMac x.d ∧ ∀ b ∈ x.fp, w.heap.size ≤ b from by simp), hR1, HK01.out⟩
  case round =>
    clear HE1 HK01 hR1
    obtain ⟨k, q, top, L, hk, rfl, hq, ht1, ht2, HE, hLk, HO, hR, hK⟩ := hrel
    by_cases hk0 : 0 < k
    · have hk0' : (0 : Int) < (k : Int) := by omega
      go_wp2_with fail
      refine (l20Macro rb q _ _ hR (by omega) (by omega) (by omega)).mono ?_
      rintro e w2 ⟨nm, f, a2, a3, n2, c2, n3, c3, ps, bd, fp, q2, rfl, hT, hok, hlo, hq2, hR2, hK2⟩
      have HE2 := Lib.hid (HE.out.kept hK2 (fun g hg hx => by have h1 := HE.out.mine g hg; have h2 : g = rb := (by simpa using hx); omega) (fun x hx b hb hy => by have h1 := (HO.out x hx).2 b hb; have h2 : b = rb := (by simpa using hy); omega))
      have hKK := hK.trans hK2
      obtain ⟨fpl, hRL, -, -⟩ := HE2.out.read
      have hsz := hKK.size
      have HOKM := Lib.hid hok
      have HLO := Lib.hid hlo
      go_wp2_with fail
      refine (spec_Define _ (L.map (·.d)) fpl [.string nm, .bool f, .slice a2 n2 c2, .slice a3 n3 c3] ⟨nm, f, ps, bd⟩ fp _ (by rw [List.length_map]; omega) (fun k hk => by rw [List.getElem_map]; exact okMac_sm (HO.out _ (List.getElem_mem _)).1) (okMac_sm hok) hRL hT).mono ?_
      rintro e w3 ⟨v3, L3, top3, rfl, hG3, hD3, ht3, ht3', hlo3, hb3⟩
      have HE3 := Lib.hid hG3
      have hl3 : L3.length + (k - 1) ≤ c := by
        have h1 := defM_len (L.map (·.d)) ⟨nm, f, ps, bd⟩
        rw [← hD3, List.length_map, List.length_map] at h1
        omega
      have HO3 : Hid (∀ x ∈ L3, okMac x.d ∧ ∀ b ∈ x.fp, w.heap.size ≤ b) := fun x hx => by
        refine ⟨?_, fun b hb => by have := hlo3 x hx b hb; omega⟩
        have hm : x.d ∈ (defM (L.map (·.d)) ⟨nm, f, ps, bd⟩).1 := by rw [← hD3]; exact List.mem_map_of_mem hx
        rcases defM_mem _ hm with h | h
        · obtain ⟨y, hy, e⟩ := List.mem_map.1 h
          rw [← e]
          exact (HO.out y hy).1
        · rw [h]; exact HOKM.out
      have HR3 := Lib.hid (hR2.grow hb3)
      have HK3 := Lib.hid (hKK.trans (Kept.of_below (fp := [rb]) hb3))
      clear hT hok hlo hK2 hRL HE hD3 hlo3 hb3 hG3 hR2 hKK hK hR HO HE2 HOKM HLO
      obtain ⟨av, cv, rfl, -⟩ := HE3.out.val
      go_wp2
      go_roundw
      case rel => exact ⟨k - 1, q2, top3, L3, by omega, by first | rfl | (congr 1; omega) | go_num, by omega, by omega, ht3', HE3, by omega, HO3, HR3.out, HK3.out⟩
      case measure => simp [intOf]; omega
    · have hk0' : ¬ (0 : Int) < (k : Int) := by omega
      go_wp2_with fail
      refine (odd rb q n _ hR (by omega) (by omega) hn0).mono ?_
      rintro e w2 ⟨b, q2, rfl, hq1, hq2, hR2, hK2⟩
      have HE2 := Lib.hid (HE.out.kept hK2 (fun g hg hx => by have h1 := HE.out.mine g hg; have h2 : g = rb := (by simpa using hx); omega) (fun x hx b hb hy => by have h1 := (HO.out x hx).2 b hb; have h2 : b = rb := (by simpa using hy); omega))
      have HKK := Lib.hid (hK.trans hK2)
      have HOK : Hid (∀ m ∈ L.map (·.d), okMac m) := fun m hm => by
        obtain ⟨y, hy, e⟩ := List.mem_map.1 hm
        rw [← e]
        exact (HO.out y hy).1
      have hs2 := hK2.size
      have hl7 : L.length ≤ 7 := by omega
      clear HE hK hK2 hR
      cases b
      · obtain ⟨fpl, hRL, hin, -⟩ := HE2.out.read
        have HRL := Lib.hid hRL
        have HIN : Hid (∀ b ∈ fpl, w.heap.size ≤ b) := fun b hb => by
          rcases hin b hb with h | ⟨x, hx, h⟩
          · have := HE2.out.mine b h; omega
          · exact (HO.out x hx).2 b h
        clear hRL hin
        go_wp2
        go_ret
        exact ⟨_, _, fpl, q2, rfl, HRL.out, HIN.out, HOK.out, by rw [List.length_map]; omega, by omega, hR2, HKK.out⟩
      · go_wp2_with fail
        refine (pick rb q2 _ _ hR2 (by omega) (by omega) (by omega)).mono ?_
        rintro e w3 ⟨r3, rfl, h30, h31, hR3, hK3⟩
        have HE3 := Lib.hid (HE2.out.kept hK3 (fun g hg hx => by have h1 := HE2.out.mine g hg; have h2 : g = rb := (by simpa using hx); omega) (fun x hx b hb hy => by have h1 := (HO.out x hx).2 b hb; have h2 : b = rb := (by simpa using hy); omega))
        have HK3 := Lib.hid (HKK.out.trans hK3)
        have hs3 := hK3.size
        clear HE2 HKK hR2 hK3
        by_cases h3 : r3 = 0
        · have h3' : (r3 == 0) = true := by simp [h3]
          clear h3
          go_wp2_with fail
          refine (l20Macro rb (q2 + 1) _ _ hR3 (by omega) (by omega) (by omega)).mono ?_
          rintro e w4 ⟨nm, f, a2, a3, n2, c2, n3, c3, ps, bd, fp, q4, rfl, hT, hok, hlo, hq4, hR4, hK4⟩
          have HE4 := Lib.hid (HE3.out.kept hK4 (fun g hg hx => by have h1 := HE3.out.mine g hg; have h2 : g = rb := (by simpa using hx); omega) (fun x hx b hb hy => by have h1 := (HO.out x hx).2 b hb; have h2 : b = rb := (by simpa using hy); omega))
          have HK4 := Lib.hid (HK3.out.trans hK4)
          have HAP := Lib.hid (fun g hg => (HE3.out.row.lt g hg).2)
          have hs4 := hK4.size
          have HT := Lib.hid hT
          have HOM := Lib.hid hok
          have HLO := Lib.hid hlo
          have HR4 := Lib.hid hR4
          obtain ⟨av, cv, rfl, -⟩ := HE4.out.val
          have hba := alloc_below' w4 (.cells #[.string nm, .bool f, .slice a2 n2 c2, .slice a3 n3 c3] 35)
          have HBA := Lib.hid hba
          clear hT hok hlo HE3 HK3 hR3 hK4 hR4 hba
          go_wp2_with (at_builtin; refine wp_append_read ti_mac rfl (by decide) _ (X := [(⟨[.string nm, .bool f, .slice a2 n2 c2, .slice a3 n3 c3], ⟨nm, f, ps, bd⟩, fp⟩ : Elem DMacro)]) rfl (.tmp 36) (.tmp 39) rfl top (.slice av L.length cv) rfl (HE4.out.below HBA.out) w4.heap.size 0 1 1 rfl rfl (fun x hx => by obtain rfl := List.mem_singleton.1 hx; exact ⟨rfl, sMacro.below HT.out HBA.out, fun b hb e => by have h1 := HAP.out b e; have h2 := HLO.out b hb; omega⟩) (fun x hx => by obtain rfl := List.mem_singleton.1 hx; simp [Value.oneCell']) (fun j u hj => by rw [Nat.zero_add, World.cell?_alloc_at _ _ _ _ rfl]; simpa using hj) (by unfold maxLen; omega) (by omega) (by have := HBA.out.size; omega) ?_; intro v5 fp5 w5 hR5 hin5 hg5; have HIN5 := Lib.hid hin5; have HR5 := Lib.hid hR5; have HRF := Lib.hid (grownRd (HR4.out.grow HBA.out) hg5 (by omega) (fun b hb => HE4.out.mine b hb)); have HKF := Lib.hid (grownKept (HK4.out.trans (Kept.of_below HBA.out)) hg5 (fun b hb => by have := HE4.out.mine b hb; omega)); clear hR5 hg5 hin5)
          go_wp2
          go_ret
          exact ⟨_, _, fp5, q4, rfl, HR5.out, fun b hb => by
            rcases HIN5.out b hb with h | ⟨x, hx, h⟩
            · omega
            · rcases List.mem_append.1 hx with hx | hx
              · exact (HO.out x hx).2 b h
              · obtain rfl := List.mem_singleton.1 hx
                have := HLO.out b h
                omega, fun m hm => by
            rw [List.map_append, List.mem_append] at hm
            rcases hm with h | h
            · exact HOK.out m h
            · obtain rfl := List.mem_singleton.1 h; exact HOM.out, by rw [List.length_map, List.length_append]; simp; omega, by omega, HRF.out, HKF.out⟩
        · have h3' : (r3 == 0) = false := by simp [h3]
          clear h3
          have hAA : ∀ W : World, sMacro.R W [.string ⟨#[65]⟩, .bool false, .slice none 0 0, .slice none 0 0] ⟨⟨#[65]⟩, false, [], []⟩ [] := fun W => ⟨_, _, [], [], rfl, (by show okStr _; unfold okStr; decide), slice_empty sStr W none 0 (by simp), slice_empty sTok W none 0 (by simp), rfl⟩
          obtain ⟨av, cv, rfl, -⟩ := HE3.out.val
          have hba := alloc_below' w3 (.cells #[.string ⟨#[65]⟩, .bool false, .slice none 0 0, .slice none 0 0, .string ⟨#[65]⟩, .bool false, .slice none 0 0, .slice none 0 0] 35)
          have HBA := Lib.hid hba
          have HAA := Lib.hid hAA
          have HR3 := Lib.hid hR3
          clear hba hAA hR3
          go_wp2_with (at_builtin; refine wp_append_read ti_mac rfl (by decide) _ (X := [(⟨[.string ⟨#[65]⟩, .bool false, .slice none 0 0, .slice none 0 0], ⟨⟨#[65]⟩, false, [], []⟩, []⟩ : Elem DMacro), (⟨[.string ⟨#[65]⟩, .bool false, .slice none 0 0, .slice none 0 0], ⟨⟨#[65]⟩, false, [], []⟩, []⟩ : Elem DMacro)]) rfl (.tmp 29) (.tmp 32) rfl top (.slice av L.length cv) rfl (HE3.out.below HBA.out) w3.heap.size 0 2 2 rfl rfl (fun x hx => by have e : x = (⟨[.string ⟨#[65]⟩, .bool false, .slice none 0 0, .slice none 0 0], ⟨⟨#[65]⟩, false, [], []⟩, []⟩ : Elem DMacro) := (by simpa using hx); subst e; exact ⟨rfl, HAA.out _, by simp⟩) (fun x hx => by have e : x = (⟨[.string ⟨#[65]⟩, .bool false, .slice none 0 0, .slice none 0 0], ⟨⟨#[65]⟩, false, [], []⟩, []⟩ : Elem DMacro) := (by simpa using hx); subst e; simp [Value.oneCell']) (fun j u hj => by rw [Nat.zero_add, World.cell?_alloc_at _ _ _ _ rfl]; simpa using hj) (by unfold maxLen; omega) (by omega) (by have := HBA.out.size; omega) ?_; intro v5 fp5 w5 hR5 hin5 hg5; have HIN5 := Lib.hid hin5; have HR5 := Lib.hid hR5; have HRF := Lib.hid (grownRd (HR3.out.grow HBA.out) hg5 (by omega) (fun b hb => HE3.out.mine b hb)); have HKF := Lib.hid (grownKept (HK3.out.trans (Kept.of_below HBA.out)) hg5 (fun b hb => by have := HE3.out.mine b hb; omega)); clear hR5 hg5 hin5)
          go_wp2
          go_ret
          exact ⟨_, _, fp5, q2 + 1, rfl, HR5.out, fun b hb => by
            rcases HIN5.out b hb with h | ⟨x, hx, h⟩
            · omega
            · rcases List.mem_append.1 hx with hx | hx
              · exact (HO.out x hx).2 b h
              · have e : x = (⟨[.string ⟨#[65]⟩, .bool false, .slice none 0 0, .slice none 0 0], ⟨⟨#[65]⟩, false, [], []⟩, []⟩ : Elem DMacro) := (by simpa using hx)
                subst e
                simp at h, fun m hm => by
            rw [List.map_append, List.mem_append] at hm
            rcases hm with h | h
            · exact HOK.out m h
            · have e : m = ⟨⟨#[65]⟩, false, [], []⟩ := (by simpa using h)
              subst e
              exact ⟨by show (1 : Nat) ≤ _; omega, by show (0 : Nat) ≤ _; omega, by show (0 : Nat) ≤ _; omega, by simp⟩, by rw [List.length_map, List.length_append]; simp; omega, by omega, HRF.out, HKF.out⟩

end Go.Proofs.Ythbojipdhgidlab

/- Names are drawn, and tables with names. -/
namespace Go.Proofs.Ythbojipdhgidlab
open Go.RowKit

def wd_texts : Array Value := #[.string ⟨#[97]⟩, .string ⟨#[98]⟩, .string ⟨#[102]⟩, .string ⟨#[103]⟩, .string ⟨#[65, 66]⟩, .string ⟨#[122, 122]⟩, .string ⟨#[100, 101, 102, 105, 110, 101, 100]⟩, .string ⟨#[49]⟩]
theorem wd_text {k : Nat} (h : k < 8) : ∃ s : ByteArray, s.size ≤ 10 ∧ wd_texts[k]? = some (.string s) := by
  rcases (show k = 0 ∨ k = 1 ∨ k = 2 ∨ k = 3 ∨ k = 4 ∨ k = 5 ∨ k = 6 ∨ k = 7 by omega) with rfl | rfl | rfl | rfl | rfl | rfl | rfl | rfl <;> exact ⟨_, by decide, rfl⟩
theorem wd_num {r : Int} (h0 : 0 ≤ r) (h1 : r < 10) : ∃ k : Nat, k < 8 ∧ (#[.int .i64 0, .int .i64 0, .int .i64 1, .int .i64 1, .int .i64 2, .int .i64 3, .int .i64 4, .int .i64 5, .int .i64 6, .int .i64 7] : Array Value)[r.toNat]? = some (.int .i64 (k : Int)) := by
  rcases (show r = 0 ∨ r = 1 ∨ r = 2 ∨ r = 3 ∨ r = 4 ∨ r = 5 ∨ r = 6 ∨ r = 7 ∨ r = 8 ∨ r = 9 by omega) with rfl | rfl | rfl | rfl | rfl | rfl | rfl | rfl | rfl | rfl
  · exact ⟨0, by decide, rfl⟩
  · exact ⟨0, by decide, rfl⟩
  · exact ⟨1, by decide, rfl⟩
  · exact ⟨1, by decide, rfl⟩
  · exact ⟨2, by decide, rfl⟩
  · exact ⟨3, by decide, rfl⟩
  · exact ⟨4, by decide, rfl⟩
  · exact ⟨5, by decide, rfl⟩
  · exact ⟨6, by decide, rfl⟩
  · exact ⟨7, by decide, rfl⟩
set_option maxHeartbeats 4000000 in
theorem l20Word (rb p : Nat) (w : World) (H : Rd w rb p) (hp : p ≤ 100000) :
    Calls Try.prog 55 #[.pointer (some ⟨rb, 0, none⟩)] w fun e w' => ∃ (s : ByteArray) (q : Nat), e = .returned (.string s) ∧ s.size ≤ 10 ∧ q ≤ p + 1 ∧ Rd w' rb q ∧ Kept [rb] w w' := by
  have hlt := H.lt
  have b0 := alloc_below' w (.cells #[.string ⟨#[97]⟩, .string ⟨#[98]⟩, .string ⟨#[102]⟩, .string ⟨#[103]⟩, .string ⟨#[65, 66]⟩, .string ⟨#[122, 122]⟩, .string ⟨#[100, 101, 102, 105, 110, 101, 100]⟩, .string ⟨#[49]⟩] 9)
  have b1 := b0.trans ((alloc_below' (w.alloc (.cells #[.string ⟨#[97]⟩, .string ⟨#[98]⟩, .string ⟨#[102]⟩, .string ⟨#[103]⟩, .string ⟨#[65, 66]⟩, .string ⟨#[122, 122]⟩, .string ⟨#[100, 101, 102, 105, 110, 101, 100]⟩, .string ⟨#[49]⟩] 9)) (.cells #[.int .i64 0, .int .i64 0, .int .i64 1, .int .i64 1, .int .i64 2, .int .i64 3, .int .i64 4, .int .i64 5, .int .i64 6, .int .i64 7] 3)).mono b0.size)
  have HX := Lib.hid (alloc2_blk w #[.string ⟨#[97]⟩, .string ⟨#[98]⟩, .string ⟨#[102]⟩, .string ⟨#[103]⟩, .string ⟨#[65, 66]⟩, .string ⟨#[122, 122]⟩, .string ⟨#[100, 101, 102, 105, 110, 101, 100]⟩, .string ⟨#[49]⟩] #[.int .i64 0, .int .i64 0, .int .i64 1, .int .i64 1, .int .i64 2, .int .i64 3, .int .i64 4, .int .i64 5, .int .i64 6, .int .i64 7] 9 3)
  have HR := Lib.hid (H.grow b1)
  have HK := Lib.hid (Kept.of_below (fp := [rb]) b1)
  clear b0 b1 H
  go_enter Try.func55, Try.ntmps55
  go_wp2_with fail
  refine (pick rb p _ _ HR.out (by omega) (by omega) (by omega)).mono ?_
  rintro e w2 ⟨r, rfl, h0, h1, hR2, hK2⟩
  obtain ⟨k, hk, hc⟩ := wd_num h0 (show r < 10 by omega)
  obtain ⟨s, hs, hc2⟩ := wd_text hk
  have g1 : w2.cell? ⟨w.heap.size + 1, r.toNat, none⟩ = some (.int .i64 (k : Int)) := (cell_of_row _ _ _ _ _ _ (blkKept HX.out.2 hK2 (by omega))).trans hc
  have g0 : w2.cell? ⟨w.heap.size, k, none⟩ = some (.string s) := (cell_of_row _ _ _ _ _ _ (blkKept HX.out.1 hK2 (by omega))).trans hc2
  have HKF := Lib.hid (HK.out.trans hK2)
  have HRF := Lib.hid hR2
  have hk1 : (0 : Int) ≤ (k : Int) := by omega
  have hk2 : (k : Int) < 8 := by omega
  clear HX HR HK hK2 hR2 hc hc2
  go_wp2
  go_ret
  exact ⟨s, p + 1, rfl, hs, by omega, HRF.out, HKF.out⟩

end Go.Proofs.Ythbojipdhgidlab
