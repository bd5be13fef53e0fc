/- Texts that the proof of P stands on, in one file. -/
import Derived.Test.YtlegeancmcmbaaaDoorZP9
import Derived.Test.YtlegeancmcmbaaaDoorZP8
import Derived.Test.YtlegeancmcmbaaaDoorZP1
import Derived.Laws.AppendOwnNone
import Derived.Test.YtlegeancmcmbaaaDoorZP5
import Derived.Test.YtlegeancmcmbaaaDoorZP4
import Derived.Test.YtlegeancmcmbaaaDoorZP6
set_option linter.unusedVariables false
set_option linter.unusedSimpArgs false
/- The program's reading of parameters. -/
namespace Go.Proofs.YtlegeancmcmbaaaDoor
open Go.RowKit

theorem cl_ways (l : List Tok) (k : Nat) : idxCl l k = -1 ∨ ∃ e : Nat, idxCl l k = (e : Int) ∧ k ≤ e ∧ e < l.length := by
 induction k using idxCl.induct (l := l) with
 | case1 k h hc => exact .inr ⟨k, cl_hit h hc, Nat.le_refl _, h⟩
 |
  case2 k h hc ih =>
  rw [cl_miss h (by simpa using hc)]
  rcases ih with h1 | ⟨e, h1, h2, h3⟩
  ·exact .inl h1
  ·exact .inr ⟨e, h1, by omega, h3⟩
 | case3 k h => exact .inl (cl_end (by omega))
def evs (ins : List Tok) : Nat → List ByteArray
 | 0 => []
 | k + 1 => if h : k < ins.length then (if k % 2 = 0 then evs ins k ++ [ins[k].text] else evs ins k) else evs ins k
def coms (ins : List Tok) : Nat → Bool
 | 0 => true
 | k + 1 => coms ins k && (if h : k < ins.length then (k % 2 == 0 || ins[k].text.toList == [44]) else true)
def insOf (l : List Tok) (e : Nat) : List Tok := (l.take e).drop 1
def rpRes (l : List Tok) : List ByteArray × Int :=
 if idxCl l 0 < 0 then ([], -1) else
  (if 0 < (insOf l (idxCl l 0).toNat).length ∧ (insOf l (idxCl l 0).toNat).length % 2 = 0 then ([], -1) else
   (if coms (insOf l (idxCl l 0).toNat) (insOf l (idxCl l 0).toNat).length = true then (evs (insOf l (idxCl l 0).toNat) (insOf l (idxCl l 0).toNat).length, idxCl l 0 + 1) else ([], -1)))
theorem evs_even {ins : List Tok} {k : Nat} (h : k < ins.length) (h2 : k % 2 = 0) : evs ins (k + 1) = evs ins k ++ [ins[k].text] := by rw [evs, dif_pos h, if_pos h2]
theorem evs_odd {ins : List Tok} {k : Nat} (h2 : ¬ k % 2 = 0) : evs ins (k + 1) = evs ins k := by rw [evs]; split <;> simp [h2]
theorem evs_len (ins : List Tok) : ∀ k, (evs ins k).length ≤ k
 | 0 => Nat.le_refl _
 |
  k + 1 => by
  have := evs_len ins k
  rw [evs]
  split
  ·split
   ·rw [List.length_append]; simp; omega
   ·omega
  ·omega
theorem coms_even {ins : List Tok} {k : Nat} (h2 : k % 2 = 0) : coms ins (k + 1) = coms ins k := by rw [coms]; split <;> simp [h2]
theorem coms_odd {ins : List Tok} {k : Nat} (h : k < ins.length) (h2 : ¬ k % 2 = 0) : coms ins (k + 1) = (coms ins k && ins[k].text.toList == [44]) := by
 rw [coms, dif_pos h]
 have : (k % 2 == 0) = false := by simp [h2]
 rw [this, Bool.false_or]
theorem coms_no {ins : List Tok} {k : Nat} (h : coms ins k = false) : ∀ j, k ≤ j → coms ins j = false := by
 intro j hj
 induction j with
 | zero =>
      have : k = 0 := by omega
      subst this; exact h
 |
  succ j ih =>
  by_cases e : k = j + 1
  ·subst e; exact h
  ·rw [coms, ih (by omega), Bool.false_and]
theorem ins_len {l : List Tok} {e : Nat} (h : e < l.length) : (insOf l e).length = e - 1 := by unfold insOf; simp; omega
theorem ins_get {l : List Tok} {e k : Nat} (h : e < l.length) (hk : k < (insOf l e).length) : (insOf l e)[k] = l[k + 1]'(by have := ins_len h; omega) := by
 unfold insOf
 simp [Nat.add_comm]

def RP (l : List Tok) (w : World) (e : Ending) (w' : World) : Prop := ∃ v' fp', e = .returned (.tuple #[v', .int .i64 (rpRes l).2]) ∧ (sSlice sStr).R w' [v'] (rpRes l).1 fp' ∧ Own w' w.heap.size fp' ∧ Below w.heap.size w w'
theorem rp_none {l : List Tok} {w w' : World} (h : rpRes l = ([], -1)) (hb : Below w.heap.size w w') : RP l w (.returned (.tuple #[.slice none 0 0, .int .i64 (-1)])) w' :=
 ⟨.slice none 0 0, [], by rw [h], by rw [h]; exact slice_empty sStr w' none 0 (by simp), Own.nil _ _, hb⟩

set_option maxHeartbeats 4000000 in
theorem impl_readParams (v : Value) (l : List Tok) (fp : List Nat) (w : World) (hl : l.length ≤ 1048576) (h0 : ∀ h : 0 < l.length, (l[0].text.toList == [41]) = false) (H : (sSlice sTok).R w [v] l fp) :
  Calls Tryd.prog 90 #[v] w (RP l w) := by
 have HC := Lib.hid (lib_IndexFunc v l fp w H)
 obtain ⟨a, cap, rfl, hc, hm, hrow⟩ := open_rows H
 unfold maxLen at hm
 clear H
 rcases cl_ways l 0 with hn | ⟨e, he, -, hel⟩
 ·have HR : Hid (rpRes l = ([], -1)) := by show _ = _; unfold rpRes; rw [hn]; rfl
  rw [hn] at HC
  clear hn h0 hrow
  go_enter Tryd.func90, Tryd.ntmps90
  go_wp2_with fail
  refine HC.out.mono ?_
  rintro e w1 ⟨rfl, hb⟩
  go_wp2
  go_ret2
  exact rp_none HR.out hb
 have he1 : 0 < e := by
  rcases Nat.eq_zero_or_pos e with h | h
  ·subst h
   exfalso
   have hz := h0 hel
   rw [cl_miss hel hz] at he
   rcases cl_ways l 1 with h1 | ⟨e', h1, h2, _⟩
   ·simp only [Nat.zero_add] at he; omega
   ·simp only [Nat.zero_add] at he; omega
  ·exact h
 have HIL := ins_len hel
 obtain ⟨ins, hins⟩ : ∃ x, x = insOf l e := ⟨_, rfl⟩
 have HG : Hid (∀ k, (hk : k < ins.length) → ∃ h : k + 1 < l.length, ins[k] = l[k + 1]) := fun k hk => by
  subst hins
  exact ⟨by omega, ins_get hel hk⟩
 have HRP : Hid (rpRes l = (if 0 < (insOf l e).length ∧ (insOf l e).length % 2 = 0 then ([], -1) else (if coms (insOf l e) (insOf l e).length = true then (evs (insOf l e) (insOf l e).length, (e : Int) + 1) else ([], -1)))) := by
  show _ = _
  unfold rpRes
  rw [he, if_neg (by omega)]
  rfl
 rw [he] at HC
 rw [← hins] at HIL HRP
 clear he h0 hins
 obtain ⟨b1, off1, fps1, rfl, hb1, -, he1'⟩ := hrow (by omega)
 have HEL := Lib.hid he1'
 clear hrow he1'
 go_enter Tryd.func90, Tryd.ntmps90
 go_wp2_with fail
 refine HC.out.mono ?_
 rintro e' w1 ⟨rfl, hb⟩
 clear HC
 by_cases hA : 0 < e - 1 ∧ (e - 1) % 2 = 0
 ·have HR : Hid (rpRes l = ([], -1)) := by show _ = _; rw [HRP.out, if_pos (by rw [HIL]; exact hA)]
  have g1 : decide ((0 : Int) < ((e - 1 : Nat) : Int)) = true := decide_eq_true (by omega)
  have g2 : (((e - 1 : Nat) : Int) % 2 == 0) = true := by simp; omega
  have g2n : ((e - 1) % 2 == 0) = true := by simp; omega
  have g2p := hA.2
  have g1p := hA.1
  have g1n : decide (0 < e - 1) = true := decide_eq_true hA.1
  clear hA
  go_wp2
  go_ret2
  exact rp_none HR.out hb
 have HNA : Hid (¬ (0 < ins.length ∧ ins.length % 2 = 0)) := by show ¬ _; rw [HIL]; exact hA
 by_cases hz : 0 < e - 1
 ·have g1 : decide ((0 : Int) < ((e - 1 : Nat) : Int)) = true := decide_eq_true (by omega)
  have g2 : (((e - 1 : Nat) : Int) % 2 == 0) = false := by simp; omega
  have g2n : ((e - 1) % 2 == 0) = false := by simp; omega
  have g2p : ¬ (e - 1) % 2 = 0 := by omega
  have g1n : decide (0 < e - 1) = true := decide_eq_true hz
  clear hA
  go_wp2
  go_loopw [6, 27] (fun o i wr => ∃ k : Nat, k ≤ e - 1 ∧ i = .int .i64 k ∧ Hid (wr.ownsRow w.heap.size 9 1 o (evs ins k).length ((evs ins k).map Value.string)) ∧ Hid (coms ins k = true) ∧ Hid (∀ t ∈ evs ins k, okStr t) ∧ Below w.heap.size w wr) (fun _ i _ => e - 1 - (intOf i).toNat)
  case atStart => exact ⟨0, by omega, rfl, World.ownsRow_nil _ _ _ _, rfl, fun t ht => by simp [evs] at ht, hb⟩
  case round =>
   clear hb
   obtain ⟨k, hk, rfl, HO, HCM, HOK, hb⟩ := hrel
   by_cases hlt : k < e - 1
   ·obtain ⟨es1, hE1, hR1⟩ := HEL.out (k + 1) (by omega)
    have hk1 : k + 1 < l.length := by omega
    have hki : k < ins.length := by omega
    have HK : Hid (ins[k] = l[k + 1]) := (HG.out k hki).2
    obtain ⟨h1', rfl, _, hk2, hK1⟩ := hR1
    obtain ⟨ah, ch, rfl, -⟩ := open_strs hK1
    clear hK1
    replace hE1 := hE1.frame (hb.block b1 hb1)
    have e1 : off1 + (k + 1) * 4 = off1 + 4 + k * 4 := by omega
    have c10 : wr.cell? ⟨b1, off1 + (k + 1) * 4, none⟩ = some _ := elem_cell0 hE1 (by decide) rfl
    have c11 : wr.cell? ⟨b1, off1 + (k + 1) * 4 + 1, none⟩ = some _ := elem_cell (j := 1) hE1 (by decide) rfl
    have c12 : wr.cell? ⟨b1, off1 + (k + 1) * 4 + 2, none⟩ = some _ := elem_cell (j := 2) hE1 (by decide) rfl
    have c13 : wr.cell? ⟨b1, off1 + (k + 1) * 4 + 3, none⟩ = some _ := elem_cell (j := 3) hE1 (by decide) rfl
    rw [e1] at c10 c11 c12 c13
    clear hE1 e1
    have hba := alloc_below' wr (.cells #[.int .i64 l[k + 1].kind, .string l[k + 1].text, .bool l[k + 1].spaced, .slice ah l[k + 1].hidden.length ch] 47)
    have hbw := hb.trans (hba.mono hb.size)
    have HWs : Hid ((wr.alloc (.cells #[.int .i64 l[k + 1].kind, .string l[k + 1].text, .bool l[k + 1].spaced, .slice ah l[k + 1].hidden.length ch] 47)).heap.size = wr.heap.size + 1) := Array.size_push _
    have HTK := Lib.hid hk2
    clear hk2 hba
    by_cases h2 : k % 2 = 0
    ·have g3 : ((k : Int) % 2 == 0) = true := by simp; omega
     have HEV := Lib.hid (evs_even hki h2)
     have HCE := Lib.hid (coms_even (ins := ins) h2)
     have hlen := evs_len ins k
     clear h2
     go_wp2_with (at_builtin; refine wp_append_one ti27 rfl _ (.string l[k + 1].text) rfl rfl (.tmp 35) (.tmp 38) rfl w.heap.size _ (evs ins k).length ((evs ins k).map Value.string) rfl (HO.out.alloc _) (by rw [HWs.out]; rfl) (by unfold maxLen; omega) (by omega) hbw.size ?_; intro v3 w3 hE3 hg3)
     have hb3 : Below w.heap.size w w3 := hbw.grown hg3 hbw.size (fun b hb => (HO.out.lt b hb).1)
     have HO3 : Hid (w3.ownsRow w.heap.size 9 1 v3 (evs ins (k + 1)).length ((evs ins (k + 1)).map Value.string)) := by
      show World.ownsRow _ _ _ _ _ _ _
      rw [HEV.out, HK.out]; simpa using hE3
     have HOK3 : Hid (∀ t ∈ evs ins (k + 1), okStr t) := fun t ht => by
      rw [HEV.out, HK.out] at ht
      exact (List.mem_append.1 ht).elim (HOK.out t) (fun h => by rw [List.mem_singleton.1 h]; exact HTK.out)
     have HC3 : Hid (coms ins (k + 1) = true) := by show _ = _; rw [HCE.out, HCM.out]
     clear hE3 hg3 c10 c11 c12 c13 hlen g3
     go_roundw
     case rel => exact ⟨k + 1, by omega, by go_num, HO3, HC3, HOK3, hb3⟩
     case measure => simp [intOf]; omega
    ·have g3 : ((k : Int) % 2 == 0) = false := by simp; omega
     have HEV := Lib.hid (evs_odd (ins := ins) h2)
     have HCE := Lib.hid (coms_odd hki h2)
     clear h2
     cases g4 : (l[k + 1].text.toList == [44])
     ·have HR : Hid (rpRes l = ([], -1)) := by
       show _ = _
       have hc : coms ins (k + 1) = false := by rw [HCE.out, HK.out, g4, Bool.and_false]
       rw [HRP.out, coms_no hc ins.length hki]
       split <;> rfl
      go_wp2
      go_ret2
      exact rp_none HR.out hbw
     ·have HC3 : Hid (coms ins (k + 1) = true) := by show _ = _; rw [HCE.out, HK.out, g4, HCM.out]; rfl
      have HO3 : Hid (∀ (W : World) (u : Value), W.ownsRow w.heap.size 9 1 u (evs ins k).length ((evs ins k).map Value.string) → W.ownsRow w.heap.size 9 1 u (evs ins (k + 1)).length ((evs ins (k + 1)).map Value.string)) := fun W u h => by rw [HEV.out]; exact h
      have HOK3 : Hid (∀ t ∈ evs ins (k + 1), okStr t) := fun t ht => by rw [HEV.out] at ht; exact HOK.out t ht
      go_wp2
      go_roundw
      case rel => exact ⟨k + 1, by omega, by go_num, HO3.out _ _ (HO.out.alloc _), HC3, HOK3, hbw⟩
      case measure => simp [intOf]; omega
   ·have hke : k = ins.length := by omega
    have hcm := HCM.out
    have hok := HOK.out
    have ho := HO.out
    rw [hke] at hcm hok ho
    obtain ⟨fpr, hr, hown, -⟩ := own_flat (ok := okStr) ho (fun i hi => hok _ (List.getElem_mem hi))
    have HR : Hid (rpRes l = (evs ins ins.length, (e : Int) + 1)) := by show _ = _; rw [HRP.out, if_neg HNA.out, if_pos hcm]
    have HRR := Lib.hid hr
    have HOW := Lib.hid hown
    clear hcm hok ho hr hown hke
    go_wp2
    go_ret2
    exact ⟨_, fpr, by rw [HR.out]; rfl, by rw [HR.out]; exact HRR.out, HOW.out, hb⟩
 ·have g1 : decide ((0 : Int) < ((e - 1 : Nat) : Int)) = false := decide_eq_false (by omega)
  have g2 : decide (0 < e - 1) = false := decide_eq_false hz
  clear hA hz
  go_wp2
  go_loopw [6, 27] (fun o i wr => ∃ k : Nat, k ≤ e - 1 ∧ i = .int .i64 k ∧ Hid (wr.ownsRow w.heap.size 9 1 o (evs ins k).length ((evs ins k).map Value.string)) ∧ Hid (coms ins k = true) ∧ Hid (∀ t ∈ evs ins k, okStr t) ∧ Below w.heap.size w wr) (fun _ i _ => e - 1 - (intOf i).toNat)
  case atStart => exact ⟨0, by omega, rfl, World.ownsRow_nil _ _ _ _, rfl, fun t ht => by simp [evs] at ht, hb⟩
  case round =>
   clear hb
   obtain ⟨k, hk, rfl, HO, HCM, HOK, hb⟩ := hrel
   by_cases hlt : k < e - 1
   ·obtain ⟨es1, hE1, hR1⟩ := HEL.out (k + 1) (by omega)
    have hk1 : k + 1 < l.length := by omega
    have hki : k < ins.length := by omega
    have HK : Hid (ins[k] = l[k + 1]) := (HG.out k hki).2
    obtain ⟨h1', rfl, _, hk2, hK1⟩ := hR1
    obtain ⟨ah, ch, rfl, -⟩ := open_strs hK1
    clear hK1
    replace hE1 := hE1.frame (hb.block b1 hb1)
    have e1 : off1 + (k + 1) * 4 = off1 + 4 + k * 4 := by omega
    have c10 : wr.cell? ⟨b1, off1 + (k + 1) * 4, none⟩ = some _ := elem_cell0 hE1 (by decide) rfl
    have c11 : wr.cell? ⟨b1, off1 + (k + 1) * 4 + 1, none⟩ = some _ := elem_cell (j := 1) hE1 (by decide) rfl
    have c12 : wr.cell? ⟨b1, off1 + (k + 1) * 4 + 2, none⟩ = some _ := elem_cell (j := 2) hE1 (by decide) rfl
    have c13 : wr.cell? ⟨b1, off1 + (k + 1) * 4 + 3, none⟩ = some _ := elem_cell (j := 3) hE1 (by decide) rfl
    rw [e1] at c10 c11 c12 c13
    clear hE1 e1
    have hba := alloc_below' wr (.cells #[.int .i64 l[k + 1].kind, .string l[k + 1].text, .bool l[k + 1].spaced, .slice ah l[k + 1].hidden.length ch] 47)
    have hbw := hb.trans (hba.mono hb.size)
    have HWs : Hid ((wr.alloc (.cells #[.int .i64 l[k + 1].kind, .string l[k + 1].text, .bool l[k + 1].spaced, .slice ah l[k + 1].hidden.length ch] 47)).heap.size = wr.heap.size + 1) := Array.size_push _
    have HTK := Lib.hid hk2
    clear hk2 hba
    by_cases h2 : k % 2 = 0
    ·have g3 : ((k : Int) % 2 == 0) = true := by simp; omega
     have HEV := Lib.hid (evs_even hki h2)
     have HCE := Lib.hid (coms_even (ins := ins) h2)
     have hlen := evs_len ins k
     clear h2
     go_wp2_with (at_builtin; refine wp_append_one ti27 rfl _ (.string l[k + 1].text) rfl rfl (.tmp 35) (.tmp 38) rfl w.heap.size _ (evs ins k).length ((evs ins k).map Value.string) rfl (HO.out.alloc _) (by rw [HWs.out]; rfl) (by unfold maxLen; omega) (by omega) hbw.size ?_; intro v3 w3 hE3 hg3)
     have hb3 : Below w.heap.size w w3 := hbw.grown hg3 hbw.size (fun b hb => (HO.out.lt b hb).1)
     have HO3 : Hid (w3.ownsRow w.heap.size 9 1 v3 (evs ins (k + 1)).length ((evs ins (k + 1)).map Value.string)) := by
      show World.ownsRow _ _ _ _ _ _ _
      rw [HEV.out, HK.out]; simpa using hE3
     have HOK3 : Hid (∀ t ∈ evs ins (k + 1), okStr t) := fun t ht => by
      rw [HEV.out, HK.out] at ht
      exact (List.mem_append.1 ht).elim (HOK.out t) (fun h => by rw [List.mem_singleton.1 h]; exact HTK.out)
     have HC3 : Hid (coms ins (k + 1) = true) := by show _ = _; rw [HCE.out, HCM.out]
     clear hE3 hg3 c10 c11 c12 c13 hlen g3
     go_roundw
     case rel => exact ⟨k + 1, by omega, by go_num, HO3, HC3, HOK3, hb3⟩
     case measure => simp [intOf]; omega
    ·have g3 : ((k : Int) % 2 == 0) = false := by simp; omega
     have HEV := Lib.hid (evs_odd (ins := ins) h2)
     have HCE := Lib.hid (coms_odd hki h2)
     clear h2
     cases g4 : (l[k + 1].text.toList == [44])
     ·have HR : Hid (rpRes l = ([], -1)) := by
       show _ = _
       have hc : coms ins (k + 1) = false := by rw [HCE.out, HK.out, g4, Bool.and_false]
       rw [HRP.out, coms_no hc ins.length hki]
       split <;> rfl
      go_wp2
      go_ret2
      exact rp_none HR.out hbw
     ·have HC3 : Hid (coms ins (k + 1) = true) := by show _ = _; rw [HCE.out, HK.out, g4, HCM.out]; rfl
      have HO3 : Hid (∀ (W : World) (u : Value), W.ownsRow w.heap.size 9 1 u (evs ins k).length ((evs ins k).map Value.string) → W.ownsRow w.heap.size 9 1 u (evs ins (k + 1)).length ((evs ins (k + 1)).map Value.string)) := fun W u h => by rw [HEV.out]; exact h
      have HOK3 : Hid (∀ t ∈ evs ins (k + 1), okStr t) := fun t ht => by rw [HEV.out] at ht; exact HOK.out t ht
      go_wp2
      go_roundw
      case rel => exact ⟨k + 1, by omega, by go_num, HO3.out _ _ (HO.out.alloc _), HC3, HOK3, hbw⟩
      case measure => simp [intOf]; omega
   ·have hke : k = ins.length := by omega
    have hcm := HCM.out
    have hok := HOK.out
    have ho := HO.out
    rw [hke] at hcm hok ho
    obtain ⟨fpr, hr, hown, -⟩ := own_flat (ok := okStr) ho (fun i hi => hok _ (List.getElem_mem hi))
    have HR : Hid (rpRes l = (evs ins ins.length, (e : Int) + 1)) := by show _ = _; rw [HRP.out, if_neg HNA.out, if_pos hcm]
    have HRR := Lib.hid hr
    have HOW := Lib.hid hown
    clear hcm hok ho hr hown hke
    go_wp2
    go_ret2
    exact ⟨_, fpr, by rw [HR.out]; rfl, by rw [HR.out]; exact HRR.out, HOW.out, hb⟩

end Go.Proofs.YtlegeancmcmbaaaDoor

/- What the program reads as parameters is what the model reads, up to macros that are not valid: no program. -/
namespace Go.Proofs.YtlegeancmcmbaaaDoor
open Go.RowKit

theorem kind_head {t : Tok} (h : tokOk t = true) {c : UInt8} {l : List UInt8} (e : t.text = ⟨(c :: l).toArray⟩) : t.kind = cutKind c := by
 obtain ⟨h0, hk⟩ := (tokOk_facts h).1
 obtain ⟨k, x, s, hd⟩ := t
 obtain rfl : x = ⟨(c :: l).toArray⟩ := e
 exact hk
theorem kind_name {t : Tok} (h : tokOk t = true) (h1 : oneTok t.text 1 = true) : t.kind = 1 := by
 obtain ⟨h0, k1⟩ := (tokOk_facts h).1
 obtain ⟨_, k2⟩ := (tokOk_facts (nameT_ok h1)).1
 exact k1.trans k2.symm
theorem close_kind {t : Tok} (h : tokOk t = true) (e : t.text = closeB) : t.kind = 4 := kind_head (c := 41) (l := []) h e
theorem name_no_close {t : Tok} (h : tokOk t = true) (hk : t.kind = 1) : t.text ≠ closeB := fun e => by
 have := close_kind h e
 omega
theorem com_no_close : commaB ≠ closeB := by decide
theorem op_no_close : openB ≠ closeB := by decide
theorem txt_eq {x : ByteArray} {l : List UInt8} (h : (x.toList == l) = true) : x = ⟨l.toArray⟩ := by rw [txt_dec] at h; exact of_decide_eq_true h

theorem pat_reads {l : List Tok} (hT : ∀ k, (hk : k < l.length) → tokOk l[k] = true) (k : Nat) : ∀ ps b, parsAt l k = some (ps, b) → k % 2 = 0 → 2 ≤ k →
  k + 2 ≤ b ∧ b ≤ l.length ∧ b % 2 = 0 ∧ (∀ j, (hj : j < l.length) → k ≤ j → j + 1 < b → l[j].text ≠ closeB) ∧ (∀ h : b - 1 < l.length, l[b - 1].text = closeB) ∧
  (∀ ins : List Tok, ins.length = b - 3 → (∀ j, (hj : j < ins.length) → ∃ h : j + 2 < l.length, ins[j] = l[j + 2]) → coms ins (k - 2) = true → coms ins (b - 3) = true ∧ evs ins (b - 3) = evs ins (k - 2) ++ ps) := by
 induction k using parsAt.induct (l := l) with
 |
  case1 k h h1 h2 =>
  intro ps b hp hk hk2
  rw [pa_close h h1 h2, Option.some.injEq, Prod.mk.injEq] at hp
  obtain ⟨rfl, rfl⟩ := hp
  refine ⟨by omega, by omega, by omega, fun j hj hkj hjb => ?_, fun _ => ?_, fun ins hl hi hc => ?_⟩
  ·obtain rfl : j = k := by omega
   exact name_no_close (hT _ _) h1
  ·exact h2
  ·have hk3 : k - 2 < ins.length := by omega
   have e1 : k + 2 - 3 = k - 2 + 1 := by omega
   obtain ⟨g, e2⟩ := hi (k - 2) hk3
   have e3 : ins[k - 2].text = l[k].text := by rw [e2]; congr 2; omega
   rw [e1, coms_even (by omega), evs_even hk3 (by omega), e3]
   exact ⟨hc, rfl⟩
 |
  case2 k h h1 h2 h3 ih =>
  intro ps b hp hk hk2
  rw [pa_comma h h1 h2 h3, Option.map_eq_some_iff] at hp
  obtain ⟨⟨q, b'⟩, hq, he⟩ := hp
  rw [Prod.mk.injEq] at he
  obtain ⟨rfl, rfl⟩ := he
  obtain ⟨g1, g2, g3, g4, g5, g6⟩ := ih q b' hq (by omega) (by omega)
  refine ⟨by omega, g2, g3, fun j hj hkj hjb => ?_, g5, fun ins hl hi hc => ?_⟩
  ·by_cases e : j = k
   ·subst e; exact name_no_close (hT _ _) h1
   ·by_cases e' : j = k + 1
    ·subst e'; exact h2
    ·exact g4 j hj (by omega) hjb
  ·have hk3 : k - 2 < ins.length := by omega
   have hk4 : k - 2 + 1 < ins.length := by omega
   have e1 : k + 2 - 2 = k - 2 + 1 + 1 := by omega
   obtain ⟨ga, e2⟩ := hi (k - 2) hk3
   have e3 : ins[k - 2].text = l[k].text := by rw [e2]; congr 2; omega
   obtain ⟨gb, e4⟩ := hi (k - 2 + 1) hk4
   have e5 : ins[k - 2 + 1].text = l[k + 1].text := by rw [e4]; congr 2; omega
   have hc2 : coms ins (k + 2 - 2) = true := by
    rw [e1, coms_odd hk4 (by omega), coms_even (by omega), hc, e5, txt_t (l := [44]) h3]; rfl
   obtain ⟨f1, f2⟩ := g6 ins hl hi hc2
   refine ⟨f1, ?_⟩
   rw [f2, e1, evs_odd (by omega), evs_even hk3 (by omega), e3, List.append_assoc]
   rfl
 | case3 k h h1 h2 h3 => intro ps b hp; rw [pa_other h h1 h2 h3] at hp; cases hp
 | case4 k h h1 => intro ps b hp; rw [pa_kind h h1] at hp; cases hp
 | case5 k h => intro ps b hp; rw [pa_end h] at hp; cases hp

theorem cl_first {L : List Tok} {e : Nat} (he : e < L.length) (h1 : ∀ j, (hj : j < L.length) → j < e → (L[j].text.toList == [41]) = false) (h2 : (L[e].text.toList == [41]) = true) : ∀ d k, k + d = e → idxCl L k = e := by
 intro d
 induction d with
 | zero =>
      intro k hk; obtain rfl : k = e := by omega
      exact cl_hit he h2
 | succ d ih => intro k hk; rw [cl_miss (by omega) (h1 k (by omega) (by omega))]; exact ih (k + 1) (by omega)
theorem cl_is {l : List Tok} (k : Nat) : ∀ e : Nat, idxCl l k = (e : Int) → ∃ h : e < l.length, k ≤ e ∧ (l[e].text.toList == [41]) = true ∧ ∀ j, (hj : j < l.length) → k ≤ j → j < e → (l[j].text.toList == [41]) = false := by
 induction k using idxCl.induct (l := l) with
 |
  case1 k h hc =>
  intro e he
  rw [cl_hit h hc] at he
  obtain rfl : k = e := by omega
  exact ⟨h, Nat.le_refl _, hc, fun j _ _ _ => by omega⟩
 |
  case2 k h hc ih =>
  intro e he
  rw [cl_miss h (by simpa using hc)] at he
  obtain ⟨g1, g2, g3, g4⟩ := ih e he
  refine ⟨g1, by omega, g3, fun j hj hkj hje => ?_⟩
  by_cases e' : j = k
  ·subst e'; simpa using hc
  ·exact g4 j hj (by omega) hje
 | case3 k h => intro e he; rw [cl_end (by omega)] at he; omega

theorem rp_some {l : List Tok} (hT : ∀ k, (hk : k < l.length) → tokOk l[k] = true) (ho : opens2 l = true) {ps : List ByteArray} {b : Nat} (h : parsOf l = some (ps, b)) : rpRes (l.drop 1) = (ps, (b : Int) - 1) ∧ 3 ≤ b ∧ b ≤ l.length := by
 have h1 : 1 < l.length := by
  by_cases h1 : 1 < l.length
  ·exact h1
  ·rw [op_short h1] at ho; simp at ho
 have hop : l[1].text = openB := by
  by_cases e : l[1].text = openB
  ·exact e
  ·rw [op_other h1 e] at ho; simp at ho
 have hg : ∀ j, (hj : j < (l.drop 1).length) → ∃ h : j + 1 < l.length, (l.drop 1)[j] = l[j + 1] := fun j hj => by
  rw [List.length_drop] at hj
  exact ⟨by omega, by simp [Nat.add_comm]⟩
 have hlen : (l.drop 1).length = l.length - 1 := List.length_drop
 unfold parsOf at h
 split at h
 ·rename_i h2
  split at h
  ·rename_i h3
   rw [Option.some.injEq, Prod.mk.injEq] at h
   obtain ⟨rfl, rfl⟩ := h
   have hc : idxCl (l.drop 1) 0 = (1 : Nat) := by
    refine cl_first (by omega) (fun j hj hje => ?_) ?_ 1 0 rfl
    ·obtain rfl : j = 0 := by omega
     obtain ⟨_, e⟩ := hg 0 hj
     rw [e]
     exact txt_f (l := [41]) (by rw [hop]; exact op_no_close)
    ·obtain ⟨_, e⟩ := hg 1 (by omega)
     rw [e]
     exact txt_t (l := [41]) h3.1
   refine ⟨?_, by omega, by omega⟩
   have hi : insOf (l.drop 1) 1 = [] := List.length_eq_zero_iff.1 (by rw [ins_len (by omega)])
   unfold rpRes
   rw [hc, if_neg (by omega)]
   simp only [Int.toNat_natCast, hi]
   rfl
  ·obtain ⟨g1, g2, g3, g4, g5, g6⟩ := pat_reads hT 2 ps b h rfl (Nat.le_refl _)
   have hc : idxCl (l.drop 1) 0 = ((b - 2 : Nat) : Int) := by
    refine cl_first (by omega) (fun j hj hje => ?_) ?_ (b - 2) 0 (by omega)
    ·obtain ⟨g, e⟩ := hg j hj
     rw [e]
     refine txt_f (l := [41]) ?_
     by_cases e0 : j = 0
     ·subst e0
      rw [hop]; exact op_no_close
     ·exact g4 (j + 1) g (by omega) (by omega)
    ·obtain ⟨g, e⟩ := hg (b - 2) (by omega)
     have e5 := g5 (by omega)
     have e6 : l[b - 2 + 1].text = l[b - 1].text := by congr 2; omega
     rw [e]
     exact txt_t (l := [41]) (e6.trans e5)
   have hil := ins_len (l := l.drop 1) (e := b - 2) (by omega)
   have hib : (insOf (l.drop 1) (b - 2)).length = b - 3 := by omega
   obtain ⟨f1, f2⟩ := g6 (insOf (l.drop 1) (b - 2)) hib (fun j hj => by
    have := ins_get (l := l.drop 1) (e := b - 2) (k := j) (by omega) hj
    obtain ⟨g, e⟩ := hg (j + 1) (by omega)
    exact ⟨by omega, this.trans e⟩) rfl
   refine ⟨?_, by omega, g2⟩
   unfold rpRes
   rw [hc, if_neg (by omega)]
   show (if 0 < (insOf (l.drop 1) (b - 2)).length ∧ (insOf (l.drop 1) (b - 2)).length % 2 = 0 then _ else if coms (insOf (l.drop 1) (b - 2)) (insOf (l.drop 1) (b - 2)).length = true then (evs (insOf (l.drop 1) (b - 2)) (insOf (l.drop 1) (b - 2)).length, ((b - 2 : Nat) : Int) + 1) else _) = _
   rw [hib, if_neg (by omega), if_pos f1, f2]
   show (([] : List ByteArray) ++ ps, _) = _
   rw [List.nil_append, Prod.mk.injEq]
   exact ⟨rfl, by omega⟩
 ·cases h

theorem evs_mem {ins : List Tok} : ∀ k j, j < k → (hj : j < ins.length) → j % 2 = 0 → ins[j].text ∈ evs ins k
 | 0, j, h, _, _ => by omega
 |
  k + 1, j, h, hj, h2 => by
  by_cases e : j = k
  ·subst e; rw [evs_even hj h2]; simp
  ·have ih := evs_mem k j (by omega) hj h2
   rw [evs]
   split
   ·split
    ·exact List.mem_append.2 (.inl ih)
    ·exact ih
   ·exact ih
theorem coms_at {ins : List Tok} : ∀ k, coms ins k = true → ∀ j, j < k → (hj : j < ins.length) → ¬ j % 2 = 0 → (ins[j].text.toList == [44]) = true
 | 0, _, j, h, _, _ => by omega
 |
  k + 1, hc, j, h, hj, h2 => by
  by_cases e : j = k
  ·subst e
   rw [coms_odd hj h2, Bool.and_eq_true] at hc
   exact hc.2
  ·refine coms_at k ?_ j (by omega) hj h2
   rw [coms, Bool.and_eq_true] at hc
   exact hc.1

theorem pat_some {l : List Tok} {c : Nat} (hc : c < l.length) (hcl : l[c].text = closeB) (hn : ∀ j, (hj : j < l.length) → 2 ≤ j → j < c → j % 2 = 0 → l[j].kind = 1) (hm : ∀ j, (hj : j < l.length) → 2 ≤ j → j < c → ¬ j % 2 = 0 → l[j].text = commaB) :
  ∀ d k, k + 2 * d + 1 = c → 2 ≤ k → k % 2 = 0 → ∃ p, parsAt l k = some p := by
 intro d
 induction d with
 |
  zero =>
  intro k hk h2 he
  have hk1 : k + 1 = c := by omega
  subst hk1
  exact ⟨_, pa_close hc (hn k (by omega) h2 (by omega) he) hcl⟩
 |
  succ d ih =>
  intro k hk h2 he
  obtain ⟨p, hp⟩ := ih (k + 2) (by omega) (by omega) (by omega)
  have e := hm (k + 1) (by omega) (by omega) (by omega) (by omega)
  rw [pa_comma (by omega) (hn k (by omega) h2 (by omega) he) (by rw [e]; exact com_no_close) e, hp]
  exact ⟨_, rfl⟩

theorem rp_none_of {l : List Tok} (hT : ∀ k, (hk : k < l.length) → tokOk l[k] = true) (ho : opens2 l = true) (h : parsOf l = none) (hb : 0 ≤ (rpRes (l.drop 1)).2) (nm : ByteArray) (bd : List Tok) : macOk ⟨nm, true, (rpRes (l.drop 1)).1, bd⟩ = false := by
 cases hv : macOk ⟨nm, true, (rpRes (l.drop 1)).1, bd⟩
 ·rfl
 exfalso
 obtain ⟨_, hpar, _⟩ := macOk_facts hv
 have h1 : 1 < l.length := by
  by_cases h1 : 1 < l.length
  ·exact h1
  ·rw [op_short h1] at ho; simp at ho
 have hop : l[1].text = openB := by
  by_cases e : l[1].text = openB
  ·exact e
  ·rw [op_other h1 e] at ho; simp at ho
 have hlen : (l.drop 1).length = l.length - 1 := List.length_drop
 have hg : ∀ j, (hj : j < (l.drop 1).length) → ∃ h : j + 1 < l.length, (l.drop 1)[j] = l[j + 1] := fun j hj => by
  rw [hlen] at hj
  exact ⟨by omega, by simp [Nat.add_comm]⟩
 rcases cl_ways (l.drop 1) 0 with hn | ⟨e, he, -, hel⟩
 ·unfold rpRes at hb; rw [hn, if_pos (by omega)] at hb; simp at hb
 obtain ⟨_, _, hc1, hc2⟩ := cl_is 0 e he
 obtain ⟨gc, ec⟩ := hg e hel
 rw [ec] at hc1
 have hclose : l[e + 1].text = closeB := txt_eq (l := [41]) hc1
 have he0 : 0 < e := by
  rcases Nat.eq_zero_or_pos e with h0 | h0
  ·subst h0
   have : l[0 + 1].text = l[1].text := rfl
   rw [this, hop] at hclose
   exact absurd hclose op_no_close
  ·exact h0
 have hil := ins_len hel
 have hrp : rpRes (l.drop 1) = (if 0 < (insOf (l.drop 1) e).length ∧ (insOf (l.drop 1) e).length % 2 = 0 then ([], -1) else (if coms (insOf (l.drop 1) e) (insOf (l.drop 1) e).length = true then (evs (insOf (l.drop 1) e) (insOf (l.drop 1) e).length, (e : Int) + 1) else ([], -1))) := by
  unfold rpRes
  rw [he, if_neg (by omega)]
  rfl
 rw [hil] at hrp
 have hodd : ¬ (0 < e - 1 ∧ (e - 1) % 2 = 0) := fun hh => by rw [if_pos hh] at hrp; rw [hrp] at hb; simp at hb
 rw [if_neg hodd] at hrp
 have hcm : coms (insOf (l.drop 1) e) (e - 1) = true := by
  cases hcm : coms (insOf (l.drop 1) e) (e - 1)
  ·rw [hcm, if_neg (by simp)] at hrp; rw [hrp] at hb; simp at hb
  ·rfl
 rw [if_pos hcm] at hrp
 rw [hrp] at hpar
 have hins : ∀ j, (hj : j < (insOf (l.drop 1) e).length) → ∃ h : j + 2 < l.length, (insOf (l.drop 1) e)[j] = l[j + 2] := fun j hj => by
  have := ins_get hel hj
  obtain ⟨g, e'⟩ := hg (j + 1) (by omega)
  exact ⟨by omega, this.trans e'⟩
 have hs : ∃ p, parsOf l = some p := by
  unfold parsOf
  rw [dif_pos (show 2 < l.length by omega)]
  by_cases h3 : l[2].text = closeB ∧ l[2].kind = 4
  ·rw [if_pos h3]; exact ⟨_, rfl⟩
  rw [if_neg h3]
  have he2 : ¬ e = 1 := fun e1 => by
   subst e1
   exact h3 ⟨hclose, close_kind (hT _ _) hclose⟩
  refine pat_some (c := e + 1) gc hclose (fun j hj hj2 hjc he => ?_) (fun j hj hj2 hjc he => ?_) ((e - 2) / 2) 2 (by omega) (by omega) rfl
  ·have hj' : j - 2 < (insOf (l.drop 1) e).length := by omega
   obtain ⟨g, e1⟩ := hins (j - 2) hj'
   have hm := evs_mem (ins := insOf (l.drop 1) e) (e - 1) (j - 2) (by omega) hj' (by omega)
   obtain ⟨i, hi, ei⟩ := List.getElem_of_mem hm
   have ho1 := hpar i hi
   rw [ei, e1] at ho1
   have e2 : l[j - 2 + 2] = l[j] := by congr 1; omega
   rw [e2] at ho1
   exact kind_name (hT j hj) ho1
  ·have hj' : j - 2 < (insOf (l.drop 1) e).length := by omega
   obtain ⟨g, e1⟩ := hins (j - 2) hj'
   have hm := coms_at (ins := insOf (l.drop 1) e) (e - 1) hcm (j - 2) (by omega) hj' (by omega)
   have e2 : l[j - 2 + 2] = l[j] := by congr 1; omega
   rw [e1, e2] at hm
   exact txt_eq (l := [44]) hm
 obtain ⟨p, hp⟩ := hs
 rw [h] at hp
 cases hp

theorem rp_le (L : List Tok) (h : 0 ≤ (rpRes L).2) : (rpRes L).2.toNat ≤ L.length ∧ (rpRes L).1.length ≤ L.length := by
 rcases cl_ways L 0 with hn | ⟨e, he, -, hel⟩
 ·unfold rpRes at h; rw [hn, if_pos (by omega)] at h; simp at h
 ·have hl := evs_len (insOf L e) (insOf L e).length
  have hi := ins_len hel
  have hrp : rpRes L = (if 0 < (insOf L e).length ∧ (insOf L e).length % 2 = 0 then ([], -1) else (if coms (insOf L e) (insOf L e).length = true then (evs (insOf L e) (insOf L e).length, (e : Int) + 1) else ([], -1))) := by
   unfold rpRes
   rw [he, if_neg (by omega)]
   rfl
  rw [hrp] at h ⊢
  split at h
  ·simp at h
  ·rename_i h1
   rw [if_neg h1]
   split at h
   ·rename_i h2
    rw [if_pos h2]
    show ((e : Int) + 1).toNat ≤ _ ∧ _
    exact ⟨by omega, by show (evs _ _).length ≤ _; omega⟩
   ·simp at h
theorem of_rpno {l : List Tok} (h : toksOk l = true) (h0 : 0 < l.length) (ho : opens2 l = true) (hn : (rpRes (l.drop 1)).2 < 0) : macOf l = (zeroMac, false) := by
 have hT := (toksOk_facts h).2
 cases hp : parsOf l with
 | none => exact of_pno h h0 ho hp
 |
  some p =>
  obtain ⟨ps, b⟩ := p
  obtain ⟨e, h3, _⟩ := rp_some hT ho hp
  rw [e] at hn
  have : (b : Int) - 1 < 0 := hn
  omega
theorem of_rp {l : List Tok} (h : toksOk l = true) (h0 : 0 < l.length) (ho : opens2 l = true) (hn : 0 ≤ (rpRes (l.drop 1)).2) : macOf l = macChk ⟨l[0].text, true, (rpRes (l.drop 1)).1, bodyFrom l (1 + (rpRes (l.drop 1)).2.toNat)⟩ := by
 have hT := (toksOk_facts h).2
 cases hp : parsOf l with
 | none => rw [of_pno h h0 ho hp, chk_no (rp_none_of hT ho hp hn _ _)]
 |
  some p =>
  obtain ⟨ps, b⟩ := p
  obtain ⟨e, h3, _⟩ := rp_some hT ho hp
  rw [of_pars h h0 ho hp, e]
  show _ = macChk ⟨l[0].text, true, ps, bodyFrom l (1 + ((b : Int) - 1).toNat)⟩
  rw [show 1 + ((b : Int) - 1).toNat = b by omega]
theorem bodyFrom_drop (l : List Tok) (j k : Nat) : bodyFrom (l.drop j) k = bodyFrom l (j + k) := by unfold bodyFrom; rw [List.drop_drop]

end Go.Proofs.YtlegeancmcmbaaaDoor

/- Parts of slices, and slices behind other ones. -/
namespace Go.Proofs.YtlegeancmcmbaaaDoor
open Go.RowKit

theorem slice_drop {α : Type} {S : Shape α} {w : World} {a : Option Addr} {len cap : Nat} {l : List α} {fp : List Nat} (i : Nat) (hi : i ≤ l.length) (H : (sSlice S).R w [.slice a len cap] l fp) :
  ∃ fp', (sSlice S).R w [.slice (if cap = i then a else a.map (·.add (i * S.m))) (len - i) (cap - i)] (l.drop i) fp' ∧ ∀ b ∈ fp', b ∈ fp := by
 obtain ⟨a', cap', hv, hc, hm, h⟩ := H
 simp only [List.cons.injEq, Value.slice.injEq, and_true] at hv
 obtain ⟨rfl, rfl, rfl⟩ := hv
 have hl : (l.drop i).length = l.length - i := by simp
 by_cases h0 : i = l.length
 ·refine ⟨[], ⟨_, _, by rw [hl], by rw [hl]; omega, by omega, .inl ⟨?_, rfl⟩⟩, by simp⟩
  subst h0; simp
 ·rcases h with ⟨rfl, _⟩ | ⟨_, b, off, fps, ha, rfl, hb, he⟩
  ·simp at hi; simp at h0; omega
  ·subst ha
   refine ⟨b :: (List.range (l.length - i)).flatMap fun j => fps (i + j), ⟨_, _, by rw [hl], by rw [hl]; omega, by omega, .inr ⟨by omega, b, off + i * S.m, fun j => fps (i + j), ?_, by rw [hl], hb, fun j hj => ?_⟩⟩, ?_⟩
   ·rw [if_neg (by omega), Option.map_some, Addr.add_lit]
   ·rw [hl] at hj
    obtain ⟨es, h1, h2⟩ := he (i + j) (by omega)
    refine ⟨es, ⟨h1.1, fun x hx => ?_⟩, by rw [List.getElem_drop]; exact h2⟩
    rw [← h1.2 x hx]
    congr 2
    rw [Nat.add_mul]; omega
   ·intro x hx
    rcases List.mem_cons.1 hx with rfl | hx
    ·simp
    ·obtain ⟨j, hj, hx⟩ := List.mem_flatMap.1 hx
     refine List.mem_cons_of_mem _ (List.mem_flatMap.2 ⟨i + j, ?_, hx⟩)
     simp only [List.mem_range] at hj ⊢
     omega

end Go.Proofs.YtlegeancmcmbaaaDoor

/- MacroOf of the program. (Made by gen_mac14.py.) -/
namespace Go.Proofs.YtlegeancmcmbaaaDoor
open Go.RowKit

set_option maxHeartbeats 32000000 in
set_option maxRecDepth 100000 in
theorem impl_MacroOf (v : Value) (l : List Tok) (fp : List Nat) (w : World) (hl : l.length ≤ 1048576) (H : (sSlice sTok).R w [v] l fp) :
  Calls Tryd.prog 69 #[v] w (MOf l w) := by
 have hz0 := alloc_below' w (.cells #[.string ⟨#[]⟩, .bool false, .slice none 0 0, .slice none 0 0] 79)
 have HZ := Lib.hid (heap_alloc_new w (.cells #[.string ⟨#[]⟩, .bool false, .slice none 0 0, .slice none 0 0] 79))
 have HL0 := (sSlice sTok).below H hz0
 have HV := Lib.hid (impl_TokensValid v l fp _ HL0)
 obtain ⟨a, cap, rfl, hc, hm, hrow⟩ := open_rows HL0
 unfold maxLen at hm
 clear H
 go_enter Tryd.func69, Tryd.ntmps69
 go_wp2_with fail
 refine HV.out.mono ?_
 rintro e w2 ⟨rfl, hb2⟩
 have hB2 := hz0.trans (hb2.mono hz0.size)
 replace HZ := Lib.hid (mbox HZ.out hb2)
 have HLL := Lib.hid ((sSlice sTok).below HL0 hb2)
 clear HL0 HV
 cases hv : toksOk l
 ·have HF := Lib.hid (of_no hv)
  clear hv
  have z0 : w2.cell? ⟨w.heap.size, 0, none⟩ = some (.string ⟨#[]⟩) := cell_of_row _ _ 0 _ _ _ HZ.out
  have zf0 : w2.frozen? ⟨w.heap.size, 0, none⟩ = false := frozen_of_row _ _ 0 _ _ HZ.out
  have z1 : w2.cell? ⟨w.heap.size, 1, none⟩ = some (.bool false) := cell_of_row _ _ 1 _ _ _ HZ.out
  have zf1 : w2.frozen? ⟨w.heap.size, 1, none⟩ = false := frozen_of_row _ _ 1 _ _ HZ.out
  have z2 : w2.cell? ⟨w.heap.size, 2, none⟩ = some (.slice none 0 0) := cell_of_row _ _ 2 _ _ _ HZ.out
  have zf2 : w2.frozen? ⟨w.heap.size, 2, none⟩ = false := frozen_of_row _ _ 2 _ _ HZ.out
  have z3 : w2.cell? ⟨w.heap.size, 3, none⟩ = some (.slice none 0 0) := cell_of_row _ _ 3 _ _ _ HZ.out
  have zf3 : w2.frozen? ⟨w.heap.size, 3, none⟩ = false := frozen_of_row _ _ 3 _ _ HZ.out
  have HS := Lib.hid (blk_set (blk_set (blk_set (blk_set HZ.out 0 (.string ⟨#[]⟩)) 1 (.bool false)) 2 (.slice none 0 0)) 3 (.slice none 0 0))
  have HBF := Lib.hid ((((hB2.setCell (p := ⟨w.heap.size, 0, none⟩) (Nat.le_refl _) (.string ⟨#[]⟩)).setCell (p := ⟨w.heap.size, 1, none⟩) (Nat.le_refl _) (.bool false)).setCell (p := ⟨w.heap.size, 2, none⟩) (Nat.le_refl _) (.slice none 0 0)).setCell (p := ⟨w.heap.size, 3, none⟩) (Nat.le_refl _) (.slice none 0 0))
  go_wp2
  refine bodyPost_ret (results_cell2 rfl _ _ w.heap.size _ _ _ _ rfl HS.out Tryd.underlying79 rfl (by kernel_rfl)) rfl ?_
  exact mof_no HF.out HBF.out
 by_cases h0 : 0 < l.length
 rotate_left
 ·have HF := Lib.hid (of_nil h0)
  have hz : l.length = 0 := by omega
  have hz1 : ((l.length : Int) == 0) = true := by simp [List.length_eq_zero_iff.1 hz]
  clear hv
  have z0 : w2.cell? ⟨w.heap.size, 0, none⟩ = some (.string ⟨#[]⟩) := cell_of_row _ _ 0 _ _ _ HZ.out
  have zf0 : w2.frozen? ⟨w.heap.size, 0, none⟩ = false := frozen_of_row _ _ 0 _ _ HZ.out
  have z1 : w2.cell? ⟨w.heap.size, 1, none⟩ = some (.bool false) := cell_of_row _ _ 1 _ _ _ HZ.out
  have zf1 : w2.frozen? ⟨w.heap.size, 1, none⟩ = false := frozen_of_row _ _ 1 _ _ HZ.out
  have z2 : w2.cell? ⟨w.heap.size, 2, none⟩ = some (.slice none 0 0) := cell_of_row _ _ 2 _ _ _ HZ.out
  have zf2 : w2.frozen? ⟨w.heap.size, 2, none⟩ = false := frozen_of_row _ _ 2 _ _ HZ.out
  have z3 : w2.cell? ⟨w.heap.size, 3, none⟩ = some (.slice none 0 0) := cell_of_row _ _ 3 _ _ _ HZ.out
  have zf3 : w2.frozen? ⟨w.heap.size, 3, none⟩ = false := frozen_of_row _ _ 3 _ _ HZ.out
  have HS := Lib.hid (blk_set (blk_set (blk_set (blk_set HZ.out 0 (.string ⟨#[]⟩)) 1 (.bool false)) 2 (.slice none 0 0)) 3 (.slice none 0 0))
  have HBF := Lib.hid ((((hB2.setCell (p := ⟨w.heap.size, 0, none⟩) (Nat.le_refl _) (.string ⟨#[]⟩)).setCell (p := ⟨w.heap.size, 1, none⟩) (Nat.le_refl _) (.bool false)).setCell (p := ⟨w.heap.size, 2, none⟩) (Nat.le_refl _) (.slice none 0 0)).setCell (p := ⟨w.heap.size, 3, none⟩) (Nat.le_refl _) (.slice none 0 0))
  go_wp2
  refine bodyPost_ret (results_cell2 rfl _ _ w.heap.size _ _ _ _ rfl HS.out Tryd.underlying79 rfl (by kernel_rfl)) rfl ?_
  exact mof_no HF.out HBF.out
 have hl60 := (toksOk_facts hv).1
 have hz1 : ((l.length : Int) == 0) = false := by simp; intro h; rw [h] at h0; exact absurd h0 (by simp)
 have hz2 : (0 : Int) < (l.length : Int) := by omega
 obtain ⟨b1, off1, fps1, rfl, hb1w, -, he1⟩ := hrow h0
 obtain ⟨nm, HNM⟩ : ∃ s : ByteArray, Hid (s = (l[0]'h0).text) := ⟨_, rfl⟩
 have HEL : Hid (∀ i, (hi : i < l.length) → ∃ hh, ElemAt w2 b1 off1 4 i [.int .i64 l[i].kind, .string l[i].text, .bool l[i].spaced, hh] ∧ okInt l[i].kind ∧ okStr l[i].text) := fun i hi => by
  obtain ⟨es, hE, hR⟩ := he1 i hi
  obtain ⟨hh, rfl, k1, k2, -⟩ := hR
  exact ⟨hh, hE.frame (hb2.block b1 hb1w), k1, k2⟩
 have hb1s : b1 < w2.heap.size := Nat.lt_of_lt_of_le hb1w hb2.size
 have okn : okStr nm := by rw [HNM.out]; obtain ⟨_, _, _, h⟩ := HEL.out 0 h0; exact h
 clear hrow he1 hb2 hb1w
 have c01 : w2.cell? ⟨b1, off1 + 1, none⟩ = some (.string nm) := by
  rw [HNM.out]
  obtain ⟨hh, hE, _, _⟩ := HEL.out 0 h0
  have := elem_cell (i := 0) (j := 1) hE (by decide) rfl
  simpa using this
 have hbx := alloc_below' w2 (.cells #[.string nm, .bool false, .slice none 0 0, .slice none 0 0] 79)
 have HMX := Lib.hid (heap_alloc_new w2 (.cells #[.string nm, .bool false, .slice none 0 0, .slice none 0 0] 79))
 have hs2 : (w2.alloc (.cells #[.string nm, .bool false, .slice none 0 0, .slice none 0 0] 79)).heap.size = w2.heap.size + 1 := Array.size_push _
 have HS2 := Lib.hid hs2
 have hBX := hB2.trans (hbx.mono hB2.size)
 have HZX := Lib.hid (mbox HZ.out hbx)
 have hg0 := mlt HZ.out
 have HVD := Lib.hid hv
 have HX1 : 1 < l.length → ((w2.alloc (.cells #[.string nm, .bool false, .slice none 0 0, .slice none 0 0] 79)).cell? ⟨b1, off1 + 4 + 1, none⟩ = some (.string (l[1]?.getD (⟨0, ⟨#[]⟩, false, []⟩ : Tok)).text) ∧ (w2.alloc (.cells #[.string nm, .bool false, .slice none 0 0, .slice none 0 0] 79)).cell? ⟨b1, off1 + 4 + 2, none⟩ = some (.bool (l[1]?.getD (⟨0, ⟨#[]⟩, false, []⟩ : Tok)).spaced)) := fun h1 => by
  obtain ⟨hh, hE, _, _⟩ := HEL.out 1 h1
  have hE' := hE.frame (hbx.block b1 hb1s)
  rw [List.getElem?_eq_getElem h1]
  exact ⟨by have := elem_cell (i := 1) (j := 1) hE' (by decide) rfl; simpa using this, by have := elem_cell (i := 1) (j := 2) hE' (by decide) rfl; simpa using this⟩
 replace HX1 := Lib.hid HX1
 obtain ⟨fpd, HD, hfpd⟩ := slice_drop 1 (by omega) ((sSlice sTok).below HLL.out hbx)
 have hfl : ∀ b ∈ fpd, b < w2.heap.size := fun b hb => (sSlice sTok).lt HLL.out b (hfpd b hb)
 have HFL := Lib.hid hfl
 obtain ⟨ad, HAD⟩ : ∃ ad : Option Addr, Hid (ad = if cap = 1 then some ⟨b1, off1, none⟩ else some ⟨b1, off1 + 4, none⟩) := ⟨_, rfl⟩
 have HLD : Hid ((sSlice sTok).R (w2.alloc (.cells #[.string nm, .bool false, .slice none 0 0, .slice none 0 0] 79)) [.slice ad (l.length - 1) (cap - 1)] (l.drop 1) fpd) := by
  show (sSlice sTok).R _ _ _ _
  rw [HAD.out]
  exact HD
 have HAY : Hid (1 < l.length → ad = some ⟨b1, off1 + 4, none⟩) := fun h => by rw [HAD.out, if_neg (by omega)]
 clear hv hs2 HD hfpd hfl
 go_upto_region 4 with fail
 go_cut [5] from 22 to 23 (fun c wx => c = .slice ad (l.length - 1) (cap - 1) ∧ wx = (w2.alloc (.cells #[.string nm, .bool false, .slice none 0 0, .slice none 0 0] 79)))
 case first =>
  by_cases hcc : cap = 1
  ·have e := HAD.out
   rw [if_pos hcc] at e
   go_wp2
   go_meet
   case rel => exact ⟨by rw [e]; simp [hcc], rfl⟩
  ·have e := HAD.out
   rw [if_neg hcc] at e
   go_wp2
   go_meet
   case rel => exact ⟨by rw [e], rfl⟩
 case rest =>
  obtain ⟨rfl, rfl⟩ := hcut
  go_upto_region 5 with fail
  go_cut [40] from 24 to 40 (fun c wx => c = .bool (opens2 l) ∧ wx = (w2.alloc (.cells #[.string nm, .bool false, .slice none 0 0, .slice none 0 0] 79)))
  case first =>
   by_cases h1 : 1 < l.length
   ·have h11 : decide ((0 : Int) < ((l.length - 1 : Nat) : Int)) = true := decide_eq_true (by omega)
    have h12 : decide (0 < l.length - 1) = true := decide_eq_true (by omega)
    have h13 : 0 < l.length - 1 := by omega
    obtain rfl := HAY.out h1
    obtain ⟨c11, c12⟩ := HX1.out h1
    rw [List.getElem?_eq_getElem h1] at c11 c12
    simp only [Option.getD_some] at c11 c12
    by_cases h2 : l[1].text = openB
    ·have e2 := txt_t (l := [40]) h2
     cases h3 : l[1].spaced
     ·rw [h3] at c12
      have HO := Lib.hid (op_yes h1 h2 h3)
      clear h2 h3
      go_wp2
      go_meet
      case rel => exact ⟨by rw [HO.out], rfl⟩
     ·rw [h3] at c12
      have HO := Lib.hid (op_spaced h1 h3)
      clear h2 h3
      go_wp2
      go_meet
      case rel => exact ⟨by rw [HO.out], rfl⟩
    ·have e2 := txt_f (l := [40]) h2
     have HO := Lib.hid (op_other h1 h2)
     clear h2
     go_wp2
     go_meet
     case rel => exact ⟨by rw [HO.out], rfl⟩
   ·have h11 : decide ((0 : Int) < ((l.length - 1 : Nat) : Int)) = false := decide_eq_false (by omega)
    have h12 : decide (0 < l.length - 1) = false := decide_eq_false (by omega)
    have HO := Lib.hid (op_short h1)
    go_wp2
    go_meet
    case rel => exact ⟨by rw [HO.out], rfl⟩
  case rest =>
   obtain ⟨rfl, rfl⟩ := hcut
   go_upto_if 40 with fail
   go_cut [5] from 6 to 54 (fun c wx => ∃ (n : Nat) (fn : Bool) (ap : Option Addr) (cp : Nat) (ps : List ByteArray) (fpp : List Nat) (ar : Option Addr) (nr cr : Nat) (fpr : List Nat), c = .slice ar nr cr ∧ Hid (macOf l = macChk ⟨nm, fn, ps, bodyFrom l n⟩) ∧ Hid ((sSlice sTok).R wx [.slice ar nr cr] (l.drop n) fpr) ∧ Hid (wx.heap[w2.heap.size]? = some (.cells #[.string nm, .bool fn, .slice ap ps.length cp, .slice none 0 0] 79 (0, 0))) ∧ Hid ((sSlice sStr).R wx [.slice ap ps.length cp] ps fpp) ∧ Hid (Own wx (w2.heap.size + 1) fpp) ∧ Hid (Kept [w2.heap.size] (w2.alloc (.cells #[.string nm, .bool false, .slice none 0 0, .slice none 0 0] 79)) wx))
   case first =>
    cases ho : opens2 l
    ·have HF := Lib.hid (of_plain HVD.out h0 ho)
     rw [← HNM.out] at HF
     clear ho
     go_wp2
     go_meet
     case rel => exact ⟨1, false, none, 0, [], [], ad, l.length - 1, cap - 1, fpd, rfl, HF, HLD, HMX.out, slice_empty sStr _ _ _ (by simp), Own.nil _ _, Kept.refl _ _⟩
    ·have HOP := Lib.hid ho
     have h1 : 1 < l.length := by
      by_cases h1 : 1 < l.length
      ·exact h1
      ·rw [op_short h1] at ho; simp at ho
     have hop : (l[1]'h1).text = openB := by
      by_cases e : (l[1]'h1).text = openB
      ·exact e
      ·rw [op_other h1 e] at ho; simp at ho
     have hdl : (l.drop 1).length = l.length - 1 := List.length_drop
     have HRP := Lib.hid (impl_readParams _ (l.drop 1) _ _ (by omega) (fun h => by
      have e : (l.drop 1)[0] = l[1] := by simp
      rw [e]
      exact txt_f (l := [41]) (by rw [hop]; exact op_no_close)) HLD.out)
     have hrl := rp_le (l.drop 1)
     have HN := Lib.hid (of_rpno HVD.out h0 ho)
     have HY := Lib.hid (of_rp HVD.out h0 ho)
     obtain ⟨rr, HRR⟩ : ∃ rr, Hid (rr = rpRes (l.drop 1)) := ⟨_, rfl⟩
     unfold RP at HRP
     rw [← HRR.out] at HRP HN HY hrl
     obtain ⟨ps, r⟩ := rr
     simp only at HRP HN HY hrl
     clear ho hop
     by_cases hneg : r < 0
     ·have HF := Lib.hid (HN.out hneg)
      clear HN HY hrl
      go_wp2_with fail
      refine HRP.out.mono ?_
      rintro e w3 ⟨pv, fpp, rfl, -, -, hb3⟩
      have hB3 := hBX.trans (hb3.mono hBX.size)
      have HZ3 := Lib.hid (mbox HZX.out hb3)
      clear hb3
      have z0 : w3.cell? ⟨w.heap.size, 0, none⟩ = some (.string ⟨#[]⟩) := cell_of_row _ _ 0 _ _ _ HZ3.out
      have zf0 : w3.frozen? ⟨w.heap.size, 0, none⟩ = false := frozen_of_row _ _ 0 _ _ HZ3.out
      have z1 : w3.cell? ⟨w.heap.size, 1, none⟩ = some (.bool false) := cell_of_row _ _ 1 _ _ _ HZ3.out
      have zf1 : w3.frozen? ⟨w.heap.size, 1, none⟩ = false := frozen_of_row _ _ 1 _ _ HZ3.out
      have z2 : w3.cell? ⟨w.heap.size, 2, none⟩ = some (.slice none 0 0) := cell_of_row _ _ 2 _ _ _ HZ3.out
      have zf2 : w3.frozen? ⟨w.heap.size, 2, none⟩ = false := frozen_of_row _ _ 2 _ _ HZ3.out
      have z3 : w3.cell? ⟨w.heap.size, 3, none⟩ = some (.slice none 0 0) := cell_of_row _ _ 3 _ _ _ HZ3.out
      have zf3 : w3.frozen? ⟨w.heap.size, 3, none⟩ = false := frozen_of_row _ _ 3 _ _ HZ3.out
      have HS := Lib.hid (blk_set (blk_set (blk_set (blk_set HZ3.out 0 (.string ⟨#[]⟩)) 1 (.bool false)) 2 (.slice none 0 0)) 3 (.slice none 0 0))
      have HBF := Lib.hid ((((hB3.setCell (p := ⟨w.heap.size, 0, none⟩) (Nat.le_refl _) (.string ⟨#[]⟩)).setCell (p := ⟨w.heap.size, 1, none⟩) (Nat.le_refl _) (.bool false)).setCell (p := ⟨w.heap.size, 2, none⟩) (Nat.le_refl _) (.slice none 0 0)).setCell (p := ⟨w.heap.size, 3, none⟩) (Nat.le_refl _) (.slice none 0 0))
      go_wp2
      refine bodyPost_ret (results_cell2 rfl _ _ w.heap.size _ _ _ _ rfl HS.out Tryd.underlying79 rfl (by kernel_rfl)) rfl ?_
      exact mof_no HF.out HBF.out
     ·obtain ⟨n, rfl⟩ : ∃ n : Nat, r = (n : Int) := ⟨r.toNat, by omega⟩
      have hrl' := hrl (by omega)
      have hnl : n ≤ l.length - 1 := by have := hrl'.1; omega
      have HF := Lib.hid (HY.out (by omega))
      rw [← HNM.out, Int.toNat_natCast] at HF
      obtain rfl := HAY.out h1
      obtain ⟨fpr, HD, hfpr⟩ := slice_drop n (by omega) HLD.out
      obtain ⟨ar, HAR⟩ : ∃ ar : Option Addr, Hid (ar = if cap - 1 = n then some ⟨b1, off1 + 4, none⟩ else some ⟨b1, off1 + 4 + n * 4, none⟩) := ⟨_, rfl⟩
      have HLR : Hid ((sSlice sTok).R (w2.alloc (.cells #[.string nm, .bool false, .slice none 0 0, .slice none 0 0] 79)) [.slice ar (l.length - 1 - n) (cap - 1 - n)] (l.drop (1 + n)) fpr) := by
       show (sSlice sTok).R _ _ _ _
       rw [HAR.out, ← List.drop_drop]
       rw [Option.map_some, Addr.add_lit] at HD
       exact HD
      have HFR : Hid (∀ b ∈ fpr, b < w2.heap.size) := fun b hb => HFL.out b (hfpr b hb)
      clear HN HY hrl hrl' HD hfpr hneg
      go_wp2_with fail
      refine HRP.out.mono ?_
      rintro e w3 ⟨pv, fpp, rfl, hPR, hPO, hb3⟩
      rw [HS2.out] at hPO
      have HM3 := mbox HMX.out hb3
      obtain ⟨ap, cp, rfl, -⟩ := open_strs hPR
      have hn1 : w2.heap.size ∉ fpp := fun hx => by have := (hPO.2 _ hx).1; omega
      have hn2 : w2.heap.size ∉ fpr := fun hx => by have := HFR.out _ hx; omega
      have HLR3 := (sSlice sTok).below HLR.out hb3
      have c31 : w3.cell? ⟨w2.heap.size, 1, none⟩ = some (.bool false) := cell_of_row _ _ 1 _ _ _ HM3
      have c32 : w3.cell? ⟨w2.heap.size, 2, none⟩ = some (.slice none 0 0) := cell_of_row _ _ 2 _ _ _ HM3
      have f31 : w3.frozen? ⟨w2.heap.size, 1, none⟩ = false := frozen_of_row _ _ 1 _ _ HM3
      have f32 : w3.frozen? ⟨w2.heap.size, 2, none⟩ = false := frozen_of_row _ _ 2 _ _ HM3
      have HMF := Lib.hid (blk_set (blk_set HM3 1 (.bool true)) 2 (.slice ap ps.length cp))
      have HPF := Lib.hid ((sSlice sStr).setB ((sSlice sStr).setB hPR hn1 1 (.bool true)) hn1 2 (.slice ap ps.length cp))
      have HRF := Lib.hid ((sSlice sTok).setB ((sSlice sTok).setB HLR3 hn2 1 (.bool true)) hn2 2 (.slice ap ps.length cp))
      have HOF := Lib.hid ((hPO.setCell ⟨w2.heap.size, 1, none⟩ (.bool true)).setCell ⟨w2.heap.size, 2, none⟩ (.slice ap ps.length cp))
      have HKF := Lib.hid (((Kept.of_below (fp := [w2.heap.size]) hb3).setCell (p := ⟨w2.heap.size, 1, none⟩) (by simp) (.bool true)).setCell (p := ⟨w2.heap.size, 2, none⟩) (by simp) (.slice ap ps.length cp))
      have hneg : ¬ (n : Int) < 0 := by omega
      have hnc : n ≤ cap - 1 := by omega
      clear hPR hPO HM3 hb3 hn1 hn2 HLR3
      by_cases hcn : cap - 1 = n
      ·have e := HAR.out
       rw [if_pos hcn] at e
       go_wp2
       go_meet
       case rel => exact ⟨1 + n, true, ap, cp, ps, fpp, ar, l.length - 1 - n, cap - 1 - n, fpr, by rw [e, show cap - 1 - n = 0 by omega], HF, HRF.out, HMF.out, HPF, HOF, HKF⟩
      ·have e := HAR.out
       rw [if_neg hcn] at e
       go_wp2
       go_meet
       case rel => exact ⟨1 + n, true, ap, cp, ps, fpp, ar, _, _, fpr, by rw [e], HF, HRF.out, HMF.out, HPF, HOF, HKF⟩
   case rest =>
    obtain ⟨n, fn, ap, cp, ps, fpp, ar, nr, cr, fpr, rfl, HF, HLR, HM, HP, HO, HK⟩ := hcut
    have hsz := HK.out.size
    rw [HS2.out] at hsz
    have HBc := Lib.hid (hBX.trans (HK.out.below (lo := w.heap.size) (by intro b hb; have e : b = w2.heap.size := (by simpa using hb); omega) (by rw [HS2.out]; omega)))
    have HZc := Lib.hid ((HK.out.block w.heap.size (by rw [HS2.out]; omega) (by simp; omega)).trans HZX.out)
    have HPlt : Hid (∀ b ∈ fpp, b < wc.heap.size) := (sSlice sStr).lt HP.out
    have HPn : Hid (w2.heap.size ∉ fpp) := fun hx => by have := (HO.out.2 _ hx).1; omega
    have HBO := Lib.hid (impl_bodyOf _ (l.drop n) _ _ (by rw [List.length_drop]; omega) HLR.out)
    rw [bodyFrom_drop, Nat.add_zero] at HBO
    clear HEL HMX HZX HX1 HLL HZ hbx hBX hB2 c01 HK HVD HLD HLR HAY HAD
    go_wp2_with fail
    refine HBO.out.mono ?_
    rintro e w4 ⟨vb, fpb, rfl, hRB, hOB, hb4⟩
    have HM4 := mbox HM.out hb4
    have hz4 := hb4.size
    obtain ⟨ab, cb, rfl, -⟩ := open_rows hRB
    have hnb : w2.heap.size ∉ fpb := fun hx => by have := (hOB.2 _ hx).1; omega
    have hP4 := (sSlice sStr).below HP.out hb4
    have hO4 := HO.out.grow hb4
    have hap : ∀ b ∈ fpp, b ∉ fpb := fun b h1 h2 => by have h3 := HPlt.out b h1; have h4 := (hOB.2 b h2).1; omega
    have q3 : w4.cell? ⟨w2.heap.size, 3, none⟩ = some (.slice none 0 0) := cell_of_row _ _ 3 _ _ _ HM4
    have f3 : w4.frozen? ⟨w2.heap.size, 3, none⟩ = false := frozen_of_row _ _ 3 _ _ HM4
    have HM5 := Lib.hid (blk_set HM4 3 (.slice ab (bodyFrom l n).length cb))
    have HR5 : Hid (sMacro.R (w4.setCell ⟨w2.heap.size, 3, none⟩ (.slice ab (bodyFrom l n).length cb)) [.string nm, .bool fn, .slice ap ps.length cp, .slice ab (bodyFrom l n).length cb] ⟨nm, fn, ps, bodyFrom l n⟩ (fpp ++ fpb)) :=
     ⟨_, _, fpp, fpb, rfl, okn, (sSlice sStr).setB hP4 HPn.out 3 _, (sSlice sTok).setB hRB hnb 3 _, rfl⟩
    have HOO := Lib.hid ((Own.app (hO4.lower (by omega : w.heap.size ≤ _)) (hOB.lower (by omega : w.heap.size ≤ _)) hap).setCell ⟨w2.heap.size, 3, none⟩ (.slice ab (bodyFrom l n).length cb))
    have hnw : w.heap.size ∉ fpp ++ fpb := fun hx => by
     rcases List.mem_append.1 hx with h | h
     ·have := (HO.out.2 _ h).1; omega
     ·have := (hOB.2 _ h).1; omega
    have HB4 := Lib.hid ((HBc.out.trans (hb4.mono HBc.out.size)).setCell (p := ⟨w2.heap.size, 3, none⟩) (by show w.heap.size ≤ w2.heap.size; omega) (.slice ab (bodyFrom l n).length cb))
    have HZ4 := Lib.hid (blk_other (mbox HZc.out hb4) (by omega : w.heap.size ≠ w2.heap.size) 3 (.slice ab (bodyFrom l n).length cb))
    clear hP4 hO4 hap hRB hOB HM4 hb4 HBO HBc HZc HP HO HPlt HPn hnb
    go_upto_region 13 with fail
    generalize w4.setCell ⟨w2.heap.size, 3, none⟩ (.slice ab (bodyFrom l n).length cb) = wr at *
    have q0 : wr.cell? ⟨w2.heap.size, 0, none⟩ = some (.string nm) := cell_of_row _ _ 0 _ _ _ HM5.out
    have q1 : wr.cell? ⟨w2.heap.size, 1, none⟩ = some (.bool fn) := cell_of_row _ _ 1 _ _ _ HM5.out
    have q2 : wr.cell? ⟨w2.heap.size, 2, none⟩ = some (.slice ap ps.length cp) := cell_of_row _ _ 2 _ _ _ HM5.out
    have q3' : wr.cell? ⟨w2.heap.size, 3, none⟩ = some (.slice ab (bodyFrom l n).length cb) := cell_of_row _ _ 3 _ _ _ HM5.out
    go_wp2_with fail
    refine (impl_MacroValid _ _ _ _ HR5.out).mono ?_
    rintro e w5 ⟨rfl, hb5⟩
    have hB5 := HB4.out.trans (hb5.mono HB4.out.size)
    have HZ5 := Lib.hid (mbox HZ4.out hb5)
    replace HM5 := Lib.hid (mbox HM5.out hb5)
    replace HR5 := Lib.hid (sMacro.below HR5.out hb5)
    have HO5 := Lib.hid (HOO.out.grow hb5)
    clear q0 q1 q2 q3' hb5 HOO HZ4 HB4
    cases hok : macOk ⟨nm, fn, ps, bodyFrom l n⟩
    ·have HFF := Lib.hid (HF.out.trans (chk_no hok))
     clear hok
     have z0 : w5.cell? ⟨w.heap.size, 0, none⟩ = some (.string ⟨#[]⟩) := cell_of_row _ _ 0 _ _ _ HZ5.out
     have zf0 : w5.frozen? ⟨w.heap.size, 0, none⟩ = false := frozen_of_row _ _ 0 _ _ HZ5.out
     have z1 : w5.cell? ⟨w.heap.size, 1, none⟩ = some (.bool false) := cell_of_row _ _ 1 _ _ _ HZ5.out
     have zf1 : w5.frozen? ⟨w.heap.size, 1, none⟩ = false := frozen_of_row _ _ 1 _ _ HZ5.out
     have z2 : w5.cell? ⟨w.heap.size, 2, none⟩ = some (.slice none 0 0) := cell_of_row _ _ 2 _ _ _ HZ5.out
     have zf2 : w5.frozen? ⟨w.heap.size, 2, none⟩ = false := frozen_of_row _ _ 2 _ _ HZ5.out
     have z3 : w5.cell? ⟨w.heap.size, 3, none⟩ = some (.slice none 0 0) := cell_of_row _ _ 3 _ _ _ HZ5.out
     have zf3 : w5.frozen? ⟨w.heap.size, 3, none⟩ = false := frozen_of_row _ _ 3 _ _ HZ5.out
     have HS := Lib.hid (blk_set (blk_set (blk_set (blk_set HZ5.out 0 (.string ⟨#[]⟩)) 1 (.bool false)) 2 (.slice none 0 0)) 3 (.slice none 0 0))
     have HBF := Lib.hid ((((hB5.setCell (p := ⟨w.heap.size, 0, none⟩) (Nat.le_refl _) (.string ⟨#[]⟩)).setCell (p := ⟨w.heap.size, 1, none⟩) (Nat.le_refl _) (.bool false)).setCell (p := ⟨w.heap.size, 2, none⟩) (Nat.le_refl _) (.slice none 0 0)).setCell (p := ⟨w.heap.size, 3, none⟩) (Nat.le_refl _) (.slice none 0 0))
     go_wp2
     refine bodyPost_ret (results_cell2 rfl _ _ w.heap.size _ _ _ _ rfl HS.out Tryd.underlying79 rfl (by kernel_rfl)) rfl ?_
     exact mof_no HFF.out HBF.out
    ·have HFF := Lib.hid (HF.out.trans (chk_yes hok))
     clear hok
     have q0 : w5.cell? ⟨w2.heap.size, 0, none⟩ = some (.string nm) := cell_of_row _ _ 0 _ _ _ HM5.out
     have q1 : w5.cell? ⟨w2.heap.size, 1, none⟩ = some (.bool fn) := cell_of_row _ _ 1 _ _ _ HM5.out
     have q2 : w5.cell? ⟨w2.heap.size, 2, none⟩ = some (.slice ap ps.length cp) := cell_of_row _ _ 2 _ _ _ HM5.out
     have q3 : w5.cell? ⟨w2.heap.size, 3, none⟩ = some (.slice ab (bodyFrom l n).length cb) := cell_of_row _ _ 3 _ _ _ HM5.out
     have z0 : w5.cell? ⟨w.heap.size, 0, none⟩ = some (.string ⟨#[]⟩) := cell_of_row _ _ 0 _ _ _ HZ5.out
     have z1 : w5.cell? ⟨w.heap.size, 1, none⟩ = some (.bool false) := cell_of_row _ _ 1 _ _ _ HZ5.out
     have z2 : w5.cell? ⟨w.heap.size, 2, none⟩ = some (.slice none 0 0) := cell_of_row _ _ 2 _ _ _ HZ5.out
     have z3 : w5.cell? ⟨w.heap.size, 3, none⟩ = some (.slice none 0 0) := cell_of_row _ _ 3 _ _ _ HZ5.out
     have zf0 : w5.frozen? ⟨w.heap.size, 0, none⟩ = false := frozen_of_row _ _ 0 _ _ HZ5.out
     have zf1 : w5.frozen? ⟨w.heap.size, 1, none⟩ = false := frozen_of_row _ _ 1 _ _ HZ5.out
     have zf2 : w5.frozen? ⟨w.heap.size, 2, none⟩ = false := frozen_of_row _ _ 2 _ _ HZ5.out
     have zf3 : w5.frozen? ⟨w.heap.size, 3, none⟩ = false := frozen_of_row _ _ 3 _ _ HZ5.out
     have HS := Lib.hid (blk_set (blk_set (blk_set (blk_set HZ5.out 0 (.string nm)) 1 (.bool fn)) 2 (.slice ap ps.length cp)) 3 (.slice ab (bodyFrom l n).length cb))
     have HBF := Lib.hid ((((hB5.setCell (p := ⟨w.heap.size, 0, none⟩) (Nat.le_refl _) (.string nm)).setCell (p := ⟨w.heap.size, 1, none⟩) (Nat.le_refl _) (.bool fn)).setCell (p := ⟨w.heap.size, 2, none⟩) (Nat.le_refl _) (.slice ap ps.length cp)).setCell (p := ⟨w.heap.size, 3, none⟩) (Nat.le_refl _) (.slice ab (bodyFrom l n).length cb))
     have HRF := Lib.hid (sMacro.setB (sMacro.setB (sMacro.setB (sMacro.setB HR5.out hnw 0 (.string nm)) hnw 1 (.bool fn)) hnw 2 (.slice ap ps.length cp)) hnw 3 (.slice ab (bodyFrom l n).length cb))
     have HOF := Lib.hid ((((HO5.out.setCell ⟨w.heap.size, 0, none⟩ (.string nm)).setCell ⟨w.heap.size, 1, none⟩ (.bool fn)).setCell ⟨w.heap.size, 2, none⟩ (.slice ap ps.length cp)).setCell ⟨w.heap.size, 3, none⟩ (.slice ab (bodyFrom l n).length cb))
     clear HR5 HO5 HM5 HZ5 hB5
     go_wp2
     refine bodyPost_ret (results_cell2 rfl _ _ w.heap.size _ _ _ _ rfl HS.out Tryd.underlying79 rfl (by kernel_rfl)) rfl ?_
     exact mof_yes (cs := [.string nm, .bool fn, .slice ap ps.length cp, .slice ab (bodyFrom l n).length cb]) HFF.out HRF.out HOF.out HBF.out

end Go.Proofs.YtlegeancmcmbaaaDoor

/- Weights and marks of tokens. No program. -/
namespace Go.Proofs.YtlegeancmcmbaaaDoor
open Go.RowKit
end Go.Proofs.YtlegeancmcmbaaaDoor

/- MacroOf of both, as the exact law calls them. -/
namespace Go.Proofs.YtlegeancmcmbaaaDoor
open Go.RowKit
end Go.Proofs.YtlegeancmcmbaaaDoor

/- Lists of lists of tokens: the laws' own helpers. -/
namespace Go.Proofs.YtlegeancmcmbaaaDoor
open Go.RowKit Go.ChangeShapes Go.WideShapes Go.Deep

abbrev sToks : Shape (List Tok) := sSlice sTok
end Go.Proofs.YtlegeancmcmbaaaDoor

/- Dividing arguments: the model, and what the program does. No program. -/
namespace Go.Proofs.YtlegeancmcmbaaaDoor
open Go.RowKit
end Go.Proofs.YtlegeancmcmbaaaDoor
