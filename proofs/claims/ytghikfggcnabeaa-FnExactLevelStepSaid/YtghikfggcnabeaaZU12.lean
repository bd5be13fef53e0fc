/- Texts that the proof of U stands on, in one file. -/
import Derived.Test.YtghikfggcnabeaaZU11
import Derived.Test.YtghikfggcnabeaaZU6
import Derived.Test.YtghikfggcnabeaaZU10
import Derived.Deep.Cut
import Derived.Test.YtghikfggcnabeaaZU9
import Derived.Deep.CutRange
import Derived.Test.YtghikfggcnabeaaZU7
import Derived.Test.YtghikfggcnabeaaZU3
import Derived.Test.YtghikfggcnabeaaZU4
import Derived.Test.YtghikfggcnabeaaZU1
set_option linter.unusedVariables false
set_option linter.unusedSimpArgs false
/- A text of tokens has nothing behind it. -/
namespace Go.Proofs.Ytghikfggcnabeaa
open Go.RowKit
end Go.Proofs.Ytghikfggcnabeaa

/- What stands for a place of a body (spec l10Part). (Made by gen_sub2.py.) -/
namespace Go.Proofs.Ytghikfggcnabeaa
open Go.RowKit
end Go.Proofs.Ytghikfggcnabeaa

/- Arguments put into a body (spec l10Body). (Made by gen_sub3.py.) -/
namespace Go.Proofs.Ytghikfggcnabeaa
open Go.RowKit
end Go.Proofs.Ytghikfggcnabeaa

/- Substitute of the program: what it asks beyond the contracts. Rows of the call's own whose elements' memory is its own, too. -/
namespace Go.Proofs.Ytghikfggcnabeaa
open Go.RowKit

/-! ### Marks and parameters in a valid body -/
/-! ### Rows that are the call's own, elements and all -/
end Go.Proofs.Ytghikfggcnabeaa

/- The two sides of a ## (pastePieces of the program). (Made by gen_sub9.py.) -/
namespace Go.Proofs.Ytghikfggcnabeaa
open Go.RowKit

theorem flat_take {α β : Type} {f : α → List β} {m : Nat} : ∀ (L : List α) (k : Nat), (∀ x ∈ L, (f x).length = m) → (L.take k).flatMap f = (L.flatMap f).take (k * m)
 | [], k, _ => by simp
 | x :: r, 0, _ => by simp
 |
  x :: r, k + 1, h => by
  have hx := h x (by simp)
  rw [List.take_succ_cons, List.flatMap_cons, List.flatMap_cons, flat_take r k (fun y hy => h y (by simp [hy])), List.take_append, hx, Nat.succ_mul, List.take_of_length_le (by omega : (f x).length ≤ k * m + m)]
  congr 2
  omega
theorem RowN.short {α : Type} {S : Shape α} {base : Nat} {e : TypeId} {L : List (Elem α)} {w : World} {g n cap : Nat} (h : RowN S base e (.slice (some ⟨g, 0, none⟩) n cap) L w) {k : Nat} (hk : k ≤ L.length) : RowN S base e (.slice (some ⟨g, 0, none⟩) k cap) (L.take k) w where
 row := by
  have hl : (L.take k).length = k := by rw [List.length_take]; omega
  have hf : ((L.take k).flatMap (·.cells)).length = k * S.m := by rw [flatMap_len (f := Elem.cells) (m := S.m) (fun y hy => h.len y (List.mem_of_mem_take hy)), hl]
  rw [hl]
  refine ⟨hf, ?_⟩
  rcases h.row.2 with ⟨h', _⟩ | ⟨g', cap', cur, h', h1, h2, h3, h4, h5, h6⟩
  ·cases h'
  ·simp only [Value.slice.injEq, Option.some.injEq, Addr.mk.injEq, and_true] at h'
   obtain ⟨rfl, rfl, rfl⟩ := h'
   refine .inr ⟨g, cap, cur, rfl, h1, h2, by omega, h4, h5, ?_⟩
   rw [flat_take (f := Elem.cells) L k h.len, ← h6, List.take_take, Nat.min_eq_left (Nat.mul_le_mul_right _ hk)]
 len := fun x hx => h.len x (List.mem_of_mem_take hx)
 el := fun x hx => h.el x (List.mem_of_mem_take hx)
 ap := fun x hx => h.ap x (List.mem_of_mem_take hx)

section
variable {base : Nat} {vd vl : Value} {D L : List (Elem Tok)} {w w' : World}
end
end Go.Proofs.Ytghikfggcnabeaa

/- LevelStep of the model. (Made by gen_lev2.py.) -/
namespace Go.Proofs.Ytghikfggcnabeaa
open Go.RowKit

def levE (x : DLevel) : Elem DLevel := ⟨[.bool x.taken, .bool x.done_, .bool x.other], x, []⟩
theorem levE_R (w : World) (x : DLevel) : sLevel.R w (levE x).cells (levE x).d (levE x).fp := ⟨rfl, rfl⟩
theorem levE_d (l : List DLevel) : (l.map levE).map (·.d) = l := by rw [List.map_map]; exact List.map_id' l
theorem levE_fp (l : List DLevel) : (l.map levE).flatMap (·.fp) = [] := by
 induction l with
 | nil => rfl
 | cons x r ih => rw [List.map_cons, List.flatMap_cons, ih]; rfl
theorem lev_canon {X : List (Elem DLevel)} {w : World} (h : ∀ x ∈ X, sLevel.R w x.cells x.d x.fp) : X = (X.map (·.d)).map levE := by
 induction X with
 | nil => rfl
 |
  cons x r ih =>
  obtain ⟨cs, d, fp⟩ := x
  have hx : sLevel.R w cs d fp := h _ (List.mem_cons_self ..)
  obtain ⟨rfl, rfl⟩ := hx
  rw [List.map_cons, List.map_cons, ← ih fun y hy => h y (List.mem_cons_of_mem _ hy)]; rfl
def MineLev (r : List DLevel × Bool) (w : World) (e : Ending) (w' : World) : Prop :=
 ∃ (v : Value) (fp : List Nat), e = .returned (.tuple #[v, .bool r.2]) ∧ (sSlice sLevel).R w' [v] r.1 fp ∧ Own w' w.heap.size fp ∧ Below w.heap.size w w'
def RetLev (r : List DLevel × Bool) (w : World) (e : Ending) (w' : World) : Prop :=
 ∃ (v : Value) (fp : List Nat), e = .returned (.tuple #[v, .bool r.2]) ∧ (sSlice sLevel).R w' [v] r.1 fp ∧ (∀ b ∈ fp, w.heap.size ≤ b) ∧ Below w.heap.size w w'
theorem levRet {r : List DLevel × Bool} {w W : World} {base : Nat} {v : Value} {l : List DLevel} {c : Bool} (h : r = (l, c)) (hG : RowN sLevel base 27 v (l.map levE) W) (hbase : w.heap.size ≤ base) (hb : Below w.heap.size w W) : MineLev r w (.returned (.tuple #[v, .bool c])) W := by
 obtain ⟨fp, h1, -, h3⟩ := hG.read
 rw [levE_d] at h1
 rw [levE_fp] at h3
 exact ⟨v, fp, by rw [h], by rw [h]; exact h1, (h3 (Own.nil _ _)).lower hbase, hb⟩
theorem levRet_no {r : List DLevel × Bool} {w W : World} (h : r = ([], false)) (hb : Below w.heap.size w W) : MineLev r w (.returned (.tuple #[.slice (some ⟨W.heap.size, 0, none⟩) 0 0, .bool false])) (W.alloc (.cells #[] 27)) :=
 levRet (base := W.heap.size) h (RowN.lit0 sLevel 27 W (Nat.le_refl _)) hb.size (hb.alloc hb.size _)
section
variable {base g n cap k : Nat} {l : List DLevel} {w : World}
theorem levSet0 (h : RowN sLevel base 27 (.slice (some ⟨g, 0, none⟩) n cap) (l.map levE) w) (hk : k < l.length) (b : Bool) : RowN sLevel base 27 (.slice (some ⟨g, 0, none⟩) n cap) ((l.set k ⟨b, l[k].done_, l[k].other⟩).map levE) (w.setCell ⟨g, k * 3, none⟩ (.bool b)) := by
 have := h.set (k := k) (by simpa using hk) (j := 0) (by decide) (.bool b) (levE ⟨b, l[k].done_, l[k].other⟩) (by simp [levE]) (levE_R _ _) (by simp [levE])
 rw [List.map_set]; exact this
theorem levSet1 (h : RowN sLevel base 27 (.slice (some ⟨g, 0, none⟩) n cap) (l.map levE) w) (hk : k < l.length) (b : Bool) : RowN sLevel base 27 (.slice (some ⟨g, 0, none⟩) n cap) ((l.set k ⟨l[k].taken, b, l[k].other⟩).map levE) (w.setCell ⟨g, k * 3 + 1, none⟩ (.bool b)) := by
 have := h.set (k := k) (by simpa using hk) (j := 1) (by decide) (.bool b) (levE ⟨l[k].taken, b, l[k].other⟩) (by simp [levE]) (levE_R _ _) (by simp [levE])
 rw [List.map_set]; exact this
theorem levSet2 (h : RowN sLevel base 27 (.slice (some ⟨g, 0, none⟩) n cap) (l.map levE) w) (hk : k < l.length) (b : Bool) : RowN sLevel base 27 (.slice (some ⟨g, 0, none⟩) n cap) ((l.set k ⟨l[k].taken, l[k].done_, b⟩).map levE) (w.setCell ⟨g, k * 3 + 2, none⟩ (.bool b)) := by
 have := h.set (k := k) (by simpa using hk) (j := 2) (by decide) (.bool b) (levE ⟨l[k].taken, l[k].done_, b⟩) (by simp [levE]) (levE_R _ _) (by simp [levE])
 rw [List.map_set]; exact this
theorem levCell (h : RowN sLevel base 27 (.slice (some ⟨g, 0, none⟩) n cap) (l.map levE) w) (hk : k < l.length) : w.cell? ⟨g, k * 3, none⟩ = some (.bool l[k].taken) ∧ w.cell? ⟨g, k * 3 + 1, none⟩ = some (.bool l[k].done_) ∧ w.cell? ⟨g, k * 3 + 2, none⟩ = some (.bool l[k].other) :=
 ⟨h.cellAt (k := k) (by simpa using hk) (j := 0) (by decide) (by simp [levE]), h.cellAt (k := k) (by simpa using hk) (j := 1) (by decide) (by simp [levE]), h.cellAt (k := k) (by simpa using hk) (j := 2) (by decide) (by simp [levE])⟩
theorem levLast {x : DLevel} (hk : k + 1 = l.length) : l.set k x = l.take k ++ [x] := by
 rw [List.set_eq_take_append_cons_drop, if_pos (by omega), List.drop_of_length_le (by omega)]
end

set_option maxHeartbeats 16000000 in
set_option maxRecDepth 100000 in
theorem spec_LevelStep (v : Value) (l : List DLevel) (fp : List Nat) (k : Int) (h : Bool) (w : World) (hl : l.length ≤ 1048576) (H : (sSlice sLevel).R w [v] l fp) :
  Calls Try.prog 13 #[v, .int .i64 k, .bool h] w (MineLev (stepL l k h) w) := by
 have H0 := Lib.hid H
 have HLT := Lib.hid ((sSlice sLevel).lt H)
 obtain ⟨a, cap, rfl, hc, hm, hrow⟩ := open_rows H
 unfold maxLen at hm
 have HROW : Hid (0 < l.length → ∃ bb ob, a = some ⟨bb, ob, none⟩) := fun h => by obtain ⟨b, o, -, e, -⟩ := hrow h; exact ⟨b, o, e⟩
 have ba := alloc_below' w (.cells #[] 27)
 have hlit := Lib.hid (RowN.lit0 sLevel 27 w (Nat.le_refl w.heap.size))
 have HL1 := Lib.hid ((sSlice sLevel).below H ba)
 obtain ⟨la, HLA⟩ : ∃ la : Int, Hid (la = (l.length : Int) - 1) := ⟨_, Lib.hid rfl⟩
 have hw1 : IntKind.i64.wrap ((l.length : Int) - 1) = la := by rw [HLA.out]; exact IntWalk.i64_in _ (by omega)
 clear H hrow
 go_enter Try.func13, Try.ntmps13
 go_upto_region 2 with (at_builtin; refine wp_append_anyN ti_Level rfl (by decide) lev_one _ rfl (.tmp 12) (.tmp 13) rfl w.heap.size (.slice (some ⟨w.heap.size, 0, none⟩) 0 0) _ l fp rfl hlit.out rfl HL1.out (fun b hb e => by simp only [Value.ownBlock, Option.some.injEq] at e; have := HLT.out b hb; omega) (by unfold maxLen; simp; omega) (by simp; omega) ba.size ?_; intro v2 X w2 hX hXf hG2 hg2 hp2)
 have hb2 : Below w.heap.size w w2 := ba.grown hg2 ba.size (fun b hb => by simp only [Value.ownBlock, Option.some.injEq] at hb; omega)
 rw [List.nil_append] at hG2
 have hXc : X = l.map levE := by rw [lev_canon hG2.el, hX]
 subst hXc
 have HG2 := Lib.hid hG2
 obtain ⟨ao, co, hvo, hco, hmo, hao⟩ := hG2.val
 rw [List.length_map] at hvo hco hao
 subst hvo
 unfold maxLen at hmo
 have HAO := Lib.hid hao
 have HL2 := Lib.hid ((sSlice sLevel).below H0.out hb2)
 clear hG2 hg2 hp2 hX hXf hao HL1 hlit ba
 go_upto_region 3 with fail
 by_cases h8 : 8 < l.length
 ·have HF := Lib.hid (step_bad (k := k) (h := h) (.inl h8))
  have i8 : (8 : Int) < (l.length : Int) := by omega
  clear h8
  go_wp2
  go_ret2
  exact levRet_no HF.out hb2
 have i8 : ¬ (8 : Int) < (l.length : Int) := by omega
 have HIN := Lib.hid (spec_l1In k 1 10 w2)
 by_cases hk : 1 ≤ k ∧ k ≤ 10
 rotate_left
 ·have HF := Lib.hid (step_bad (l := l) (h := h) (.inr hk))
  rw [show (decide (1 ≤ k) && decide (k ≤ 10)) = false by rw [Bool.and_eq_false_iff, decide_eq_false_iff_not, decide_eq_false_iff_not]; omega] at HIN
  clear hk
  go_wp2_with fail
  refine HIN.out.mono ?_
  rintro e w3 ⟨rfl, hb3⟩
  go_wp2
  go_ret2
  exact levRet_no HF.out (hb2.trans (hb3.mono hb2.size))
 rw [show (decide (1 ≤ k) && decide (k ≤ 10)) = true by rw [decide_eq_true hk.1, decide_eq_true hk.2]; rfl] at HIN
 go_wp2_with fail
 refine HIN.out.mono ?_
 rintro e w3 ⟨rfl, hb3⟩
 have hb13 := hb2.trans (hb3.mono hb2.size)
 have HG3 := Lib.hid (HG2.out.below hb3)
 have HL3 := Lib.hid ((sSlice sLevel).below HL2.out hb3)
 have h23 := hb3.size
 clear HIN HG2 HL2 hb3
 by_cases h35 : 3 ≤ k ∧ k ≤ 5
 ·have HA := Lib.hid (spec_LevelsActive _ l fp w3 HL3.out)
  have HFU : Hid (l.length = 8 → stepL l k h = ([], false)) := fun h8 => step_full h35 h8
  have HFB : Hid (l.length < 8 → stepL l k h = (l ++ [⟨actL l && h, actL l && h, false⟩], true)) := fun h8 => step_begin h35 h8
  have hk3 : k = 3 ∨ k = 4 ∨ k = 5 := by omega
  generalize actL l = ac at *
  clear hk h35
  by_cases h8e : l.length = 8
  ·have i9 : ((l.length : Int) == 8) = true := by simp; omega
   have HF := Lib.hid (HFU.out h8e)
   clear h8e HFU HFB
   rcases hk3 with rfl | rfl | rfl
   all_goals (
    go_wp2_with fail
    refine HA.out.mono ?_
    rintro e w4 ⟨rfl, rfl⟩
    cases ac
    all_goals (
     go_wp2
     go_ret2
     exact levRet_no HF.out hb13))
  ·have i9 : ((l.length : Int) == 8) = false := by simp; omega
   have HF := Lib.hid (HFB.out (by omega))
   have HLE : Hid (l.length < 8) := by show _ < _; omega
   clear h8e HFU HFB
   rcases hk3 with rfl | rfl | rfl
   all_goals (
    go_wp2_with fail
    refine HA.out.mono ?_
    rintro e w4 ⟨rfl, rfl⟩
    obtain ⟨t, HT⟩ : ∃ t : Bool, Hid (t = (ac && h)) := ⟨_, Lib.hid rfl⟩
    rw [show (ac && h) = t from HT.out.symm] at HF
    have bl := alloc_below' w4 (.cells #[.bool t, .bool t, .bool false] 27)
    have HN4 := Lib.hid (heap_alloc_new w4 (.cells #[.bool t, .bool t, .bool false] 27))
    have HG4 := Lib.hid (HG3.out.below bl)
    have hb4 := hb13.trans (bl.mono hb13.size)
    cases ac
    all_goals (
     first | rw [Bool.false_and] at HT | rw [Bool.true_and] at HT
     have HT2 := HT.out
     subst HT2
     go_wp2_with (at_builtin; refine wp_append_rowN (X := [levE ⟨_, _, false⟩]) ti_Level rfl (by decide) _ rfl (.tmp 46) (.tmp 50) rfl w.heap.size (.slice ao l.length co) rfl HG4.out ⟨w4.heap.size, 0, none⟩ 1 1 rfl rfl (fun x hx => by obtain rfl := List.mem_singleton.1 hx; exact ⟨rfl, levE_R _ _, by simp [levE]⟩) (fun x hx => by obtain rfl := List.mem_singleton.1 hx; exact lev_one _ _ _ _ (levE_R w4 _)) (fun j u hj => by rw [addr_add, Nat.zero_add, cell_of_row _ _ _ _ _ _ HN4.out]; simpa [levE] using hj) (by have := HLE.out; unfold maxLen; simp; omega) (by have := HLE.out; simp; omega) hb4.size ?_; intro v5 w5 hR5 hg5 hp5)
     have hb5 : Below w.heap.size w w5 := hb4.grown hg5 hb4.size (fun b hb => (HG4.out.mine b hb).1)
     go_wp2
     go_ret2
     exact levRet HF.out (by rw [List.map_append]; exact hR5) (Nat.le_refl _) hb5))
 have e3 : (k == 3) = false := by simp; omega
 have e4 : (k == 4) = false := by simp; omega
 have e5 : (k == 5) = false := by simp; omega
 have HIN := Lib.hid (spec_l1In k 6 8 w3)
 by_cases h68 : 6 ≤ k ∧ k ≤ 8
 rotate_left
 ·have HF := Lib.hid (step_plain (h := h) (by omega : l.length ≤ 8) hk (by omega))
  rw [show (decide (6 ≤ k) && decide (k ≤ 8)) = false by rw [Bool.and_eq_false_iff, decide_eq_false_iff_not, decide_eq_false_iff_not]; omega] at HIN
  clear hk h35 h68
  go_wp2_with fail
  refine HIN.out.mono ?_
  rintro e w4 ⟨rfl, hb4⟩
  have HG4 := Lib.hid (HG3.out.below hb4)
  go_wp2
  go_ret2
  exact levRet HF.out HG4.out (Nat.le_refl _) (hb13.trans (hb4.mono hb13.size))
 rw [show (decide (6 ≤ k) && decide (k ≤ 8)) = true by rw [decide_eq_true h68.1, decide_eq_true h68.2]; rfl] at HIN
 have HK68 := Lib.hid h68
 have hk6 : k = 6 ∨ k = 7 ∨ k = 8 := by omega
 clear hk h35 h68
 go_wp2_with fail
 refine HIN.out.mono ?_
 rintro e w4 ⟨rfl, hb4⟩
 have hb14 := hb13.trans (hb4.mono hb13.size)
 have HG4 := Lib.hid (HG3.out.below hb4)
 have HL4 := Lib.hid ((sSlice sLevel).below HL3.out hb4)
 have h24 := Nat.le_trans h23 hb4.size
 clear HIN HG3 HL3 hb4 h23 hb13
 by_cases hz : l.length = 0
 ·have HF := Lib.hid (step_none (h := h) HK68.out hz)
  have i0 : la < 0 := by have := HLA.out; omega
  clear hz HK68 hk6
  go_wp2
  go_ret2
  exact levRet_no HF.out hb14
 obtain ⟨n, rfl⟩ : ∃ n : Nat, la = (n : Int) := ⟨la.toNat, by have := HLA.out; omega⟩
 have HN1 : Hid (n + 1 = l.length) := by show _ = _; have := HLA.out; omega
 have hn : n < l.length := by have := HN1.out; omega
 have hll : l.length - 1 = n := by have := HN1.out; omega
 have i0 : ¬ (n : Int) < 0 := by omega
 have i1 : (0 : Int) ≤ (n : Int) := by omega
 have i2 : (n : Int) < (l.length : Int) := by omega
 have i3 : (n : Int) ≤ (cap : Int) := by omega
 have i4 : (n : Int) ≤ (co : Int) := by omega
 obtain ⟨bb, ob, rfl⟩ := HROW.out (by omega)
 obtain ⟨g, rfl, hg1, hg2⟩ := HAO.out (by omega)
 obtain ⟨c0, c1, c2, hbb⟩ := lev_at HL4.out hn
 obtain ⟨ft, RT, -⟩ := slice_take n (by omega) HL4.out
 have HA := Lib.hid (spec_LevelsActive _ (l.take n) ft w4 RT)
 have HGN : Hid (g ∉ fp) := fun hx => by have := HLT.out g hx; omega
 have H8 : Hid (l.length ≤ 8) := by show _ ≤ _; omega
 have H00 : Hid (0 < l.length) := by show _ < _; omega
 obtain ⟨x, HX⟩ : ∃ x : DLevel, Hid (x = l[n]) := ⟨_, Lib.hid rfl⟩
 have HXL : Hid (l[l.length - 1]'(by have := H00.out; omega) = x) := by show _ = _; rw [HX.out]; simp only [hll]
 rw [show l[n] = x from HX.out.symm] at c0 c1 c2
 clear RT hz HK68 HROW HAO
 rcases hk6 with rfl | rfl | rfl
 ·cases ho : x.other
  rotate_left
  ·have HF := Lib.hid (step_other (k := 6) (h := h) ⟨by omega, by omega⟩ H8.out H00.out (by rw [HXL.out]; exact ho))
   rw [ho] at c2
   clear ho
   go_wp2
   go_ret2
   exact levRet_no HF.out hb14
  have HF := Lib.hid (step_elif (h := h) H8.out H00.out (by rw [HXL.out]; exact ho))
  rw [HXL.out] at HF
  simp only [show l.length - 1 = n by have := HN1.out; omega] at HF
  rw [ho] at c2
  generalize actL (l.take n) = ar at *
  obtain ⟨p0, p1, p2⟩ := levCell HG4.out hn
  have zf0 := HG4.out.frozen (n * 3)
  go_wp2_with fail
  refine HA.out.mono ?_
  rintro e w5 ⟨rfl, rfl⟩
  cases hd : x.done_ <;> cases ar <;> rw [hd] at c1
  ·have HS1 := Lib.hid (levSet0 HG4.out hn false)
   have HB1 := Lib.hid (hb14.setCell (p := ⟨g, n * 3, none⟩) hg1 (.bool false))
   have HL5 := Lib.hid ((sSlice sLevel).setB HL4.out HGN.out (n * 3) (.bool false))
   go_upto_region 19 with fail
   generalize hW : w5.setCell ⟨g, n * 3, none⟩ (.bool false) = W at *
   clear hW c0 c1 c2 p0 p1 p2 zf0
   obtain ⟨-, d1, -, -⟩ := lev_at HL5.out hn
   rw [show l[n] = x from HX.out.symm, hd] at d1
   have hns : n < (l.set n ⟨false, l[n].done_, l[n].other⟩).length := by rw [List.length_set]; exact hn
   obtain ⟨s0, s1, s2⟩ := levCell HS1.out hns
   simp only [List.getElem_set_self] at s0 s1 s2
   have zf1 := HS1.out.frozen (n * 3 + 1)
   have HS2 := Lib.hid (levSet1 HS1.out hns false)
   have HB2 := Lib.hid (HB1.out.setCell (p := ⟨g, n * 3 + 1, none⟩) hg1 (.bool false))
   simp only [List.getElem_set_self, List.set_set] at HS2
   rw [levLast HN1.out, show l[n] = x from HX.out.symm] at HS2
   rw [hd] at HF
   go_wp2
   go_ret2
   exact levRet (by rw [HF.out]; rfl) HS2.out (Nat.le_refl _) HB2.out
  ·have HS1 := Lib.hid (levSet0 HG4.out hn h)
   have HB1 := Lib.hid (hb14.setCell (p := ⟨g, n * 3, none⟩) hg1 (.bool h))
   have HL5 := Lib.hid ((sSlice sLevel).setB HL4.out HGN.out (n * 3) (.bool h))
   go_upto_region 19 with fail
   generalize hW : w5.setCell ⟨g, n * 3, none⟩ (.bool h) = W at *
   clear hW c0 c1 c2 p0 p1 p2 zf0
   obtain ⟨-, d1, -, -⟩ := lev_at HL5.out hn
   rw [show l[n] = x from HX.out.symm, hd] at d1
   have hns : n < (l.set n ⟨h, l[n].done_, l[n].other⟩).length := by rw [List.length_set]; exact hn
   obtain ⟨s0, s1, s2⟩ := levCell HS1.out hns
   simp only [List.getElem_set_self] at s0 s1 s2
   have zf1 := HS1.out.frozen (n * 3 + 1)
   have HS2 := Lib.hid (levSet1 HS1.out hns h)
   have HB2 := Lib.hid (HB1.out.setCell (p := ⟨g, n * 3 + 1, none⟩) hg1 (.bool h))
   simp only [List.getElem_set_self, List.set_set] at HS2
   rw [levLast HN1.out, show l[n] = x from HX.out.symm] at HS2
   rw [hd] at HF
   go_wp2
   go_ret2
   exact levRet (by rw [HF.out]; cases h <;> rfl) HS2.out (Nat.le_refl _) HB2.out
  ·have HS1 := Lib.hid (levSet0 HG4.out hn false)
   have HB1 := Lib.hid (hb14.setCell (p := ⟨g, n * 3, none⟩) hg1 (.bool false))
   have HL5 := Lib.hid ((sSlice sLevel).setB HL4.out HGN.out (n * 3) (.bool false))
   go_upto_region 19 with fail
   generalize hW : w5.setCell ⟨g, n * 3, none⟩ (.bool false) = W at *
   clear hW c0 c1 c2 p0 p1 p2 zf0
   obtain ⟨-, d1, -, -⟩ := lev_at HL5.out hn
   rw [show l[n] = x from HX.out.symm, hd] at d1
   have hns : n < (l.set n ⟨false, l[n].done_, l[n].other⟩).length := by rw [List.length_set]; exact hn
   obtain ⟨s0, s1, s2⟩ := levCell HS1.out hns
   simp only [List.getElem_set_self] at s0 s1 s2
   have zf1 := HS1.out.frozen (n * 3 + 1)
   have HS2 := Lib.hid (levSet1 HS1.out hns true)
   have HB2 := Lib.hid (HB1.out.setCell (p := ⟨g, n * 3 + 1, none⟩) hg1 (.bool true))
   simp only [List.getElem_set_self, List.set_set] at HS2
   rw [levLast HN1.out, show l[n] = x from HX.out.symm] at HS2
   rw [hd] at HF
   go_wp2
   go_ret2
   exact levRet (by rw [HF.out]; rfl) HS2.out (Nat.le_refl _) HB2.out
  ·have HS1 := Lib.hid (levSet0 HG4.out hn false)
   have HB1 := Lib.hid (hb14.setCell (p := ⟨g, n * 3, none⟩) hg1 (.bool false))
   have HL5 := Lib.hid ((sSlice sLevel).setB HL4.out HGN.out (n * 3) (.bool false))
   go_upto_region 19 with fail
   generalize hW : w5.setCell ⟨g, n * 3, none⟩ (.bool false) = W at *
   clear hW c0 c1 c2 p0 p1 p2 zf0
   obtain ⟨-, d1, -, -⟩ := lev_at HL5.out hn
   rw [show l[n] = x from HX.out.symm, hd] at d1
   have hns : n < (l.set n ⟨false, l[n].done_, l[n].other⟩).length := by rw [List.length_set]; exact hn
   obtain ⟨s0, s1, s2⟩ := levCell HS1.out hns
   simp only [List.getElem_set_self] at s0 s1 s2
   have zf1 := HS1.out.frozen (n * 3 + 1)
   have HS2 := Lib.hid (levSet1 HS1.out hns true)
   have HB2 := Lib.hid (HB1.out.setCell (p := ⟨g, n * 3 + 1, none⟩) hg1 (.bool true))
   simp only [List.getElem_set_self, List.set_set] at HS2
   rw [levLast HN1.out, show l[n] = x from HX.out.symm] at HS2
   rw [hd] at HF
   go_wp2
   go_ret2
   exact levRet (by rw [HF.out]; rfl) HS2.out (Nat.le_refl _) HB2.out
 ·cases ho : x.other
  rotate_left
  ·have HF := Lib.hid (step_other (k := 7) (h := h) ⟨by omega, by omega⟩ H8.out H00.out (by rw [HXL.out]; exact ho))
   rw [ho] at c2
   clear ho
   go_wp2
   go_ret2
   exact levRet_no HF.out hb14
  have HF := Lib.hid (step_else (h := h) H8.out H00.out (by rw [HXL.out]; exact ho))
  rw [HXL.out] at HF
  simp only [show l.length - 1 = n by have := HN1.out; omega] at HF
  rw [ho] at c2
  generalize actL (l.take n) = ar at *
  obtain ⟨p0, p1, p2⟩ := levCell HG4.out hn
  have zf0 := HG4.out.frozen (n * 3)
  go_wp2_with fail
  refine HA.out.mono ?_
  rintro e w5 ⟨rfl, rfl⟩
  cases hd : x.done_ <;> cases ar <;> rw [hd] at c1
  ·have HS1 := Lib.hid (levSet0 HG4.out hn false)
   have HB1 := Lib.hid (hb14.setCell (p := ⟨g, n * 3, none⟩) hg1 (.bool false))
   go_upto_region 22 with fail
   generalize hW : w5.setCell ⟨g, n * 3, none⟩ (.bool false) = W at *
   clear hW c0 c1 c2 p0 p1 p2 zf0
   have hns : n < (l.set n ⟨false, l[n].done_, l[n].other⟩).length := by rw [List.length_set]; exact hn
   obtain ⟨s0, s1, s2⟩ := levCell HS1.out hns
   simp only [List.getElem_set_self] at s0 s1 s2
   have zf1 := HS1.out.frozen (n * 3 + 1)
   have HS2 := Lib.hid (levSet1 HS1.out hns true)
   have HB2 := Lib.hid (HB1.out.setCell (p := ⟨g, n * 3 + 1, none⟩) hg1 (.bool true))
   simp only [List.getElem_set_self, List.set_set] at HS2
   go_upto_region 23 with fail
   generalize hW : W.setCell ⟨g, n * 3 + 1, none⟩ (.bool true) = W2 at *
   clear hW s0 s1 s2 zf1
   have hns : n < (l.set n ⟨false, true, l[n].other⟩).length := by rw [List.length_set]; exact hn
   obtain ⟨s0, s1, s2⟩ := levCell HS2.out hns
   simp only [List.getElem_set_self] at s0 s1 s2
   have zf1 := HS2.out.frozen (n * 3 + 2)
   have HS3 := Lib.hid (levSet2 HS2.out hns true)
   have HB3 := Lib.hid (HB2.out.setCell (p := ⟨g, n * 3 + 2, none⟩) hg1 (.bool true))
   simp only [List.getElem_set_self, List.set_set] at HS3
   rw [levLast HN1.out] at HS3
   rw [hd] at HF
   go_wp2
   go_ret2
   exact levRet HF.out HS3.out (Nat.le_refl _) HB3.out
  ·have HS1 := Lib.hid (levSet0 HG4.out hn true)
   have HB1 := Lib.hid (hb14.setCell (p := ⟨g, n * 3, none⟩) hg1 (.bool true))
   go_upto_region 22 with fail
   generalize hW : w5.setCell ⟨g, n * 3, none⟩ (.bool true) = W at *
   clear hW c0 c1 c2 p0 p1 p2 zf0
   have hns : n < (l.set n ⟨true, l[n].done_, l[n].other⟩).length := by rw [List.length_set]; exact hn
   obtain ⟨s0, s1, s2⟩ := levCell HS1.out hns
   simp only [List.getElem_set_self] at s0 s1 s2
   have zf1 := HS1.out.frozen (n * 3 + 1)
   have HS2 := Lib.hid (levSet1 HS1.out hns true)
   have HB2 := Lib.hid (HB1.out.setCell (p := ⟨g, n * 3 + 1, none⟩) hg1 (.bool true))
   simp only [List.getElem_set_self, List.set_set] at HS2
   go_upto_region 23 with fail
   generalize hW : W.setCell ⟨g, n * 3 + 1, none⟩ (.bool true) = W2 at *
   clear hW s0 s1 s2 zf1
   have hns : n < (l.set n ⟨true, true, l[n].other⟩).length := by rw [List.length_set]; exact hn
   obtain ⟨s0, s1, s2⟩ := levCell HS2.out hns
   simp only [List.getElem_set_self] at s0 s1 s2
   have zf1 := HS2.out.frozen (n * 3 + 2)
   have HS3 := Lib.hid (levSet2 HS2.out hns true)
   have HB3 := Lib.hid (HB2.out.setCell (p := ⟨g, n * 3 + 2, none⟩) hg1 (.bool true))
   simp only [List.getElem_set_self, List.set_set] at HS3
   rw [levLast HN1.out] at HS3
   rw [hd] at HF
   go_wp2
   go_ret2
   exact levRet HF.out HS3.out (Nat.le_refl _) HB3.out
  ·have HS1 := Lib.hid (levSet0 HG4.out hn false)
   have HB1 := Lib.hid (hb14.setCell (p := ⟨g, n * 3, none⟩) hg1 (.bool false))
   go_upto_region 22 with fail
   generalize hW : w5.setCell ⟨g, n * 3, none⟩ (.bool false) = W at *
   clear hW c0 c1 c2 p0 p1 p2 zf0
   have hns : n < (l.set n ⟨false, l[n].done_, l[n].other⟩).length := by rw [List.length_set]; exact hn
   obtain ⟨s0, s1, s2⟩ := levCell HS1.out hns
   simp only [List.getElem_set_self] at s0 s1 s2
   have zf1 := HS1.out.frozen (n * 3 + 1)
   have HS2 := Lib.hid (levSet1 HS1.out hns true)
   have HB2 := Lib.hid (HB1.out.setCell (p := ⟨g, n * 3 + 1, none⟩) hg1 (.bool true))
   simp only [List.getElem_set_self, List.set_set] at HS2
   go_upto_region 23 with fail
   generalize hW : W.setCell ⟨g, n * 3 + 1, none⟩ (.bool true) = W2 at *
   clear hW s0 s1 s2 zf1
   have hns : n < (l.set n ⟨false, true, l[n].other⟩).length := by rw [List.length_set]; exact hn
   obtain ⟨s0, s1, s2⟩ := levCell HS2.out hns
   simp only [List.getElem_set_self] at s0 s1 s2
   have zf1 := HS2.out.frozen (n * 3 + 2)
   have HS3 := Lib.hid (levSet2 HS2.out hns true)
   have HB3 := Lib.hid (HB2.out.setCell (p := ⟨g, n * 3 + 2, none⟩) hg1 (.bool true))
   simp only [List.getElem_set_self, List.set_set] at HS3
   rw [levLast HN1.out] at HS3
   rw [hd] at HF
   go_wp2
   go_ret2
   exact levRet HF.out HS3.out (Nat.le_refl _) HB3.out
  ·have HS1 := Lib.hid (levSet0 HG4.out hn false)
   have HB1 := Lib.hid (hb14.setCell (p := ⟨g, n * 3, none⟩) hg1 (.bool false))
   go_upto_region 22 with fail
   generalize hW : w5.setCell ⟨g, n * 3, none⟩ (.bool false) = W at *
   clear hW c0 c1 c2 p0 p1 p2 zf0
   have hns : n < (l.set n ⟨false, l[n].done_, l[n].other⟩).length := by rw [List.length_set]; exact hn
   obtain ⟨s0, s1, s2⟩ := levCell HS1.out hns
   simp only [List.getElem_set_self] at s0 s1 s2
   have zf1 := HS1.out.frozen (n * 3 + 1)
   have HS2 := Lib.hid (levSet1 HS1.out hns true)
   have HB2 := Lib.hid (HB1.out.setCell (p := ⟨g, n * 3 + 1, none⟩) hg1 (.bool true))
   simp only [List.getElem_set_self, List.set_set] at HS2
   go_upto_region 23 with fail
   generalize hW : W.setCell ⟨g, n * 3 + 1, none⟩ (.bool true) = W2 at *
   clear hW s0 s1 s2 zf1
   have hns : n < (l.set n ⟨false, true, l[n].other⟩).length := by rw [List.length_set]; exact hn
   obtain ⟨s0, s1, s2⟩ := levCell HS2.out hns
   simp only [List.getElem_set_self] at s0 s1 s2
   have zf1 := HS2.out.frozen (n * 3 + 2)
   have HS3 := Lib.hid (levSet2 HS2.out hns true)
   have HB3 := Lib.hid (HB2.out.setCell (p := ⟨g, n * 3 + 2, none⟩) hg1 (.bool true))
   simp only [List.getElem_set_self, List.set_set] at HS3
   rw [levLast HN1.out] at HS3
   rw [hd] at HF
   go_wp2
   go_ret2
   exact levRet HF.out HS3.out (Nat.le_refl _) HB3.out
 ·have HF := Lib.hid (step_end (h := h) H8.out H00.out)
  rw [show l.length - 1 = n by have := HN1.out; omega] at HF
  have HSH := Lib.hid (HG4.out.short (k := n) (by rw [List.length_map]; omega))
  rw [← List.map_take] at HSH
  go_wp2_with fail
  refine HA.out.mono ?_
  rintro e w5 ⟨rfl, rfl⟩
  go_wp2
  go_ret2
  exact levRet HF.out HSH.out (Nat.le_refl _) hb14

theorem spec_LevelStep_w (v : Value) (l : List DLevel) (fp : List Nat) (k : Int) (h : Bool) (w : World) (hl : wtLevelS l ≤ 1048576) (H : (sSlice sLevel).R w [v] l fp) (_ : okInt k) (_ : True) :
  Calls Try.prog 13 #[v, .int .i64 k, .bool h] w (RetLev (stepL l k h) w) := (spec_LevelStep v l fp k h w (by rw [wtLevelS_len] at hl; exact hl) H).mono fun _ _ ⟨v, fp, h1, h2, h3, h4⟩ => ⟨v, fp, h1, h2, fun b hb => (h3.2 b hb).1, h4⟩

theorem spec_LevelsActive_w (v : Value) (l : List DLevel) (fp : List Nat) (w : World) (_ : wtLevelS l ≤ 1048576) (H : (sSlice sLevel).R w [v] l fp) :
  Calls Try.prog 9 #[v] w fun e w' => e = .returned (.bool (actL l)) ∧ Below w.heap.size w w' := (spec_LevelsActive v l fp w H).mono fun _ _ ⟨a, b⟩ => ⟨a, by rw [b]; exact Below.refl _ _⟩
theorem LevelStep_cnt (l : List DLevel) (k : Int) (h : Bool) : cntLevelS (stepL l k h).1 ≤ 310000 := by
 rcases hs : stepL l k h with ⟨x, b⟩
 have := step_small hs
 rw [cntLevelS_eq]; show 3 * x.length ≤ _; omega
theorem LevelsActive_cnt (l : List DLevel) : actL l = actL l := rfl

end Go.Proofs.Ytghikfggcnabeaa

/- LevelsActive and LevelStep of the program. -/
namespace Go.Proofs.Ytghikfggcnabeaa
open Go.RowKit

set_option maxHeartbeats 4000000 in
theorem impl_LevelsActive (v : Value) (l : List DLevel) (fp : List Nat) (w : World) (H : (sSlice sLevel).R w [v] l fp) :
  Calls Try.prog 8 #[v] w fun e w' => e = .returned (.bool (actL l)) ∧ Below w.heap.size w w' := by
 have H0 := Lib.hid H
 obtain ⟨a, cap, rfl, hc, hm, hrow⟩ := open_rows H
 unfold maxLen at hm
 have HROW : Hid (0 < l.length → ∃ bb ob, a = some ⟨bb, ob, none⟩) := fun h => by obtain ⟨b, o, -, e, -⟩ := hrow h; exact ⟨b, o, e⟩
 clear H hrow
 go_enter Try.func8, Try.ntmps8
 go_wp2
 go_loopw [7] (fun i wr => ∃ k : Nat, k ≤ l.length ∧ i = .int .i64 k ∧ Hid (actL (l.take k) = true) ∧ Below w.heap.size w wr) (fun i _ => l.length - (intOf i).toNat)
 case atStart => exact ⟨0, by omega, rfl, rfl, Below.refl _ _⟩
 case round =>
  obtain ⟨k, hk, rfl, HA, hb⟩ := hrel
  by_cases hlt : k < l.length
  ·obtain ⟨bb, ob, rfl⟩ := HROW.out (by omega)
   obtain ⟨c0, c1, c2, -⟩ := lev_at ((sSlice sLevel).below H0.out hb) hlt
   have hba := hb.trans ((alloc_below' wr (.cells #[.bool l[k].taken, .bool l[k].done_, .bool l[k].other] 27)).mono hb.size)
   cases ht : l[k].taken
   ·have HF := Lib.hid (act_stop hlt ht)
    rw [ht] at c0 hba
    clear ht
    go_wp2
    go_ret
    exact ⟨by rw [HF.out]; rfl, hba⟩
   ·have HF : Hid (actL (l.take (k + 1)) = true) := by show _ = _; rw [act_take hlt, HA.out, ht]; rfl
    rw [ht] at c0 hba
    clear ht
    go_wp2
    go_roundw
    case rel => exact ⟨k + 1, by omega, by go_num, HF, hba⟩
    case measure => simp [intOf]; omega
  ·have HF : Hid (actL l = true) := by have := HA.out; rw [List.take_of_length_le (by omega)] at this; exact this
   go_wp2
   go_ret
   exact ⟨by rw [HF.out]; rfl, hb⟩
theorem impl_LevelsActive_w (v : Value) (l : List DLevel) (fp : List Nat) (w : World) (_ : wtLevelS l ≤ 1048576) (H : (sSlice sLevel).R w [v] l fp) :
  Calls Try.prog 8 #[v] w fun e w' => e = .returned (.bool (actL l)) ∧ Below w.heap.size w w' := impl_LevelsActive v l fp w H

def LevOut (base : Nat) (r : List DLevel × Bool) (w : World) (e : Ending) (w' : World) : Prop :=
 ∃ v : Value, e = .returned (.tuple #[v, .bool r.2]) ∧ RowN sLevel base 27 v (r.1.map levE) w' ∧ Below base w w'
theorem LevOut.no {base : Nat} {r : List DLevel × Bool} {w w' : World} (h : r = ([], false)) (hb : Below base w w') : LevOut base r w (.returned (.tuple #[.slice none 0 0, .bool false])) w' :=
 ⟨_, by rw [h], by rw [h]; exact RowN.nil _ _ _ _, hb⟩
theorem LevOut.yes {base : Nat} {r : List DLevel × Bool} {v : Value} {l : List DLevel} {w w' : World} (h : r = (l, true)) (hG : RowN sLevel base 27 v (l.map levE) w') (hb : Below base w w') : LevOut base r w (.returned (.tuple #[v, .bool true])) w' :=
 ⟨_, by rw [h], by rw [h]; exact hG, hb⟩
theorem lev_read {base : Nat} {v : Value} {l : List DLevel} {w : World} (hG : RowN sLevel base 27 v (l.map levE) w) : ∃ fp, (sSlice sLevel).R w [v] l fp := by
 obtain ⟨fp, h, -, -⟩ := hG.read
 rw [levE_d] at h
 exact ⟨fp, h⟩
def endL (l : List DLevel) : List DLevel × Bool := if l.length = 0 then ([], false) else (l.take (l.length - 1), true)
def begL (l : List DLevel) (h : Bool) : List DLevel × Bool := if l.length = 8 then ([], false) else (l ++ [⟨h && actL l, h && actL l, false⟩], true)
def partL (l : List DLevel) (k : Int) (h : Bool) : List DLevel × Bool :=
 if h0 : 0 < l.length then
  (
  if l[l.length - 1].other then ([], false)
  else (l.take (l.length - 1) ++ [⟨((k == 7) || h) && !l[l.length - 1].done_ && actL (l.take (l.length - 1)), (((k == 7) || h) && !l[l.length - 1].done_ && actL (l.take (l.length - 1))) || (k == 7) || l[l.length - 1].done_, k == 7⟩], true))
 else ([], false)

set_option maxHeartbeats 4000000 in
theorem impl_endLevel (base : Nat) (v : Value) (l : List DLevel) (w : World) (hbase : base ≤ w.heap.size) (hl : l.length ≤ 1048576) (G : RowN sLevel base 27 v (l.map levE) w) :
  Calls Try.prog 26 #[v] w fun e w' => w' = w ∧ ∃ v : Value, e = .returned (.tuple #[v, .bool (endL l).2]) ∧ RowN sLevel base 27 v ((endL l).1.map levE) w := by
 have HG := Lib.hid G
 obtain ⟨ao, co, hvo, hco, hmo, hao⟩ := G.val
 rw [List.length_map] at hvo hco hao
 subst hvo
 unfold maxLen at hmo
 clear G
 go_enter Try.func26, Try.ntmps26
 by_cases hz : l.length = 0
 ·have HF : Hid (endL l = ([], false)) := if_pos hz
  have i0 : ((l.length : Int) == 0) = true := by simp [hz]
  clear hz
  go_wp2
  go_ret2
  exact ⟨rfl, .slice none 0 0, by rw [HF.out]; rfl, by rw [HF.out]; exact RowN.nil _ _ _ _⟩
 ·have HF : Hid (endL l = (l.take (l.length - 1), true)) := if_neg hz
  have i0 : ((l.length : Int) == 0) = false := beq_eq_false_iff_ne.2 (by omega)
  obtain ⟨g, rfl, -, -⟩ := hao (by omega)
  have HS := HG.out.short (k := l.length - 1) (by rw [List.length_map]; omega)
  rw [← List.map_take] at HS
  obtain ⟨n, HN⟩ : ∃ n : Nat, Hid (n = l.length - 1) := ⟨_, Lib.hid rfl⟩
  have hw1 : IntKind.i64.wrap ((l.length : Int) - 1) = (n : Int) := by rw [HN.out, IntWalk.i64_in _ (by omega)]; omega
  rw [show l.length - 1 = n from HN.out.symm] at HS HF
  have hn : n ≤ co := by rw [HN.out]; omega
  have hHS := Lib.hid HS
  clear hz HS hao
  go_wp2
  go_ret2
  exact ⟨rfl, _, by rw [HF.out]; rfl, by rw [HF.out]; exact hHS.out⟩

set_option maxHeartbeats 4000000 in
theorem impl_beginLevel (base : Nat) (v : Value) (l : List DLevel) (h : Bool) (w : World) (hbase : base ≤ w.heap.size) (hl : l.length ≤ 8) (G : RowN sLevel base 27 v (l.map levE) w) :
  Calls Try.prog 24 #[v, .bool h] w (LevOut base (begL l h) w) := by
 have HG := Lib.hid G
 obtain ⟨fp, HL⟩ := lev_read G
 have HA := Lib.hid (fun W (hb : Below w.heap.size w W) => impl_LevelsActive v l fp W ((sSlice sLevel).below HL hb))
 obtain ⟨ao, co, hvo, hco, hmo, hao⟩ := G.val
 rw [List.length_map] at hvo hco hao
 subst hvo
 unfold maxLen at hmo
 clear G HL hao
 go_enter Try.func24, Try.ntmps24
 by_cases h8 : l.length = 8
 ·have HF : Hid (begL l h = ([], false)) := if_pos h8
  have i0 : ((l.length : Int) == 8) = true := by simp; omega
  clear h8
  go_wp2
  go_ret2
  exact LevOut.no HF.out (Below.refl _ _)
 have HLE : Hid (l.length < 8) := by show _ < _; omega
 have HF : Hid (begL l h = (l ++ [⟨h && actL l, h && actL l, false⟩], true)) := if_neg h8
 have i0 : ((l.length : Int) == 8) = false := by simp; omega
 clear h8
 generalize actL l = ac at *
 cases h
 ·have hbl := alloc_below' w (.cells #[.bool false, .bool false, .bool false] 27)
  have HN4 := Lib.hid (heap_alloc_new w (.cells #[.bool false, .bool false, .bool false] 27))
  have HG4 := Lib.hid (HG.out.below hbl)
  have hb4 : Below base w _ := hbl.mono hbase
  have hs4 : base ≤ (w.alloc (.cells #[.bool false, .bool false, .bool false] 27)).heap.size := Nat.le_trans hbase hbl.size
  go_wp2_with (at_builtin; refine wp_append_rowN (X := [levE ⟨false, false, false⟩]) ti_Level rfl (by decide) _ rfl (.tmp 15) (.tmp 19) rfl base (.slice ao l.length co) rfl HG4.out ⟨w.heap.size, 0, none⟩ 1 1 rfl rfl (fun x hx => by obtain rfl := List.mem_singleton.1 hx; exact ⟨rfl, levE_R _ _, by simp [levE]⟩) (fun x hx => by obtain rfl := List.mem_singleton.1 hx; exact lev_one _ _ _ _ (levE_R w _)) (fun j u hj => by rw [addr_add, Nat.zero_add, cell_of_row _ _ _ _ _ _ HN4.out]; simpa [levE] using hj) (by have := HLE.out; unfold maxLen; simp; omega) (by have := HLE.out; simp; omega) hs4 ?_; intro v5 w5 hR5 hg5 hp5)
  have hb5 : Below base w w5 := hb4.grown hg5 hs4 (fun b hb => (HG4.out.mine b hb).1)
  go_wp2
  go_ret2
  exact LevOut.yes HF.out (by rw [List.map_append]; exact hR5) hb5
 ·go_wp2_with fail
  refine (HA.out _ (Below.refl _ _)).mono ?_
  rintro e w4 ⟨rfl, hb⟩
  rw [Bool.true_and] at HF
  have HG3 := Lib.hid (HG.out.below hb)
  have hbl := alloc_below' w4 (.cells #[.bool ac, .bool ac, .bool false] 27)
  have HN4 := Lib.hid (heap_alloc_new w4 (.cells #[.bool ac, .bool ac, .bool false] 27))
  have HG4 := Lib.hid (HG3.out.below hbl)
  have hb4 : Below base w _ := (hb.mono hbase).trans (hbl.mono (Nat.le_trans hbase hb.size))
  have hs4 : base ≤ (w4.alloc (.cells #[.bool ac, .bool ac, .bool false] 27)).heap.size := Nat.le_trans (Nat.le_trans hbase hb.size) hbl.size
  go_wp2_with (at_builtin; refine wp_append_rowN (X := [levE ⟨ac, ac, false⟩]) ti_Level rfl (by decide) _ rfl (.tmp 15) (.tmp 19) rfl base (.slice ao l.length co) rfl HG4.out ⟨w4.heap.size, 0, none⟩ 1 1 rfl rfl (fun x hx => by obtain rfl := List.mem_singleton.1 hx; exact ⟨rfl, levE_R _ _, by simp [levE]⟩) (fun x hx => by obtain rfl := List.mem_singleton.1 hx; exact lev_one _ _ _ _ (levE_R w4 _)) (fun j u hj => by rw [addr_add, Nat.zero_add, cell_of_row _ _ _ _ _ _ HN4.out]; simpa [levE] using hj) (by have := HLE.out; unfold maxLen; simp; omega) (by have := HLE.out; simp; omega) hs4 ?_; intro v5 w5 hR5 hg5 hp5)
  have hb5 : Below base w w5 := hb4.grown hg5 hs4 (fun b hb => (HG4.out.mine b hb).1)
  go_wp2
  go_ret2
  exact LevOut.yes HF.out (by rw [List.map_append]; exact hR5) hb5

theorem step_begL {l : List DLevel} {k : Int} {h : Bool} (h1 : 3 ≤ k ∧ k ≤ 5) (hl : l.length ≤ 8) : stepL l k h = begL l h := by
 unfold begL
 by_cases h8 : l.length = 8
 ·rw [if_pos h8]; exact step_full h1 h8
 ·rw [if_neg h8, step_begin h1 (by omega), Bool.and_comm]
theorem step_endL {l : List DLevel} {h : Bool} (hl : l.length ≤ 8) : stepL l 8 h = endL l := by
 unfold endL
 by_cases h0 : l.length = 0
 ·rw [if_pos h0]; exact step_none (by omega) h0
 ·rw [if_neg h0]; exact step_end hl (by omega)
theorem step_partL {l : List DLevel} {k : Int} {h : Bool} (hk : k = 6 ∨ k = 7) (hl : l.length ≤ 8) : stepL l k h = partL l k h := by
 unfold partL
 by_cases h0 : 0 < l.length
 ·rw [dif_pos h0]
  cases ho : l[l.length - 1].other
  ·rcases hk with rfl | rfl
   ·rw [step_elif hl h0 ho, ho]
    cases actL (l.take (l.length - 1)) <;> cases l[l.length - 1].done_ <;> cases h <;> rfl
   ·rw [step_else hl h0 ho]
    cases actL (l.take (l.length - 1)) <;> cases l[l.length - 1].done_ <;> cases h <;> rfl
  ·rw [step_other (by omega) hl h0 ho]; rfl
 ·rw [dif_neg h0]; exact step_none (by omega) (by omega)

set_option maxHeartbeats 16000000 in
set_option maxRecDepth 100000 in
theorem impl_beginPart (base : Nat) (v : Value) (l : List DLevel) (k : Int) (h : Bool) (w : World) (hbase : base ≤ w.heap.size) (hl : l.length ≤ 8) (hk : k = 6 ∨ k = 7) (G : RowN sLevel base 27 v (l.map levE) w) :
  Calls Try.prog 25 #[v, .int .i64 k, .bool h] w (LevOut base (partL l k h) w) := by
 have HG := Lib.hid G
 have HE := Lib.hid (impl_endLevel base v l w hbase (by omega) G)
 obtain ⟨ao, co, hvo, hco, hmo, hao⟩ := G.val
 rw [List.length_map] at hvo hco hao
 subst hvo
 unfold maxLen at hmo
 clear G
 go_enter Try.func25, Try.ntmps25
 go_wp2_with fail
 refine HE.out.mono ?_
 rintro e w1 ⟨hw, v1, he, G1⟩
 subst hw
 by_cases hz : l.length = 0
 ·have HF : Hid (partL l k h = ([], false)) := dif_neg (by omega)
  have hEF : endL l = ([], false) := if_pos hz
  rw [hEF] at he
  subst he
  clear hz hEF G1
  go_wp2
  go_ret2
  exact LevOut.no HF.out (Below.refl _ _)
 obtain ⟨n, HN⟩ : ∃ n : Nat, Hid (n + 1 = l.length) := ⟨l.length - 1, by show _ = _; omega⟩
 have hn : n < l.length := by have := HN.out; omega
 have hll : l.length - 1 = n := by have := HN.out; omega
 have hEF : endL l = (l.take n, true) := by unfold endL; rw [if_neg hz, hll]
 rw [hEF] at he G1
 subst he
 obtain ⟨fq, HQ⟩ := lev_read G1
 obtain ⟨a1, c1, hv1, -, -, -⟩ := G1.val
 rw [List.length_map, List.length_take, Nat.min_eq_left (Nat.le_of_lt hn)] at hv1
 subst hv1
 obtain ⟨g, rfl, hg1, hg2⟩ := hao (by omega)
 obtain ⟨p0, p1, p2⟩ := levCell HG.out hn
 obtain ⟨x, HX⟩ : ∃ x : DLevel, Hid (x = l[n]) := ⟨_, Lib.hid rfl⟩
 rw [show l[n] = x from HX.out.symm] at p0 p1 p2
 have HF : Hid (partL l k h = if x.other then ([], false) else (l.take n ++ [⟨((k == 7) || h) && !x.done_ && actL (l.take n), (((k == 7) || h) && !x.done_ && actL (l.take n)) || (k == 7) || x.done_, k == 7⟩], true)) := by
  show _ = _
  unfold partL
  rw [dif_pos (by omega)]
  simp only [hll, HX.out]
 have HLE := Lib.hid hl
 have HA := Lib.hid (fun W (hb : Below w1.heap.size w1 W) => impl_LevelsActive _ (l.take n) fq W ((sSlice sLevel).below HQ hb))
 generalize actL (l.take n) = ar at *
 have HG1 := Lib.hid (fun W (hb : Below w1.heap.size w1 W) => (show RowN sLevel base 27 (.slice a1 n c1) ((l.take n).map levE) W from G1.below hb))
 have i1 : (n : Int) < (l.length : Int) := by omega
 have hba := alloc_below' w1 (.cells #[.bool x.taken, .bool x.done_, .bool x.other] 27)
 have HZ := Lib.hid (heap_alloc_new w1 (.cells #[.bool x.taken, .bool x.done_, .bool x.other] 27))
 have hbz : base < (w1.alloc (.cells #[.bool x.taken, .bool x.done_, .bool x.other] 27)).heap.size := by
  rw [show (w1.alloc (.cells #[.bool x.taken, .bool x.done_, .bool x.other] 27)).heap.size = w1.heap.size + 1 from Array.size_push _]; omega
 have HTL : Hid (((l.take n).map levE).length = n) := by show _ = _; rw [List.length_map, List.length_take]; omega
 clear hz hEF G1 HQ hao hll hl
 go_upto_region 5 with fail
 generalize hW : w1.alloc (.cells #[.bool x.taken, .bool x.done_, .bool x.other] 27) = W at *
 clear hW p0 p1 p2
 have z1 : W.cell? ⟨w1.heap.size, 1, none⟩ = some (.bool x.done_) := cell_of_row _ _ 1 _ _ _ HZ.out
 have z2 : W.cell? ⟨w1.heap.size, 2, none⟩ = some (.bool x.other) := cell_of_row _ _ 2 _ _ _ HZ.out
 have hbB := hba.mono hbase
 cases ho : x.other
 rotate_left
 ·have HF2 : Hid (partL l k h = ([], false)) := by show _ = _; rw [HF.out, ho]; rfl
  rw [ho] at z2
  clear ho HF
  go_wp2
  go_ret2
  exact LevOut.no HF2.out hbB
 rw [ho] at z2 HF
 clear ho
 rcases hk with rfl | rfl
 ·cases h
  ·cases hd : x.done_ <;> rw [hd] at z1 HZ HF
   ·clear hd
    have hbl := alloc_below' W (.cells #[.bool false, .bool false, .bool false] 27)
    have HN4 := Lib.hid (heap_alloc_new W (.cells #[.bool false, .bool false, .bool false] 27))
    have HG4 := Lib.hid (HG1.out _ (hba.trans (hbl.mono hba.size)))
    have hb4 := (hba.trans (hbl.mono hba.size)).mono hbase
    have hs4 : base ≤ (W.alloc (.cells #[.bool false, .bool false, .bool false] 27)).heap.size := Nat.le_trans hbase (hba.trans (hbl.mono hba.size)).size
    go_wp2_with (at_builtin; refine wp_append_rowN (X := [levE ⟨false, false, false⟩]) ti_Level rfl (by decide) _ rfl (.tmp 42) (.tmp 54) rfl base (.slice a1 n c1) rfl HG4.out ⟨W.heap.size, 0, none⟩ 1 1 rfl rfl (fun x hx => by obtain rfl := List.mem_singleton.1 hx; exact ⟨rfl, levE_R _ _, by simp [levE]⟩) (fun x hx => by obtain rfl := List.mem_singleton.1 hx; exact lev_one _ _ _ _ (levE_R w1 _)) (fun j u hj => by rw [addr_add, Nat.zero_add, cell_of_row _ _ _ _ _ _ HN4.out]; simpa [levE] using hj) (by rw [HTL.out]; have := HLE.out; unfold maxLen; omega) (by rw [HTL.out]; have := HLE.out; omega) hs4 ?_; intro v5 w5 hR5 hg5 hp5)
    have hb5 : Below base w1 w5 := hb4.grown hg5 hs4 (fun b hb => (HG4.out.mine b hb).1)
    go_wp2
    go_ret2
    exact LevOut.yes (by rw [HF.out]; rfl) (by rw [List.map_append]; exact hR5) hb5
   ·clear hd
    have hbl := alloc_below' W (.cells #[.bool false, .bool true, .bool false] 27)
    have HN4 := Lib.hid (heap_alloc_new W (.cells #[.bool false, .bool true, .bool false] 27))
    have HG4 := Lib.hid (HG1.out _ (hba.trans (hbl.mono hba.size)))
    have hb4 := (hba.trans (hbl.mono hba.size)).mono hbase
    have hs4 : base ≤ (W.alloc (.cells #[.bool false, .bool true, .bool false] 27)).heap.size := Nat.le_trans hbase (hba.trans (hbl.mono hba.size)).size
    go_wp2_with (at_builtin; refine wp_append_rowN (X := [levE ⟨false, true, false⟩]) ti_Level rfl (by decide) _ rfl (.tmp 42) (.tmp 54) rfl base (.slice a1 n c1) rfl HG4.out ⟨W.heap.size, 0, none⟩ 1 1 rfl rfl (fun x hx => by obtain rfl := List.mem_singleton.1 hx; exact ⟨rfl, levE_R _ _, by simp [levE]⟩) (fun x hx => by obtain rfl := List.mem_singleton.1 hx; exact lev_one _ _ _ _ (levE_R w1 _)) (fun j u hj => by rw [addr_add, Nat.zero_add, cell_of_row _ _ _ _ _ _ HN4.out]; simpa [levE] using hj) (by rw [HTL.out]; have := HLE.out; unfold maxLen; omega) (by rw [HTL.out]; have := HLE.out; omega) hs4 ?_; intro v5 w5 hR5 hg5 hp5)
    have hb5 : Below base w1 w5 := hb4.grown hg5 hs4 (fun b hb => (HG4.out.mine b hb).1)
    go_wp2
    go_ret2
    exact LevOut.yes (by rw [HF.out]; rfl) (by rw [List.map_append]; exact hR5) hb5
  ·cases hd : x.done_ <;> rw [hd] at z1 HZ HF
   ·clear hd
    go_wp2_with fail
    refine (HA.out _ hba).mono ?_
    rintro e w4 ⟨rfl, hb⟩
    have hb24 := hba.trans (hb.mono hba.size)
    have z4 : w4.cell? ⟨w1.heap.size, 1, none⟩ = some (.bool false) := cell_of_row _ _ 1 _ _ _ (mbox HZ.out hb)
    cases ar
    ·
     have hbl := alloc_below' w4 (.cells #[.bool false, .bool false, .bool false] 27)
     have HN4 := Lib.hid (heap_alloc_new w4 (.cells #[.bool false, .bool false, .bool false] 27))
     have HG4 := Lib.hid (HG1.out _ (hb24.trans (hbl.mono hb24.size)))
     have hb4 := (hb24.trans (hbl.mono hb24.size)).mono hbase
     have hs4 : base ≤ (w4.alloc (.cells #[.bool false, .bool false, .bool false] 27)).heap.size := Nat.le_trans hbase (hb24.trans (hbl.mono hb24.size)).size
     go_wp2_with (at_builtin; refine wp_append_rowN (X := [levE ⟨false, false, false⟩]) ti_Level rfl (by decide) _ rfl (.tmp 42) (.tmp 54) rfl base (.slice a1 n c1) rfl HG4.out ⟨w4.heap.size, 0, none⟩ 1 1 rfl rfl (fun x hx => by obtain rfl := List.mem_singleton.1 hx; exact ⟨rfl, levE_R _ _, by simp [levE]⟩) (fun x hx => by obtain rfl := List.mem_singleton.1 hx; exact lev_one _ _ _ _ (levE_R w1 _)) (fun j u hj => by rw [addr_add, Nat.zero_add, cell_of_row _ _ _ _ _ _ HN4.out]; simpa [levE] using hj) (by rw [HTL.out]; have := HLE.out; unfold maxLen; omega) (by rw [HTL.out]; have := HLE.out; omega) hs4 ?_; intro v5 w5 hR5 hg5 hp5)
     have hb5 : Below base w1 w5 := hb4.grown hg5 hs4 (fun b hb => (HG4.out.mine b hb).1)
     go_wp2
     go_ret2
     exact LevOut.yes (by rw [HF.out]; rfl) (by rw [List.map_append]; exact hR5) hb5
    ·
     have hbl := alloc_below' w4 (.cells #[.bool true, .bool true, .bool false] 27)
     have HN4 := Lib.hid (heap_alloc_new w4 (.cells #[.bool true, .bool true, .bool false] 27))
     have HG4 := Lib.hid (HG1.out _ (hb24.trans (hbl.mono hb24.size)))
     have hb4 := (hb24.trans (hbl.mono hb24.size)).mono hbase
     have hs4 : base ≤ (w4.alloc (.cells #[.bool true, .bool true, .bool false] 27)).heap.size := Nat.le_trans hbase (hb24.trans (hbl.mono hb24.size)).size
     go_wp2_with (at_builtin; refine wp_append_rowN (X := [levE ⟨true, true, false⟩]) ti_Level rfl (by decide) _ rfl (.tmp 42) (.tmp 54) rfl base (.slice a1 n c1) rfl HG4.out ⟨w4.heap.size, 0, none⟩ 1 1 rfl rfl (fun x hx => by obtain rfl := List.mem_singleton.1 hx; exact ⟨rfl, levE_R _ _, by simp [levE]⟩) (fun x hx => by obtain rfl := List.mem_singleton.1 hx; exact lev_one _ _ _ _ (levE_R w1 _)) (fun j u hj => by rw [addr_add, Nat.zero_add, cell_of_row _ _ _ _ _ _ HN4.out]; simpa [levE] using hj) (by rw [HTL.out]; have := HLE.out; unfold maxLen; omega) (by rw [HTL.out]; have := HLE.out; omega) hs4 ?_; intro v5 w5 hR5 hg5 hp5)
     have hb5 : Below base w1 w5 := hb4.grown hg5 hs4 (fun b hb => (HG4.out.mine b hb).1)
     go_wp2
     go_ret2
     exact LevOut.yes (by rw [HF.out]; rfl) (by rw [List.map_append]; exact hR5) hb5
   ·clear hd
    have hbl := alloc_below' W (.cells #[.bool false, .bool true, .bool false] 27)
    have HN4 := Lib.hid (heap_alloc_new W (.cells #[.bool false, .bool true, .bool false] 27))
    have HG4 := Lib.hid (HG1.out _ (hba.trans (hbl.mono hba.size)))
    have hb4 := (hba.trans (hbl.mono hba.size)).mono hbase
    have hs4 : base ≤ (W.alloc (.cells #[.bool false, .bool true, .bool false] 27)).heap.size := Nat.le_trans hbase (hba.trans (hbl.mono hba.size)).size
    go_wp2_with (at_builtin; refine wp_append_rowN (X := [levE ⟨false, true, false⟩]) ti_Level rfl (by decide) _ rfl (.tmp 42) (.tmp 54) rfl base (.slice a1 n c1) rfl HG4.out ⟨W.heap.size, 0, none⟩ 1 1 rfl rfl (fun x hx => by obtain rfl := List.mem_singleton.1 hx; exact ⟨rfl, levE_R _ _, by simp [levE]⟩) (fun x hx => by obtain rfl := List.mem_singleton.1 hx; exact lev_one _ _ _ _ (levE_R w1 _)) (fun j u hj => by rw [addr_add, Nat.zero_add, cell_of_row _ _ _ _ _ _ HN4.out]; simpa [levE] using hj) (by rw [HTL.out]; have := HLE.out; unfold maxLen; omega) (by rw [HTL.out]; have := HLE.out; omega) hs4 ?_; intro v5 w5 hR5 hg5 hp5)
    have hb5 : Below base w1 w5 := hb4.grown hg5 hs4 (fun b hb => (HG4.out.mine b hb).1)
    go_wp2
    go_ret2
    exact LevOut.yes (by rw [HF.out]; rfl) (by rw [List.map_append]; exact hR5) hb5
 ·cases hd : x.done_ <;> rw [hd] at z1 HZ HF
  ·clear hd
   go_wp2_with fail
   refine (HA.out _ hba).mono ?_
   rintro e w4 ⟨rfl, hb⟩
   have hb24 := hba.trans (hb.mono hba.size)
   have z4 : w4.cell? ⟨w1.heap.size, 1, none⟩ = some (.bool false) := cell_of_row _ _ 1 _ _ _ (mbox HZ.out hb)
   cases ar
   ·
    have hbl := alloc_below' w4 (.cells #[.bool false, .bool true, .bool true] 27)
    have HN4 := Lib.hid (heap_alloc_new w4 (.cells #[.bool false, .bool true, .bool true] 27))
    have HG4 := Lib.hid (HG1.out _ (hb24.trans (hbl.mono hb24.size)))
    have hb4 := (hb24.trans (hbl.mono hb24.size)).mono hbase
    have hs4 : base ≤ (w4.alloc (.cells #[.bool false, .bool true, .bool true] 27)).heap.size := Nat.le_trans hbase (hb24.trans (hbl.mono hb24.size)).size
    go_wp2_with (at_builtin; refine wp_append_rowN (X := [levE ⟨false, true, true⟩]) ti_Level rfl (by decide) _ rfl (.tmp 42) (.tmp 54) rfl base (.slice a1 n c1) rfl HG4.out ⟨w4.heap.size, 0, none⟩ 1 1 rfl rfl (fun x hx => by obtain rfl := List.mem_singleton.1 hx; exact ⟨rfl, levE_R _ _, by simp [levE]⟩) (fun x hx => by obtain rfl := List.mem_singleton.1 hx; exact lev_one _ _ _ _ (levE_R w1 _)) (fun j u hj => by rw [addr_add, Nat.zero_add, cell_of_row _ _ _ _ _ _ HN4.out]; simpa [levE] using hj) (by rw [HTL.out]; have := HLE.out; unfold maxLen; omega) (by rw [HTL.out]; have := HLE.out; omega) hs4 ?_; intro v5 w5 hR5 hg5 hp5)
    have hb5 : Below base w1 w5 := hb4.grown hg5 hs4 (fun b hb => (HG4.out.mine b hb).1)
    go_wp2
    go_ret2
    exact LevOut.yes (by rw [HF.out]; rfl) (by rw [List.map_append]; exact hR5) hb5
   ·
    have hbl := alloc_below' w4 (.cells #[.bool true, .bool true, .bool true] 27)
    have HN4 := Lib.hid (heap_alloc_new w4 (.cells #[.bool true, .bool true, .bool true] 27))
    have HG4 := Lib.hid (HG1.out _ (hb24.trans (hbl.mono hb24.size)))
    have hb4 := (hb24.trans (hbl.mono hb24.size)).mono hbase
    have hs4 : base ≤ (w4.alloc (.cells #[.bool true, .bool true, .bool true] 27)).heap.size := Nat.le_trans hbase (hb24.trans (hbl.mono hb24.size)).size
    go_wp2_with (at_builtin; refine wp_append_rowN (X := [levE ⟨true, true, true⟩]) ti_Level rfl (by decide) _ rfl (.tmp 42) (.tmp 54) rfl base (.slice a1 n c1) rfl HG4.out ⟨w4.heap.size, 0, none⟩ 1 1 rfl rfl (fun x hx => by obtain rfl := List.mem_singleton.1 hx; exact ⟨rfl, levE_R _ _, by simp [levE]⟩) (fun x hx => by obtain rfl := List.mem_singleton.1 hx; exact lev_one _ _ _ _ (levE_R w1 _)) (fun j u hj => by rw [addr_add, Nat.zero_add, cell_of_row _ _ _ _ _ _ HN4.out]; simpa [levE] using hj) (by rw [HTL.out]; have := HLE.out; unfold maxLen; omega) (by rw [HTL.out]; have := HLE.out; omega) hs4 ?_; intro v5 w5 hR5 hg5 hp5)
    have hb5 : Below base w1 w5 := hb4.grown hg5 hs4 (fun b hb => (HG4.out.mine b hb).1)
    go_wp2
    go_ret2
    exact LevOut.yes (by rw [HF.out]; rfl) (by rw [List.map_append]; exact hR5) hb5
  ·clear hd
   have hbl := alloc_below' W (.cells #[.bool false, .bool true, .bool true] 27)
   have HN4 := Lib.hid (heap_alloc_new W (.cells #[.bool false, .bool true, .bool true] 27))
   have HG4 := Lib.hid (HG1.out _ (hba.trans (hbl.mono hba.size)))
   have hb4 := (hba.trans (hbl.mono hba.size)).mono hbase
   have hs4 : base ≤ (W.alloc (.cells #[.bool false, .bool true, .bool true] 27)).heap.size := Nat.le_trans hbase (hba.trans (hbl.mono hba.size)).size
   go_wp2_with (at_builtin; refine wp_append_rowN (X := [levE ⟨false, true, true⟩]) ti_Level rfl (by decide) _ rfl (.tmp 42) (.tmp 54) rfl base (.slice a1 n c1) rfl HG4.out ⟨W.heap.size, 0, none⟩ 1 1 rfl rfl (fun x hx => by obtain rfl := List.mem_singleton.1 hx; exact ⟨rfl, levE_R _ _, by simp [levE]⟩) (fun x hx => by obtain rfl := List.mem_singleton.1 hx; exact lev_one _ _ _ _ (levE_R w1 _)) (fun j u hj => by rw [addr_add, Nat.zero_add, cell_of_row _ _ _ _ _ _ HN4.out]; simpa [levE] using hj) (by rw [HTL.out]; have := HLE.out; unfold maxLen; omega) (by rw [HTL.out]; have := HLE.out; omega) hs4 ?_; intro v5 w5 hR5 hg5 hp5)
   have hb5 : Below base w1 w5 := hb4.grown hg5 hs4 (fun b hb => (HG4.out.mine b hb).1)
   go_wp2
   go_ret2
   exact LevOut.yes (by rw [HF.out]; rfl) (by rw [List.map_append]; exact hR5) hb5

set_option maxHeartbeats 16000000 in
set_option maxRecDepth 100000 in
theorem impl_LevelStep (v : Value) (l : List DLevel) (fp : List Nat) (k : Int) (h : Bool) (w : World) (hl : l.length ≤ 1048576) (H : (sSlice sLevel).R w [v] l fp) :
  Calls Try.prog 12 #[v, .int .i64 k, .bool h] w (MineLev (stepL l k h) w) := by
 have H0 := Lib.hid H
 have HLT := Lib.hid ((sSlice sLevel).lt H)
 obtain ⟨a, cap, rfl, hc, hm, hrow⟩ := open_rows H
 unfold maxLen at hm
 clear H hrow
 go_enter Try.func12, Try.ntmps12
 by_cases h8 : 8 < l.length
 ·have HF := Lib.hid (step_bad (k := k) (h := h) (.inl h8))
  have i8 : (8 : Int) < (l.length : Int) := by omega
  clear h8
  go_wp2
  go_ret2
  exact levRet HF.out (RowN.nil _ _ _ _) (Nat.le_refl _) (Below.refl _ _)
 have i8 : ¬ (8 : Int) < (l.length : Int) := by omega
 by_cases hk : 1 ≤ k ∧ k ≤ 10
 rotate_left
 ·have HF := Lib.hid (step_bad (l := l) (h := h) (.inr hk))
  by_cases h1 : k < 1
  ·clear hk
   go_wp2
   go_ret2
   exact levRet HF.out (RowN.nil _ _ _ _) (Nat.le_refl _) (Below.refl _ _)
  ·have h10 : 10 < k := by omega
   clear hk
   go_wp2
   go_ret2
   exact levRet HF.out (RowN.nil _ _ _ _) (Nat.le_refl _) (Below.refl _ _)
 have hk1 : ¬ k < 1 := by omega
 have hk2 : ¬ 10 < k := by omega
 have HLE : Hid (l.length ≤ 8) := by show _ ≤ _; omega
 go_upto_region 4 with (at_builtin; refine wp_append_anyN ti_Level rfl (by decide) lev_one _ rfl (.const (.slice none 0 0)) (.tmp 20) rfl w.heap.size (.slice none 0 0) _ l fp rfl (RowN.nil _ _ _ _) rfl H0.out (fun b hb e => by simp [Value.ownBlock] at e) (by unfold maxLen; simp; omega) (by simp; omega) (Nat.le_refl _) ?_; intro v2 X w2 hX hXf hG2 hg2 hp2)
 have hb2 : Below w.heap.size w w2 := (Below.refl _ _).grown hg2 (Nat.le_refl _) (fun b hb => by simp [Value.ownBlock] at hb)
 rw [List.nil_append] at hG2
 have hXc : X = l.map levE := by rw [lev_canon hG2.el, hX]
 subst hXc
 have HG2 := Lib.hid hG2
 clear hG2 hg2 hp2 hX hXf hm hc i8 h8 hk1 hk2
 have hks : k = 1 ∨ k = 2 ∨ k = 3 ∨ k = 4 ∨ k = 5 ∨ k = 6 ∨ k = 7 ∨ k = 8 ∨ k = 9 ∨ k = 10 := by omega
 clear hk
 rcases hks with rfl | rfl | rfl | rfl | rfl | rfl | rfl | rfl | rfl | rfl
 ·obtain ⟨ao, co, hvo, -, -, -⟩ := HG2.out.val
  subst hvo
  go_wp2
  go_ret2
  exact levRet (step_plain HLE.out (by omega) (by omega)) HG2.out (Nat.le_refl _) hb2
 ·obtain ⟨ao, co, hvo, -, -, -⟩ := HG2.out.val
  subst hvo
  go_wp2
  go_ret2
  exact levRet (step_plain HLE.out (by omega) (by omega)) HG2.out (Nat.le_refl _) hb2
 ·have HC := Lib.hid (impl_beginLevel w.heap.size _ l h w2 hb2.size HLE.out HG2.out)
  go_wp2_with fail
  refine HC.out.mono ?_
  rintro e w3 ⟨v3, rfl, G3, hb3⟩
  obtain ⟨a3, c3, hv3, -, -, -⟩ := G3.val
  rw [List.length_map] at hv3
  subst hv3
  have HG3 := Lib.hid G3
  clear G3 HC HG2
  go_wp2
  go_ret2
  exact levRet (step_begL (by omega) HLE.out) HG3.out (Nat.le_refl _) (hb2.trans hb3)
 ·have HC := Lib.hid (impl_beginLevel w.heap.size _ l h w2 hb2.size HLE.out HG2.out)
  go_wp2_with fail
  refine HC.out.mono ?_
  rintro e w3 ⟨v3, rfl, G3, hb3⟩
  obtain ⟨a3, c3, hv3, -, -, -⟩ := G3.val
  rw [List.length_map] at hv3
  subst hv3
  have HG3 := Lib.hid G3
  clear G3 HC HG2
  go_wp2
  go_ret2
  exact levRet (step_begL (by omega) HLE.out) HG3.out (Nat.le_refl _) (hb2.trans hb3)
 ·have HC := Lib.hid (impl_beginLevel w.heap.size _ l h w2 hb2.size HLE.out HG2.out)
  go_wp2_with fail
  refine HC.out.mono ?_
  rintro e w3 ⟨v3, rfl, G3, hb3⟩
  obtain ⟨a3, c3, hv3, -, -, -⟩ := G3.val
  rw [List.length_map] at hv3
  subst hv3
  have HG3 := Lib.hid G3
  clear G3 HC HG2
  go_wp2
  go_ret2
  exact levRet (step_begL (by omega) HLE.out) HG3.out (Nat.le_refl _) (hb2.trans hb3)
 ·have HC := Lib.hid (impl_beginPart w.heap.size _ l 6 h w2 hb2.size HLE.out (by omega) HG2.out)
  go_wp2_with fail
  refine HC.out.mono ?_
  rintro e w3 ⟨v3, rfl, G3, hb3⟩
  obtain ⟨a3, c3, hv3, -, -, -⟩ := G3.val
  rw [List.length_map] at hv3
  subst hv3
  have HG3 := Lib.hid G3
  clear G3 HC HG2
  go_wp2
  go_ret2
  exact levRet (step_partL (by omega) HLE.out) HG3.out (Nat.le_refl _) (hb2.trans hb3)
 ·have HC := Lib.hid (impl_beginPart w.heap.size _ l 7 h w2 hb2.size HLE.out (by omega) HG2.out)
  go_wp2_with fail
  refine HC.out.mono ?_
  rintro e w3 ⟨v3, rfl, G3, hb3⟩
  obtain ⟨a3, c3, hv3, -, -, -⟩ := G3.val
  rw [List.length_map] at hv3
  subst hv3
  have HG3 := Lib.hid G3
  clear G3 HC HG2
  go_wp2
  go_ret2
  exact levRet (step_partL (by omega) HLE.out) HG3.out (Nat.le_refl _) (hb2.trans hb3)
 ·have HC := Lib.hid (impl_endLevel w.heap.size _ l w2 hb2.size hl HG2.out)
  go_wp2_with fail
  refine HC.out.mono ?_
  rintro e w3 ⟨rfl, v3, rfl, G3⟩
  obtain ⟨a3, c3, hv3, -, -, -⟩ := G3.val
  rw [List.length_map] at hv3
  subst hv3
  have HG3 := Lib.hid G3
  clear G3 HC HG2
  go_wp2
  go_ret2
  exact levRet (step_endL HLE.out) HG3.out (Nat.le_refl _) hb2
 ·obtain ⟨ao, co, hvo, -, -, -⟩ := HG2.out.val
  subst hvo
  go_wp2
  go_ret2
  exact levRet (step_plain HLE.out (by omega) (by omega)) HG2.out (Nat.le_refl _) hb2
 ·obtain ⟨ao, co, hvo, -, -, -⟩ := HG2.out.val
  subst hvo
  go_wp2
  go_ret2
  exact levRet (step_plain HLE.out (by omega) (by omega)) HG2.out (Nat.le_refl _) hb2
theorem impl_LevelStep_w (v : Value) (l : List DLevel) (fp : List Nat) (k : Int) (h : Bool) (w : World) (hl : wtLevelS l ≤ 1048576) (H : (sSlice sLevel).R w [v] l fp) (_ : okInt k) (_ : True) :
  Calls Try.prog 12 #[v, .int .i64 k, .bool h] w (MineLev (stepL l k h) w) := impl_LevelStep v l fp k h w (by rw [wtLevelS_len] at hl; exact hl) H

end Go.Proofs.Ytghikfggcnabeaa

/- The drawn inputs of the laws of levels. -/
namespace Go.Proofs.Ytghikfggcnabeaa
open Go.RowKit

def DrawnLev (rb p : Nat) (w : World) (e : Ending) (w' : World) : Prop :=
 ∃ (v : Value) (l : List DLevel) (q : Nat), e = .returned v ∧ RowN sLevel w.heap.size 27 v (l.map levE) w' ∧ l.length ≤ 9 ∧ q ≤ p + 20 ∧ Rd w' rb q ∧ Kept [rb] w w'
theorem Rd.grownK {w w' : World} {rb p : Nat} {ob : Option Nat} (h : Rd w rb p) (hg : w.grownBy w' ob) (ho : ∀ b, ob = some b → rb < b) : Rd w' rb p := by
 have hlt := h.lt
 obtain ⟨⟨a, l, cap, fp, h2, h3, h4, h5⟩, h6⟩ := h
 have hblk : ∀ b, b ≤ rb → w'.heap[b]? = w.heap[b]? := fun b hb => hg.block b (by omega) (by intro he; have := ho b he.symm; omega)
 exact ⟨⟨a, l, cap, fp, (hblk rb (Nat.le_refl _)).trans h2, (sSlice sByte).frame (fun b hb => hblk b (Nat.le_of_lt (h4 b hb))) h3, h4, h5⟩, h6⟩
theorem row_kept {base rb : Nat} {v : Value} {l : List DLevel} {w w' : World} (h : RowN sLevel base 27 v (l.map levE) w) (hk : Kept [rb] w w') (hr : rb < base) : RowN sLevel base 27 v (l.map levE) w' :=
 h.kept hk (fun g hg hx => by obtain rfl := List.mem_singleton.1 hx; have := (h.mine g hg).1; omega) (fun x hx b hb => by
  obtain ⟨y, -, rfl⟩ := List.mem_map.1 hx
  exact absurd hb (by simp [levE]))
theorem zero_row (n : Nat) (h : n = 8 ∨ n = 9) : (madeCells (Value.agg #[.bool false, .bool false, .bool false]).cells (n * 3)).toList = (((List.replicate n (⟨false, false, false⟩ : DLevel)).map levE).flatMap (·.cells)) := by
 rcases h with rfl | rfl
 ·simp [madeCells, Value.cells, levE, List.replicate, List.range, List.range.loop]
 ·simp [madeCells, Value.cells, levE, List.replicate, List.range, List.range.loop]

set_option maxHeartbeats 16000000 in
set_option maxRecDepth 100000 in
theorem l20Levels (rb p : Nat) (w : World) (H : Rd w rb p) (hp : p ≤ 90000) :
  Calls Try.prog 20 #[.pointer (some ⟨rb, 0, none⟩)] w (DrawnLev rb p w) := by
 have hrb := H.lt
 have ba := alloc_below' w (.cells #[] 27)
 have HG0 := Lib.hid (RowN.lit0 sLevel 27 w (Nat.le_refl w.heap.size))
 have HR1 := Lib.hid (H.grow ba)
 clear H
 go_enter Try.func20, Try.ntmps20
 go_wp2_with fail
 refine (pick rb p _ _ HR1.out (by omega) (by omega) (by omega)).mono ?_
 rintro e w2 ⟨r, rfl, h0, h1, hR2, hK⟩
 have HG2 := Lib.hid (row_kept (l := []) HG0.out hK hrb)
 have HK2 := Lib.hid ((Kept.of_below (fp := [rb]) ba).trans hK)
 clear HG0 HR1 ba hK
 go_wp2
 go_loopw [3, 4] (fun vo i wr => ∃ (k q : Nat) (l : List DLevel), l.length + k ≤ 4 ∧ q + 3 * k ≤ p + 13 ∧ i = .int .i64 k ∧ Hid (RowN sLevel w.heap.size 27 vo (l.map levE) wr) ∧ Rd wr rb q ∧ Hid (Kept [rb] w wr)) (fun _ i _ => (intOf i).toNat)
 case atStart => exact ⟨r.toNat, p + 1, [], by simp; omega, by omega, by go_num, HG2.out, hR2, HK2.out⟩
 case round =>
  clear HG2 hR2 HK2 h0 h1
  obtain ⟨k, q, l, hk, hq, rfl, HG, hR, HK⟩ := hrel
  obtain ⟨ao, co, hvo, -⟩ := HG.out.val
  rw [List.length_map] at hvo
  subst hvo
  by_cases hlt : 0 < k
  ·have i0 : (0 : Int) < (k : Int) := by omega
   go_wp2_with fail
   refine (pick rb q _ _ hR (by omega) (by omega) (by omega)).mono ?_
   rintro e w3 ⟨r3, rfl, h0, h1, hR3, hK3⟩
   have HG3 := Lib.hid (row_kept HG.out hK3 hrb)
   have HK3 := Lib.hid (HK.out.trans hK3)
   clear HG HK hR hK3
   by_cases hr3 : 0 < r3
   ·go_wp2_with fail
    refine (pick rb (q + 1) _ _ hR3 (by omega) (by omega) (by omega)).mono ?_
    rintro e w4 ⟨r4, rfl, h40, h41, hR4, hK4⟩
    have HG5 := Lib.hid (row_kept HG3.out hK4 hrb)
    have HK5 := Lib.hid (HK3.out.trans hK4)
    obtain ⟨o, HO⟩ : ∃ o : Bool, Hid (o = (r4 == 0)) := ⟨_, Lib.hid rfl⟩
    have ho : (r4 == 0) = o := HO.out.symm
    clear HG3 HK3 hR3 hK4
    have bl := alloc_below' w4 (.cells #[.bool true, .bool true, .bool o] 27)
    have HN4 := Lib.hid (heap_alloc_new w4 (.cells #[.bool true, .bool true, .bool o] 27))
    have HG4 := Lib.hid (HG5.out.below bl)
    have HK4 := Lib.hid (HK5.out.trans (Kept.of_below bl))
    have HR4 := Lib.hid (hR4.grow bl)
    have hw4 := HK4.out.size
    clear HG5 HK5 hR4
    go_wp2_with (at_builtin; refine wp_append_rowN (X := [levE ⟨true, true, o⟩]) ti_Level rfl (by decide) _ rfl (.tmp 16) (.tmp 28) rfl w.heap.size (.slice ao l.length co) rfl HG4.out ⟨w4.heap.size, 0, none⟩ 1 1 rfl rfl (fun x hx => by obtain rfl := List.mem_singleton.1 hx; exact ⟨rfl, levE_R _ _, by simp [levE]⟩) (fun x hx => by obtain rfl := List.mem_singleton.1 hx; exact lev_one _ _ _ _ (levE_R w4 _)) (fun j u hj => by rw [addr_add, Nat.zero_add, cell_of_row _ _ _ _ _ _ HN4.out]; simpa [levE] using hj) (by unfold maxLen; simp; omega) (by simp; omega) hw4 ?_; intro v5 w5 hR5 hg5 hp5)
    have hk5 : Kept [rb] w w5 := ⟨hg5.os.trans HK4.out.os, hg5.tape.trans HK4.out.tape, hg5.output.trans HK4.out.output, Nat.le_trans HK4.out.size hg5.size, fun b hb hn => (hg5.block b (by omega) (fun e => by have := (HG4.out.mine b e.symm).1; omega)).trans (HK4.out.block b hb hn)⟩
    have hrd : Rd w5 rb (q + 2) := HR4.out.grownK hg5 (fun b hb => by have := (HG4.out.mine b hb).1; omega)
    go_wp2
    go_roundw
    case rel => exact ⟨k - 1, (q + 2), l ++ [⟨true, true, o⟩], by simp; omega, by omega, by go_num, by show RowN _ _ _ _ _ _; rw [List.map_append]; exact hR5, hrd, hk5⟩
    case measure => simp [intOf]; omega
   ·have hdec : decide (0 < r3) = false := decide_eq_false hr3
    go_wp2_with fail
    refine (pick rb (q + 1) _ _ hR3 (by omega) (by omega) (by omega)).mono ?_
    rintro e w4 ⟨r4, rfl, h40, h41, hR4, hK4⟩
    have HG5 := Lib.hid (row_kept HG3.out hK4 hrb)
    have HK5 := Lib.hid (HK3.out.trans hK4)
    obtain ⟨d, HD⟩ : ∃ d : Bool, Hid (d = (r4 == 0)) := ⟨_, Lib.hid rfl⟩
    have hd : (r4 == 0) = d := HD.out.symm
    clear HG3 HK3 hR3 hK4
    go_wp2_with fail
    refine (pick rb (q + 2) _ _ hR4 (by omega) (by omega) (by omega)).mono ?_
    rintro e w6 ⟨r6, rfl, h60, h61, hR6, hK6⟩
    have HG6 := Lib.hid (row_kept HG5.out hK6 hrb)
    have HK6 := Lib.hid (HK5.out.trans hK6)
    obtain ⟨o, HO⟩ : ∃ o : Bool, Hid (o = (r6 == 0)) := ⟨_, Lib.hid rfl⟩
    have ho : (r6 == 0) = o := HO.out.symm
    clear HG5 HK5 hR4 hK6
    have bl := alloc_below' w6 (.cells #[.bool false, .bool d, .bool o] 27)
    have HN4 := Lib.hid (heap_alloc_new w6 (.cells #[.bool false, .bool d, .bool o] 27))
    have HG4 := Lib.hid (HG6.out.below bl)
    have HK4 := Lib.hid (HK6.out.trans (Kept.of_below bl))
    have HR4 := Lib.hid (hR6.grow bl)
    have hw4 := HK4.out.size
    clear HG6 HK6 hR6
    go_wp2_with (at_builtin; refine wp_append_rowN (X := [levE ⟨false, d, o⟩]) ti_Level rfl (by decide) _ rfl (.tmp 16) (.tmp 28) rfl w.heap.size (.slice ao l.length co) rfl HG4.out ⟨w6.heap.size, 0, none⟩ 1 1 rfl rfl (fun x hx => by obtain rfl := List.mem_singleton.1 hx; exact ⟨rfl, levE_R _ _, by simp [levE]⟩) (fun x hx => by obtain rfl := List.mem_singleton.1 hx; exact lev_one _ _ _ _ (levE_R w6 _)) (fun j u hj => by rw [addr_add, Nat.zero_add, cell_of_row _ _ _ _ _ _ HN4.out]; simpa [levE] using hj) (by unfold maxLen; simp; omega) (by simp; omega) hw4 ?_; intro v5 w5 hR5 hg5 hp5)
    have hk5 : Kept [rb] w w5 := ⟨hg5.os.trans HK4.out.os, hg5.tape.trans HK4.out.tape, hg5.output.trans HK4.out.output, Nat.le_trans HK4.out.size hg5.size, fun b hb hn => (hg5.block b (by omega) (fun e => by have := (HG4.out.mine b e.symm).1; omega)).trans (HK4.out.block b hb hn)⟩
    have hrd : Rd w5 rb (q + 3) := HR4.out.grownK hg5 (fun b hb => by have := (HG4.out.mine b hb).1; omega)
    go_wp2
    go_roundw
    case rel => exact ⟨k - 1, (q + 3), l ++ [⟨false, d, o⟩], by simp; omega, by omega, by go_num, by show RowN _ _ _ _ _ _; rw [List.map_append]; exact hR5, hrd, hk5⟩
    case measure => simp [intOf]; omega
  ·have i0 : ¬ (0 : Int) < (k : Int) := by omega
   go_wp2_with fail
   refine (odd rb q _ _ hR (by omega) (by omega) (by omega)).mono ?_
   rintro e w3 ⟨b, q2, rfl, hq1, hq2, hR3, hK3⟩
   have HG3 := Lib.hid (row_kept HG.out hK3 hrb)
   have HK3 := Lib.hid (HK.out.trans hK3)
   clear HG HK hR hK3
   cases b
   ·go_wp2
    go_ret
    exact ⟨_, l, q2, rfl, HG3.out, by omega, by omega, hR3, HK3.out⟩
   ·have bl := alloc_below' w3 (.cells #[.int .i64 8, .int .i64 9] 3)
    have HX := Lib.hid (heap_alloc_new w3 (.cells #[.int .i64 8, .int .i64 9] 3))
    go_wp2_with fail
    refine (pick rb q2 _ _ (hR3.grow bl) (by omega) (by omega) (by omega)).mono ?_
    rintro e w5 ⟨r5, rfl, h0, h1, hR5, hK5⟩
    have HX5 := Lib.hid ((hK5.block _ (Array.getElem?_eq_some_iff.1 HX.out).1 (by simp only [List.mem_singleton]; have := HK3.out.size; omega)).trans HX.out)
    have HK5 := Lib.hid ((HK3.out.trans (Kept.of_below bl)).trans hK5)
    have hw5 := HK5.out.size
    have p0 := cell_of_row w5 w3.heap.size 0 _ _ _ HX5.out
    have p1 := cell_of_row w5 w3.heap.size 1 _ _ _ HX5.out
    clear HG3 HX bl hR3 HK3 hK5
    have hr5 : r5 = 0 ∨ r5 = 1 := by omega
    rcases hr5 with rfl | rfl
    ·go_wp2_with (at_make; refine wp_make_full ti_Level _ rfl _ _ rfl w.heap.size 8 rfl rfl (by omega) (by unfold maxLen; omega) hw5 ?_; intro w6 hown hgrow)
     have hb6 : Below w5.heap.size w5 w6 := (Below.refl _ _).grown hgrow (Nat.le_refl _) (by simp)
     go_wp2
     go_ret
     exact ⟨_, List.replicate 8 ⟨false, false, false⟩, q2 + 1, rfl, ⟨by rw [← zero_row 8 (.inl rfl), List.length_map, List.length_replicate]; exact hown, by simp [levE, sLevel], by simp [levE, sLevel], by simp [levE]⟩, by simp, by omega, hR5.grow hb6, HK5.out.trans (Kept.of_below hb6)⟩
    ·go_wp2_with (at_make; refine wp_make_full ti_Level _ rfl _ _ rfl w.heap.size 9 rfl rfl (by omega) (by unfold maxLen; omega) hw5 ?_; intro w6 hown hgrow)
     have hb6 : Below w5.heap.size w5 w6 := (Below.refl _ _).grown hgrow (Nat.le_refl _) (by simp)
     go_wp2
     go_ret
     exact ⟨_, List.replicate 9 ⟨false, false, false⟩, q2 + 1, rfl, ⟨by rw [← zero_row 9 (.inr rfl), List.length_map, List.length_replicate]; exact hown, by simp [levE, sLevel], by simp [levE, sLevel], by simp [levE]⟩, by simp, by omega, hR5.grow hb6, HK5.out.trans (Kept.of_below hb6)⟩

theorem DrawLevelsActive (v : Value) (x : List UInt8) (fp : List Nat) (w : World) (H : (sSlice sByte).R w [v] x fp) :
  Calls Try.prog 7 #[v] w fun e w' => ∃ (v : Value) (l : List DLevel) (f : List Nat), e = .returned v ∧ (sSlice sLevel).R w' [v] l f ∧ l.length ≤ 9 ∧ Below w.heap.size w w' := by
 go_enter Try.func7, Try.ntmps7
 go_wp2_with fail
 refine (l20Open _ x fp _ H).mono ?_
 rintro e w1 ⟨rb, rfl, hrb, hR, hB⟩
 go_wp2_with fail
 refine (l20Levels rb 0 w1 hR (by omega)).mono ?_
 rintro e w2 ⟨v2, l, q, rfl, hG, hl, -, -, hK⟩
 obtain ⟨f, h1, -⟩ := hG.read
 rw [levE_d] at h1
 have hB2 := kept_below hB hK hrb hB.size
 go_wp2
 go_ret
 exact ⟨v2, l, f, rfl, h1, hl, hB2⟩
theorem DrawLevelStep (v : Value) (x : List UInt8) (fp : List Nat) (w : World) (H : (sSlice sByte).R w [v] x fp) :
  Calls Try.prog 11 #[v] w fun e w' => ∃ (v : Value) (l : List DLevel) (f : List Nat) (k : Int) (h : Bool), e = .returned (.tuple #[v, .int .i64 k, .bool h]) ∧ (sSlice sLevel).R w' [v] l f ∧ l.length ≤ 9 ∧ -1 ≤ k ∧ k ≤ 11 ∧ Below w.heap.size w w' := by
 go_enter Try.func11, Try.ntmps11
 go_wp2_with fail
 refine (l20Open _ x fp _ H).mono ?_
 rintro e w1 ⟨rb, rfl, hrb, hR, hB⟩
 go_wp2_with fail
 refine (l20Levels rb 0 w1 hR (by omega)).mono ?_
 rintro e w2 ⟨v2, l, q, rfl, hG, hl, hq, hR2, hK⟩
 have hB2 := kept_below hB hK hrb hB.size
 have hrw := hR.lt
 have HG2 := Lib.hid hG
 clear hG hR hK hB
 go_wp2_with fail
 refine (pick rb q _ _ hR2 (by omega) (by omega) (by omega)).mono ?_
 rintro e w3 ⟨r, rfl, h0, h1, hR3, hK3⟩
 have hB3 := kept_below hB2 hK3 hrb hB2.size
 have HG3 := Lib.hid (row_kept HG2.out hK3 hrw)
 have hwr : IntKind.i64.wrap (r - 1) = r - 1 := IntWalk.i64_in _ (by omega)
 clear HG2 hK3 hB2 hR2
 go_wp2_with fail
 refine (pick rb (q + 1) _ _ hR3 (by omega) (by omega) (by omega)).mono ?_
 rintro e w4 ⟨r4, rfl, h40, h41, hR4, hK4⟩
 have hB4 := kept_below hB3 hK4 hrb hB3.size
 have HG4 := Lib.hid (row_kept HG3.out hK4 hrw)
 obtain ⟨f, h1', -⟩ := HG4.out.read
 rw [levE_d] at h1'
 obtain ⟨b, HBB⟩ : ∃ b : Bool, Hid (b = (r4 == 0)) := ⟨_, Lib.hid rfl⟩
 have hbb : (r4 == 0) = b := HBB.out.symm
 go_wp2
 go_ret3
 exact ⟨v2, l, f, r - 1, b, rfl, h1', hl, by omega, by omega, hB4⟩

end Go.Proofs.Ytghikfggcnabeaa
