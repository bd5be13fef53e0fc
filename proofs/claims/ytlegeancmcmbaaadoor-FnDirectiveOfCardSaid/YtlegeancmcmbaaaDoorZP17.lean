/- Texts that the proof of P stands on, in one file. -/
import Derived.Test.YtlegeancmcmbaaaDoorZP16
import Derived.Test.YtlegeancmcmbaaaDoorZP5
import Derived.Test.YtlegeancmcmbaaaDoorZP2
import Derived.Test.YtlegeancmcmbaaaDoorZP4
import Derived.Test.YtlegeancmcmbaaaDoorZP3
import Derived.Test.YtlegeancmcmbaaaDoorZP13
import Derived.Outline
import Derived.Test.YtlegeancmcmbaaaDoorZP14
import Derived.Test.YtlegeancmcmbaaaDoorZP12
import Derived.Test.YtlegeancmcmbaaaDoorZP9
import Derived.Test.YtlegeancmcmbaaaDoorZP8
import Derived.Test.YtlegeancmcmbaaaDoorZP6
import Derived.Test.YtlegeancmcmbaaaDoorZP1
set_option linter.unusedVariables false
set_option linter.unusedSimpArgs false
/- A directive by value: its marks. -/
namespace Go.Proofs.YtlegeancmcmbaaaDoor
open Go.RowKit
end Go.Proofs.YtlegeancmcmbaaaDoor

/- StripComments of the program. -/
namespace Go.Proofs.YtlegeancmcmbaaaDoor
open Go.RowKit
end Go.Proofs.YtlegeancmcmbaaaDoor

/- Of the model: how strongly a mark binds. -/
namespace Go.Proofs.YtlegeancmcmbaaaDoor
open Go.RowKit

def rowsM : List (List (List UInt8)) := [[[124, 124]], [[38, 38]], [[61, 61], [33, 61]], [[60], [62], [60, 61], [62, 61]], [[43], [45]], [[42], [47], [37]]]
def rowM (k : Nat) : List (List UInt8) := rowsM.getD k []
def mkM (k j : Nat) : List UInt8 := (rowM k).getD j []
structure RowsIn (n : Nat) (w : World) : Prop where
 tab : w.heap[n + 7]? = some (.cells #[.slice (some ⟨n + 1, 0, none⟩) 1 1, .slice (some ⟨n + 2, 0, none⟩) 1 1, .slice (some ⟨n + 3, 0, none⟩) 2 2, .slice (some ⟨n + 4, 0, none⟩) 4 4, .slice (some ⟨n + 5, 0, none⟩) 2 2, .slice (some ⟨n + 6, 0, none⟩) 3 3] 45 (0, 0))
 row : ∀ k, (hk : k < 6) → ∃ arr, w.heap[n + 1 + k]? = some (.cells arr 9 (0, 0)) ∧ ∀ j, j < (rowM k).length → arr[j]? = some (.string ⟨(mkM k j).toArray⟩)
theorem RowsIn.below {n : Nat} {w w' : World} (h : RowsIn n w) (hb : Below w.heap.size w w') : RowsIn n w' :=
 ⟨mbox h.tab hb, fun k hk => by obtain ⟨arr, h1, h2⟩ := h.row k hk; exact ⟨arr, mbox h1 hb, h2⟩⟩
end Go.Proofs.YtlegeancmcmbaaaDoor

/- Of the model: a mark between two values. (Made by gen_val5.py.) -/
namespace Go.Proofs.YtlegeancmcmbaaaDoor
open Go.RowKit
theorem toL_eq {x : ByteArray} {l : List UInt8} (h : x.toList = l) : x = ⟨l.toArray⟩ := by
 rw [ByteArray.toList_eq] at h
 subst h
 simp
end Go.Proofs.YtlegeancmcmbaaaDoor

/- Values: what the text of a valid token says of its kind. No program. -/
namespace Go.Proofs.YtlegeancmcmbaaaDoor
open Go.RowKit

theorem vk_head {t : Tok} (h : tokOk t = true) {c : UInt8} {l : List UInt8} (e : t.text.toList = c :: l) : t.kind = cutKind c := by
 have e2 := toL_eq e
 obtain ⟨h0, hk⟩ := (tokOk_facts h).1
 obtain ⟨k, x, s, hd⟩ := t
 obtain rfl : x = ⟨(c :: l).toArray⟩ := e2
 exact hk
theorem isMk_eq {t : Tok} (h : tokOk t = true) {c : UInt8} (hc : cutKind c = 4) : isMk t [c] = (t.text.toList == [c]) := by
 unfold isMk
 cases e : (t.text.toList == [c])
 ·rw [Bool.and_false]
 ·rw [vk_head h (beq_iff_eq.1 e), hc]; rfl
end Go.Proofs.YtlegeancmcmbaaaDoor

/- DirectiveOf and ReadDirective of the program. (Made by gen_doi1.py.) -/
namespace Go.Proofs.YtlegeancmcmbaaaDoor
open Go.RowKit

def MineDir (r : (Int × List Tok) × Bool) (w : World) (e : Ending) (w' : World) : Prop :=
 ∃ (v : Value) (fp : List Nat), e = .returned (.tuple #[.agg #[.int .i64 r.1.1, v], .bool r.2]) ∧ (sSlice sTok).R w' [v] r.1.2 fp ∧ Own w' w.heap.size fp ∧ Below w.heap.size w w'
theorem mineDir_no {r : (Int × List Tok) × Bool} {c : Bool} {w W : World} (h : r = ((0, []), c)) (hb : Below w.heap.size w W) : MineDir r w (.returned (.tuple #[.agg #[.int .i64 0, .slice none 0 0], .bool c])) W :=
 ⟨_, [], by rw [h], by rw [h]; exact slice_empty _ _ _ _ (by simp), Own.nil _ _, hb⟩
theorem kindAt_some {x : List UInt8} : ∀ (d k : Nat), 11 - k ≤ d → 1 ≤ k → kindAt x k ≠ 0 → ∃ j, 1 ≤ j ∧ j < 11 ∧ x = kindTx j := by
 intro d
 induction d with
 | zero => intro k h _ h0; exact absurd (kindAt_out (by omega)) h0
 |
  succ d ih =>
  intro k h h1 h0
  by_cases hk : k ≤ 10
  ·by_cases hx : x = kindTx k
   ·exact ⟨k, h1, by omega, hx⟩
   ·rw [kindAt_next hk hx] at h0; exact ih (k + 1) (by omega) (by omega) h0
  ·exact absurd (kindAt_out hk) h0
theorem kind_letters : ∀ j, j < 11 → 1 ≤ j → ∃ c l, kindTx j = c :: l ∧ cutKind c = 1 := by
 intro j hj h1
 have : j = 1 ∨ j = 2 ∨ j = 3 ∨ j = 4 ∨ j = 5 ∨ j = 6 ∨ j = 7 ∨ j = 8 ∨ j = 9 ∨ j = 10 := by omega
 rcases this with rfl | rfl | rfl | rfl | rfl | rfl | rfl | rfl | rfl | rfl <;> exact ⟨_, _, rfl, by decide⟩
theorem kind_nameD {t : Tok} (h : tokOk t = true) (h0 : kindAt t.text.toList 1 ≠ 0) : t.kind = 1 := by
 obtain ⟨j, h1, h2, hx⟩ := kindAt_some 11 1 (by omega) (by omega) h0
 obtain ⟨c, l, hc, hk⟩ := kind_letters j h2 h1
 rw [vk_head h (hx.trans hc), hk]

set_option maxHeartbeats 16000000 in
set_option maxRecDepth 100000 in
theorem impl_DirectiveOf (v : Value) (l : List Tok) (fp : List Nat) (w : World) (hE : KE w) (H : (sSlice sTok).R w [v] l fp) :
  Calls Tryd.prog 20 #[v] w (MineDir (dirRes l) w) := by
 have hz0 := alloc_below' w (.cells #[.int .i64 0, .slice none 0 0] 30)
 have HZ0 := Lib.hid (heap_alloc_new w (.cells #[.int .i64 0, .slice none 0 0] 30))
 have hs0 : (w.alloc (.cells #[.int .i64 0, .slice none 0 0] 30)).heap.size = w.heap.size + 1 := Array.size_push _
 have HL1 := Lib.hid ((sSlice sTok).below H hz0)
 have HV := Lib.hid (impl_TokensValid v l fp _ HL1.out)
 have HEE := Lib.hid hE
 obtain ⟨a, cap, rfl, hc, hm, hrow⟩ := open_rows H
 unfold maxLen at hm
 have HROW : Hid (0 < l.length → ∃ bb ob, a = some ⟨bb, ob, none⟩) := fun h => by obtain ⟨b, o, -, e, -⟩ := hrow h; exact ⟨b, o, e⟩
 clear H hrow hE
 go_enter Tryd.func20, Tryd.ntmps20
 go_wp2_with fail
 refine HV.out.mono ?_
 rintro e w2 ⟨rfl, hb2⟩
 have hB2 := hz0.trans (hb2.mono hz0.size)
 have HS2 : Hid (w.heap.size + 1 ≤ w2.heap.size) := by have := hb2.size; show _ ≤ _; omega
 have HZ2 := Lib.hid (mbox HZ0.out hb2)
 have HL2 := Lib.hid ((sSlice sTok).below HL1.out hb2)
 clear HV HZ0 HL1 hb2 hz0 hs0
 cases hv : toksOk l
 ·have HF := Lib.hid (dir_bad hv)
  clear hv
  have z0 : w2.cell? ⟨w.heap.size, 0, none⟩ = some (.int .i64 0) := cell_of_row _ _ 0 _ _ _ HZ2.out
  have zf0 : w2.frozen? ⟨w.heap.size, 0, none⟩ = false := frozen_of_row _ _ 0 _ _ HZ2.out
  have z1 : w2.cell? ⟨w.heap.size, 1, none⟩ = some (.slice none 0 0) := cell_of_row _ _ 1 _ _ _ HZ2.out
  have zf1 : w2.frozen? ⟨w.heap.size, 1, none⟩ = false := frozen_of_row _ _ 1 _ _ HZ2.out
  have HS := Lib.hid (blk_set (blk_set HZ2.out 0 (.int .i64 0)) 1 (.slice none 0 0))
  have HBF := Lib.hid ((hB2.setCell (p := ⟨w.heap.size, 0, none⟩) (Nat.le_refl _) (.int .i64 0)).setCell (p := ⟨w.heap.size, 1, none⟩) (Nat.le_refl _) (.slice none 0 0))
  go_wp2
  refine bodyPost_ret (results_cell2 rfl _ _ w.heap.size _ _ _ _ rfl HS.out Tryd.underlying30 rfl (by kernel_rfl)) rfl ?_
  exact mineDir_no HF.out HBF.out
 have HVV := Lib.hid hv
 have hl60 := (toksOk_facts hv).1
 have HOK := Lib.hid (fun j (hj : j < l.length) => (toksOk_facts hv).2 j hj)
 clear hv
 by_cases h0 : 0 < l.length
 rotate_left
 ·have HF := Lib.hid (dir_plain HVV.out (mkD_out h0))
  have hz1 : ((l.length : Int) == 0) = true := by
   have : l.length = 0 := by omega
   rw [this]; rfl
  clear h0
  have z0 : w2.cell? ⟨w.heap.size, 0, none⟩ = some (.int .i64 0) := cell_of_row _ _ 0 _ _ _ HZ2.out
  have zf0 : w2.frozen? ⟨w.heap.size, 0, none⟩ = false := frozen_of_row _ _ 0 _ _ HZ2.out
  have z1 : w2.cell? ⟨w.heap.size, 1, none⟩ = some (.slice none 0 0) := cell_of_row _ _ 1 _ _ _ HZ2.out
  have zf1 : w2.frozen? ⟨w.heap.size, 1, none⟩ = false := frozen_of_row _ _ 1 _ _ HZ2.out
  have HS := Lib.hid (blk_set (blk_set HZ2.out 0 (.int .i64 0)) 1 (.slice none 0 0))
  have HBF := Lib.hid ((hB2.setCell (p := ⟨w.heap.size, 0, none⟩) (Nat.le_refl _) (.int .i64 0)).setCell (p := ⟨w.heap.size, 1, none⟩) (Nat.le_refl _) (.slice none 0 0))
  go_wp2
  refine bodyPost_ret (results_cell2 rfl _ _ w.heap.size _ _ _ _ rfl HS.out Tryd.underlying30 rfl (by kernel_rfl)) rfl ?_
  exact mineDir_no HF.out HBF.out
 have hz1 : ((l.length : Int) == 0) = false := beq_eq_false_iff_ne.2 (by omega)
 obtain ⟨b1, o1, rfl⟩ := HROW.out h0
 obtain ⟨xa, xc, xf, x0, x1, x2, x3, xR, hbb, -⟩ := tok_at HL2.out (j := 0) h0
 have HMK : Hid ((l[0].text.toList == [35]) = mkAt l 0 [35]) := by show _ = _; rw [mkD_in h0, isMk_eq (HOK.out 0 h0) (by decide)]
 obtain ⟨tz, HTZ⟩ : ∃ tz : Tok, Hid (tz = l[0]) := ⟨_, Lib.hid rfl⟩
 rw [show l[0] = tz from HTZ.out.symm] at x0 x1 x2 x3 HMK
 have i1 : (0 : Int) < (l.length : Int) := by omega
 simp only [Nat.zero_mul, Nat.add_zero] at x0 x1 x2 x3
 clear xR x0 x2 x3
 cases hm0 : mkAt l 0 [35]
 ·have HF := Lib.hid (dir_plain HVV.out hm0)
  rw [hm0] at HMK
  have e1 := HMK.out
  have e2 : (tz.text.toList != [35]) = true := by unfold bne; rw [e1]; rfl
  clear hm0 hbb
  have z0 : w2.cell? ⟨w.heap.size, 0, none⟩ = some (.int .i64 0) := cell_of_row _ _ 0 _ _ _ HZ2.out
  have zf0 : w2.frozen? ⟨w.heap.size, 0, none⟩ = false := frozen_of_row _ _ 0 _ _ HZ2.out
  have z1 : w2.cell? ⟨w.heap.size, 1, none⟩ = some (.slice none 0 0) := cell_of_row _ _ 1 _ _ _ HZ2.out
  have zf1 : w2.frozen? ⟨w.heap.size, 1, none⟩ = false := frozen_of_row _ _ 1 _ _ HZ2.out
  have HS := Lib.hid (blk_set (blk_set HZ2.out 0 (.int .i64 0)) 1 (.slice none 0 0))
  have HBF := Lib.hid ((hB2.setCell (p := ⟨w.heap.size, 0, none⟩) (Nat.le_refl _) (.int .i64 0)).setCell (p := ⟨w.heap.size, 1, none⟩) (Nat.le_refl _) (.slice none 0 0))
  go_wp2
  refine bodyPost_ret (results_cell2 rfl _ _ w.heap.size _ _ _ _ rfl HS.out Tryd.underlying30 rfl (by kernel_rfl)) rfl ?_
  exact mineDir_no HF.out HBF.out
 rw [hm0] at HMK
 have HM0 := Lib.hid hm0
 have e1 := HMK.out
 have e2 : (tz.text.toList != [35]) = false := by unfold bne; rw [e1]; rfl
 clear hm0
 by_cases h1 : 1 < l.length
 rotate_left
 ·have HF := Lib.hid (dir_one HVV.out HM0.out h1)
  have j1 : ((l.length : Int) == 1) = true := beq_iff_eq.2 (by omega)
  clear h1 hbb
  have z0 : w2.cell? ⟨w.heap.size, 0, none⟩ = some (.int .i64 0) := cell_of_row _ _ 0 _ _ _ HZ2.out
  have zf0 : w2.frozen? ⟨w.heap.size, 0, none⟩ = false := frozen_of_row _ _ 0 _ _ HZ2.out
  have z1 : w2.cell? ⟨w.heap.size, 1, none⟩ = some (.slice none 0 0) := cell_of_row _ _ 1 _ _ _ HZ2.out
  have zf1 : w2.frozen? ⟨w.heap.size, 1, none⟩ = false := frozen_of_row _ _ 1 _ _ HZ2.out
  have HS := Lib.hid (blk_set (blk_set HZ2.out 0 (.int .i64 0)) 1 (.slice none 0 0))
  have HBF := Lib.hid ((hB2.setCell (p := ⟨w.heap.size, 0, none⟩) (Nat.le_refl _) (.int .i64 0)).setCell (p := ⟨w.heap.size, 1, none⟩) (Nat.le_refl _) (.slice none 0 0))
  go_wp2
  refine bodyPost_ret (results_cell2 rfl _ _ w.heap.size _ _ _ _ rfl HS.out Tryd.underlying30 rfl (by kernel_rfl)) rfl ?_
  exact mineDir_no HF.out HBF.out
 have HH1 := Lib.hid h1
 have j1 : ((l.length : Int) == 1) = false := beq_eq_false_iff_ne.2 (by omega)
 have j2 : (1 : Int) < (l.length : Int) := by omega
 obtain ⟨ya, yc, yf, y0, y1, y2, y3, yR, -, -⟩ := tok_at HL2.out (j := 1) h1
 obtain ⟨tk, HTK⟩ : ∃ tk : Tok, Hid (tk = l[1]) := ⟨_, Lib.hid rfl⟩
 rw [show l[1] = tk from HTK.out.symm] at y0 y1 y2 y3 yR
 simp only [Nat.one_mul] at y0 y1 y2 y3
 have HY : Hid (∀ Q : World, Below w2.heap.size w2 Q → Q.cell? ⟨b1, o1 + 4 + 1, none⟩ = some (.string tk.text)) := fun Q hQ => (hQ.cell (p := ⟨b1, o1 + 4 + 1, none⟩) hbb).trans y1
 have HKO := Lib.hid (fun (Q : World) (hQ : Below w2.heap.size w2 Q) => impl_kindOf tk.text Q ((HEE.out.below hB2 (Nat.le_refl _)).below hQ (Nat.le_refl _)))
 have HKL := Lib.hid (kindAt_le tk.text.toList 11 1 (by omega))
 have HKN : Hid (kindAt tk.text.toList 1 ≠ 0 → l[1].kind = 1) := fun h => kind_nameD (HOK.out 1 h1) (by rw [← HTK.out]; exact h)
 have HKE : Hid (kindAt l[1].text.toList 1 = kindAt tk.text.toList 1) := by show _ = _; rw [HTK.out]
 obtain ⟨K, HK⟩ : ∃ K : Nat, Hid (K = kindAt tk.text.toList 1) := ⟨_, Lib.hid rfl⟩
 rw [show kindAt tk.text.toList 1 = K from HK.out.symm] at HKO HKL HKN HKE
 have hKL := HKL.out
 have HHX : Hid (∀ j, (hj : j < (l.drop 2).length) → (l.drop 2)[j].hidden.length ≤ 2000000) := fun j hj => by
  rw [List.getElem_drop]
  have := tok_hidOkD (HOK.out (2 + j) (by rw [List.length_drop] at hj; omega))
  omega
 obtain ⟨fd, RD, hfd⟩ := slice_drop 2 (by omega) HL2.out
 rw [Option.map_some, Addr.add_lit, show sTok.m = 4 from rfl] at RD
 have s2 : (2 : Int) ≤ (l.length : Int) := by omega
 have s3 : 2 ≤ l.length := by omega
 have s4 : 2 ≤ cap := by omega
 have s5 : (2 : Int) ≤ (cap : Int) := by omega
 have HRD := Lib.hid RD
 clear y0 y1 y2 y3 yR RD hfd HKL
 by_cases hcap : cap = 2
 ·subst hcap
  rw [if_pos rfl, show l.length - 2 = 0 by omega] at HRD
  go_upto_region 7 with fail
  have hcs : Below w2.heap.size w2 w2.drew := belowN (Below.refl _ _) 1
  refine wp_region_noPanic ?_
  refine wp_region_held_drew (S := fun w' => w'.cell? ⟨b1, o1 + 4 + 1, none⟩ = some (.string tk.text)) (by kernel_rfl) (by exact HY.out _ hcs) (fun hHeld => ?_)
  generalize hwd : w2.drew = wd at *
  refine takeH2 0 25 (v := ?_) rfl rfl (by kernel_rfl) (by kernel_rfl) (by kernel_rfl) (fun _ _ _ h => h) (by rfl) (by assumption) ?_ ?_
  rotate_left
  ·intro w hSw; go_simp; (first | done | with_reducible rfl | rfl)
  try simp only [Act.put, List.setIfInBounds_toArray, List.set_cons_zero, List.set_cons_succ]
  refine takeH2 1 26 (v := ?_) rfl rfl (by kernel_rfl) (by kernel_rfl) (by kernel_rfl) (fun _ _ _ h => h) (by rfl) (by assumption) ?_ ?_
  rotate_left
  ·intro w hSw; go_simp; (first | done | with_reducible rfl | rfl)
  try simp only [Act.put, List.setIfInBounds_toArray, List.set_cons_zero, List.set_cons_succ]
  refine takeH2 2 27 (v := ?_) rfl rfl (by kernel_rfl) (by kernel_rfl) (by kernel_rfl) (fun _ _ _ h => h) (by rfl) (by assumption) ?_ ?_
  rotate_left
  ·intro w hSw; go_simp; (first | done | with_reducible rfl | rfl)
  try simp only [Act.put, List.setIfInBounds_toArray, List.set_cons_zero, List.set_cons_succ]
  refine takeH2 3 28 (v := ?_) rfl rfl (by kernel_rfl) (by kernel_rfl) (by kernel_rfl) (fun _ _ _ h => h) (by rfl) (by assumption) ?_ ?_
  rotate_left
  ·intro w hSw; have y1 := hSw; go_simp; (first | done | with_reducible rfl | rfl)
  try simp only [Act.put, List.setIfInBounds_toArray, List.set_cons_zero, List.set_cons_succ]
  refine takeH2 5 30 (v := ?_) rfl rfl (by kernel_rfl) (by kernel_rfl) (by kernel_rfl) (fun _ _ _ h => h) (by rfl) (by assumption) ?_ ?_
  rotate_left
  ·intro w hSw; go_simp; (first | done | with_reducible rfl | rfl)
  try simp only [Act.put, List.setIfInBounds_toArray, List.set_cons_zero, List.set_cons_succ]
  refine takeH2 6 31 (v := ?_) rfl rfl (by kernel_rfl) (by kernel_rfl) (by kernel_rfl) (fun _ _ _ h => h) (by rfl) (by assumption) ?_ ?_
  rotate_left
  ·intro w hSw; go_simp; (first | done | with_reducible rfl | rfl)
  try simp only [Act.put, List.setIfInBounds_toArray, List.set_cons_zero, List.set_cons_succ]
  refine wpAnyH_ready (rs := [4]) (by kernel_rfl) (by simp) ?_
  refine AllReadyH.cons rfl (fun K hK => ?_) AllReadyH.nil
  go_simp
  refine (HKO.out wd hcs).mono ?_
  rintro e w5 ⟨rfl, hb5⟩
  have hx5 := hcs.trans (hb5.mono hcs.size)
  refine hK.out _ _ (HY.out _ hx5) (fun hHeld => ?_)
  clear hK K
  try simp only [Act.put, List.setIfInBounds_toArray, List.set_cons_zero, List.set_cons_succ]
  refine takeH2 7 4 (v := ?_) rfl rfl (by kernel_rfl) (by kernel_rfl) (by kernel_rfl) (fun _ _ _ h => h) (by rfl) (by assumption) ?_ ?_
  rotate_left
  ·intro w hSw; go_simp; (first | done | with_reducible rfl | rfl)
  try simp only [Act.put, List.setIfInBounds_toArray, List.set_cons_zero, List.set_cons_succ]
  refine takeH2 8 5 (v := ?_) rfl rfl (by kernel_rfl) (by kernel_rfl) (by kernel_rfl) (fun _ _ _ h => h) (by rfl) (by assumption) ?_ ?_
  rotate_left
  ·intro w hSw; go_simp; (first | done | with_reducible rfl | rfl)
  try simp only [Act.put, List.setIfInBounds_toArray, List.set_cons_zero, List.set_cons_succ]
  refine wpAnyH_done (by kernel_rfl) ?_ _
  refine NoPanic.normal ?_
  clear hHeld
  have hB5 := hB2.trans (hx5.mono hB2.size)
  have HZ5 := Lib.hid (mbox HZ2.out hx5)
  have HR5 := Lib.hid ((sSlice sTok).below HRD.out hx5)
  have HRF := Lib.hid (fun Q hQ => impl_restFits hKL _ (l.drop 2) fd Q (by rw [List.length_drop]; omega) ((sSlice sTok).below HR5.out hQ))
  have HCT := Lib.hid (fun (Q : World) (hQ : Below w5.heap.size w5 Q) => impl_copyTokens _ (l.drop 2) fd Q (by rw [List.length_drop]; omega) HHX.out ((sSlice sTok).below HR5.out hQ))
  have HS5 : Hid (w.heap.size + 1 ≤ w5.heap.size) := by have := hx5.size; have := HS2.out; show _ ≤ _; omega
  clear hx5 hb5 hwd hcs HZ2 HL2 HRD HKO HR5 s2 s3 s5
  cases hr : fitsR K (l.drop 2)
  ·have HF : Hid (dirRes l = ((0, []), false)) := dir_no HVV.out HM0.out HH1.out (fun h => by
    have hr1 : restOk K (l.drop 2) = true := (congrArg (fun q => restOk q (l.drop 2)) HKE.out).symm.trans h.2.2
    have hr2 : K ≠ 0 := fun e => h.2.1 (HKE.out.trans e)
    have h9 : fitsR K (l.drop 2) = true := by unfold fitsR; rw [hr1, decide_eq_true hr2]; rfl
    rw [hr] at h9; exact absurd h9 (by simp))
   rw [hr] at HRF
   clear hr HCT
   go_wp2_with fail
   refine (HRF.out _ (Below.refl _ _)).mono ?_
   rintro e w6 ⟨rfl, hb6⟩
   have hB6 := hB5.trans (hb6.mono hB5.size)
   have HZ6 := Lib.hid (mbox HZ5.out hb6)
   clear HRF hb6 HZ5
   have z0 : w6.cell? ⟨w.heap.size, 0, none⟩ = some (.int .i64 0) := cell_of_row _ _ 0 _ _ _ HZ6.out
   have zf0 : w6.frozen? ⟨w.heap.size, 0, none⟩ = false := frozen_of_row _ _ 0 _ _ HZ6.out
   have z1 : w6.cell? ⟨w.heap.size, 1, none⟩ = some (.slice none 0 0) := cell_of_row _ _ 1 _ _ _ HZ6.out
   have zf1 : w6.frozen? ⟨w.heap.size, 1, none⟩ = false := frozen_of_row _ _ 1 _ _ HZ6.out
   have HS := Lib.hid (blk_set (blk_set HZ6.out 0 (.int .i64 0)) 1 (.slice none 0 0))
   have HBF := Lib.hid ((hB6.setCell (p := ⟨w.heap.size, 0, none⟩) (Nat.le_refl _) (.int .i64 0)).setCell (p := ⟨w.heap.size, 1, none⟩) (Nat.le_refl _) (.slice none 0 0))
   go_wp2
   refine bodyPost_ret (results_cell2 rfl _ _ w.heap.size _ _ _ _ rfl HS.out Tryd.underlying30 rfl (by kernel_rfl)) rfl ?_
   exact mineDir_no HF.out HBF.out
  have HK0 : K ≠ 0 ∧ restOk K (l.drop 2) = true := by
   unfold fitsR at hr
   simpa using hr
  have HF := Lib.hid (dir_yes HVV.out HM0.out HH1.out (HKN.out HK0.1) HKE.out HK0.1 HK0.2)
  rw [hr] at HRF
  clear hr HK0
  go_wp2_with fail
  refine (HRF.out _ (Below.refl _ _)).mono ?_
  rintro e w6 ⟨rfl, hb6⟩
  have hB6 := hB5.trans (hb6.mono hB5.size)
  have HZ6 := Lib.hid (mbox HZ5.out hb6)
  have HC6 := Lib.hid (HCT.out w6 hb6)
  have HS6 : Hid (w.heap.size + 1 ≤ w6.heap.size) := by have := hb6.size; have := HS5.out; show _ ≤ _; omega
  clear HRF hb6 HZ5 HCT HS5 hB5
  go_wp2_with fail
  refine HC6.out.mono ?_
  rintro e w7 ⟨v7, f7, rfl, R7, O7, hb7⟩
  have hB7 := hB6.trans (hb7.mono hB6.size)
  have HZ7 := Lib.hid (mbox HZ6.out hb7)
  obtain ⟨a7, c7, rfl, -⟩ := open_rows R7
  obtain ⟨N, HN⟩ : ∃ N : Nat, Hid (N = (l.drop 2).length) := ⟨_, Lib.hid rfl⟩
  rw [show (l.drop 2).length = N from HN.out.symm] at R7 ⊢
  have hnf : w.heap.size ∉ f7 := fun h => by have := (O7.2 _ h).1; have := HS6.out; omega
  have HOF : Hid (Own w7 (w.heap.size + 1) f7) := O7.lower HS6.out
  have z0 : w7.cell? ⟨w.heap.size, 0, none⟩ = some (.int .i64 0) := cell_of_row _ _ 0 _ _ _ HZ7.out
  have zf0 : w7.frozen? ⟨w.heap.size, 0, none⟩ = false := frozen_of_row _ _ 0 _ _ HZ7.out
  have z1 : w7.cell? ⟨w.heap.size, 1, none⟩ = some (.slice none 0 0) := cell_of_row _ _ 1 _ _ _ HZ7.out
  have zf1 : w7.frozen? ⟨w.heap.size, 1, none⟩ = false := frozen_of_row _ _ 1 _ _ HZ7.out
  have HS := Lib.hid (blk_set (blk_set HZ7.out 0 (.int .i64 (K : Nat))) 1 (.slice a7 N c7))
  have HBF := Lib.hid ((hB7.setCell (p := ⟨w.heap.size, 0, none⟩) (Nat.le_refl _) (.int .i64 (K : Nat))).setCell (p := ⟨w.heap.size, 1, none⟩) (Nat.le_refl _) (.slice a7 N c7))
  have HRR := Lib.hid ((sSlice sTok).setB ((sSlice sTok).setB R7 hnf 0 (.int .i64 (K : Nat))) hnf 1 (.slice a7 N c7))
  have HOO : Hid (Own ((w7.setCell ⟨w.heap.size, 0, none⟩ (.int .i64 (K : Nat))).setCell ⟨w.heap.size, 1, none⟩ (.slice a7 N c7)) w.heap.size f7) := ((HOF.out.lower (Nat.le_succ _)).setCell _ _).setCell _ _
  clear R7 O7 hb7 HC6 hnf HOF
  go_wp2
  refine bodyPost_ret (results_cell2 rfl _ _ w.heap.size _ _ _ _ rfl HS.out Tryd.underlying30 rfl (by kernel_rfl)) rfl ?_
  exact ⟨.slice a7 N c7, f7, by rw [HF.out] <;> rfl, by rw [HF.out]; exact HRR.out, HOO.out, HBF.out⟩
 ·rw [if_neg hcap] at HRD
  go_upto_region 7 with fail
  have hcs : Below w2.heap.size w2 w2.drew := belowN (Below.refl _ _) 1
  refine wp_region_noPanic ?_
  refine wp_region_held_drew (S := fun w' => w'.cell? ⟨b1, o1 + 4 + 1, none⟩ = some (.string tk.text)) (by kernel_rfl) (by exact HY.out _ hcs) (fun hHeld => ?_)
  generalize hwd : w2.drew = wd at *
  refine takeH2 0 25 (v := ?_) rfl rfl (by kernel_rfl) (by kernel_rfl) (by kernel_rfl) (fun _ _ _ h => h) (by rfl) (by assumption) ?_ ?_
  rotate_left
  ·intro w hSw; go_simp; (first | done | with_reducible rfl | rfl)
  try simp only [Act.put, List.setIfInBounds_toArray, List.set_cons_zero, List.set_cons_succ]
  refine takeH2 1 26 (v := ?_) rfl rfl (by kernel_rfl) (by kernel_rfl) (by kernel_rfl) (fun _ _ _ h => h) (by rfl) (by assumption) ?_ ?_
  rotate_left
  ·intro w hSw; go_simp; (first | done | with_reducible rfl | rfl)
  try simp only [Act.put, List.setIfInBounds_toArray, List.set_cons_zero, List.set_cons_succ]
  refine takeH2 2 27 (v := ?_) rfl rfl (by kernel_rfl) (by kernel_rfl) (by kernel_rfl) (fun _ _ _ h => h) (by rfl) (by assumption) ?_ ?_
  rotate_left
  ·intro w hSw; go_simp; (first | done | with_reducible rfl | rfl)
  try simp only [Act.put, List.setIfInBounds_toArray, List.set_cons_zero, List.set_cons_succ]
  refine takeH2 3 28 (v := ?_) rfl rfl (by kernel_rfl) (by kernel_rfl) (by kernel_rfl) (fun _ _ _ h => h) (by rfl) (by assumption) ?_ ?_
  rotate_left
  ·intro w hSw; have y1 := hSw; go_simp; (first | done | with_reducible rfl | rfl)
  try simp only [Act.put, List.setIfInBounds_toArray, List.set_cons_zero, List.set_cons_succ]
  refine takeH2 5 30 (v := ?_) rfl rfl (by kernel_rfl) (by kernel_rfl) (by kernel_rfl) (fun _ _ _ h => h) (by rfl) (by assumption) ?_ ?_
  rotate_left
  ·intro w hSw; go_simp; (first | done | with_reducible rfl | rfl)
  try simp only [Act.put, List.setIfInBounds_toArray, List.set_cons_zero, List.set_cons_succ]
  refine takeH2 6 31 (v := ?_) rfl rfl (by kernel_rfl) (by kernel_rfl) (by kernel_rfl) (fun _ _ _ h => h) (by rfl) (by assumption) ?_ ?_
  rotate_left
  ·intro w hSw; go_simp; (first | done | with_reducible rfl | rfl)
  try simp only [Act.put, List.setIfInBounds_toArray, List.set_cons_zero, List.set_cons_succ]
  refine wpAnyH_ready (rs := [4]) (by kernel_rfl) (by simp) ?_
  refine AllReadyH.cons rfl (fun K hK => ?_) AllReadyH.nil
  go_simp
  refine (HKO.out wd hcs).mono ?_
  rintro e w5 ⟨rfl, hb5⟩
  have hx5 := hcs.trans (hb5.mono hcs.size)
  refine hK.out _ _ (HY.out _ hx5) (fun hHeld => ?_)
  clear hK K
  try simp only [Act.put, List.setIfInBounds_toArray, List.set_cons_zero, List.set_cons_succ]
  refine takeH2 7 4 (v := ?_) rfl rfl (by kernel_rfl) (by kernel_rfl) (by kernel_rfl) (fun _ _ _ h => h) (by rfl) (by assumption) ?_ ?_
  rotate_left
  ·intro w hSw; go_simp; (first | done | with_reducible rfl | rfl)
  try simp only [Act.put, List.setIfInBounds_toArray, List.set_cons_zero, List.set_cons_succ]
  refine takeH2 8 5 (v := ?_) rfl rfl (by kernel_rfl) (by kernel_rfl) (by kernel_rfl) (fun _ _ _ h => h) (by rfl) (by assumption) ?_ ?_
  rotate_left
  ·intro w hSw; go_simp; (first | done | with_reducible rfl | rfl)
  try simp only [Act.put, List.setIfInBounds_toArray, List.set_cons_zero, List.set_cons_succ]
  refine wpAnyH_done (by kernel_rfl) ?_ _
  refine NoPanic.normal ?_
  clear hHeld
  have hB5 := hB2.trans (hx5.mono hB2.size)
  have HZ5 := Lib.hid (mbox HZ2.out hx5)
  have HR5 := Lib.hid ((sSlice sTok).below HRD.out hx5)
  have HRF := Lib.hid (fun Q hQ => impl_restFits hKL _ (l.drop 2) fd Q (by rw [List.length_drop]; omega) ((sSlice sTok).below HR5.out hQ))
  have HCT := Lib.hid (fun (Q : World) (hQ : Below w5.heap.size w5 Q) => impl_copyTokens _ (l.drop 2) fd Q (by rw [List.length_drop]; omega) HHX.out ((sSlice sTok).below HR5.out hQ))
  have HS5 : Hid (w.heap.size + 1 ≤ w5.heap.size) := by have := hx5.size; have := HS2.out; show _ ≤ _; omega
  clear hx5 hb5 hwd hcs HZ2 HL2 HRD HKO HR5 s2 s3 s5
  cases hr : fitsR K (l.drop 2)
  ·have HF : Hid (dirRes l = ((0, []), false)) := dir_no HVV.out HM0.out HH1.out (fun h => by
    have hr1 : restOk K (l.drop 2) = true := (congrArg (fun q => restOk q (l.drop 2)) HKE.out).symm.trans h.2.2
    have hr2 : K ≠ 0 := fun e => h.2.1 (HKE.out.trans e)
    have h9 : fitsR K (l.drop 2) = true := by unfold fitsR; rw [hr1, decide_eq_true hr2]; rfl
    rw [hr] at h9; exact absurd h9 (by simp))
   rw [hr] at HRF
   clear hr HCT
   go_wp2_with fail
   refine (HRF.out _ (Below.refl _ _)).mono ?_
   rintro e w6 ⟨rfl, hb6⟩
   have hB6 := hB5.trans (hb6.mono hB5.size)
   have HZ6 := Lib.hid (mbox HZ5.out hb6)
   clear HRF hb6 HZ5
   have z0 : w6.cell? ⟨w.heap.size, 0, none⟩ = some (.int .i64 0) := cell_of_row _ _ 0 _ _ _ HZ6.out
   have zf0 : w6.frozen? ⟨w.heap.size, 0, none⟩ = false := frozen_of_row _ _ 0 _ _ HZ6.out
   have z1 : w6.cell? ⟨w.heap.size, 1, none⟩ = some (.slice none 0 0) := cell_of_row _ _ 1 _ _ _ HZ6.out
   have zf1 : w6.frozen? ⟨w.heap.size, 1, none⟩ = false := frozen_of_row _ _ 1 _ _ HZ6.out
   have HS := Lib.hid (blk_set (blk_set HZ6.out 0 (.int .i64 0)) 1 (.slice none 0 0))
   have HBF := Lib.hid ((hB6.setCell (p := ⟨w.heap.size, 0, none⟩) (Nat.le_refl _) (.int .i64 0)).setCell (p := ⟨w.heap.size, 1, none⟩) (Nat.le_refl _) (.slice none 0 0))
   go_wp2
   refine bodyPost_ret (results_cell2 rfl _ _ w.heap.size _ _ _ _ rfl HS.out Tryd.underlying30 rfl (by kernel_rfl)) rfl ?_
   exact mineDir_no HF.out HBF.out
  have HK0 : K ≠ 0 ∧ restOk K (l.drop 2) = true := by
   unfold fitsR at hr
   simpa using hr
  have HF := Lib.hid (dir_yes HVV.out HM0.out HH1.out (HKN.out HK0.1) HKE.out HK0.1 HK0.2)
  rw [hr] at HRF
  clear hr HK0
  go_wp2_with fail
  refine (HRF.out _ (Below.refl _ _)).mono ?_
  rintro e w6 ⟨rfl, hb6⟩
  have hB6 := hB5.trans (hb6.mono hB5.size)
  have HZ6 := Lib.hid (mbox HZ5.out hb6)
  have HC6 := Lib.hid (HCT.out w6 hb6)
  have HS6 : Hid (w.heap.size + 1 ≤ w6.heap.size) := by have := hb6.size; have := HS5.out; show _ ≤ _; omega
  clear HRF hb6 HZ5 HCT HS5 hB5
  go_wp2_with fail
  refine HC6.out.mono ?_
  rintro e w7 ⟨v7, f7, rfl, R7, O7, hb7⟩
  have hB7 := hB6.trans (hb7.mono hB6.size)
  have HZ7 := Lib.hid (mbox HZ6.out hb7)
  obtain ⟨a7, c7, rfl, -⟩ := open_rows R7
  obtain ⟨N, HN⟩ : ∃ N : Nat, Hid (N = (l.drop 2).length) := ⟨_, Lib.hid rfl⟩
  rw [show (l.drop 2).length = N from HN.out.symm] at R7 ⊢
  have hnf : w.heap.size ∉ f7 := fun h => by have := (O7.2 _ h).1; have := HS6.out; omega
  have HOF : Hid (Own w7 (w.heap.size + 1) f7) := O7.lower HS6.out
  have z0 : w7.cell? ⟨w.heap.size, 0, none⟩ = some (.int .i64 0) := cell_of_row _ _ 0 _ _ _ HZ7.out
  have zf0 : w7.frozen? ⟨w.heap.size, 0, none⟩ = false := frozen_of_row _ _ 0 _ _ HZ7.out
  have z1 : w7.cell? ⟨w.heap.size, 1, none⟩ = some (.slice none 0 0) := cell_of_row _ _ 1 _ _ _ HZ7.out
  have zf1 : w7.frozen? ⟨w.heap.size, 1, none⟩ = false := frozen_of_row _ _ 1 _ _ HZ7.out
  have HS := Lib.hid (blk_set (blk_set HZ7.out 0 (.int .i64 (K : Nat))) 1 (.slice a7 N c7))
  have HBF := Lib.hid ((hB7.setCell (p := ⟨w.heap.size, 0, none⟩) (Nat.le_refl _) (.int .i64 (K : Nat))).setCell (p := ⟨w.heap.size, 1, none⟩) (Nat.le_refl _) (.slice a7 N c7))
  have HRR := Lib.hid ((sSlice sTok).setB ((sSlice sTok).setB R7 hnf 0 (.int .i64 (K : Nat))) hnf 1 (.slice a7 N c7))
  have HOO : Hid (Own ((w7.setCell ⟨w.heap.size, 0, none⟩ (.int .i64 (K : Nat))).setCell ⟨w.heap.size, 1, none⟩ (.slice a7 N c7)) w.heap.size f7) := ((HOF.out.lower (Nat.le_succ _)).setCell _ _).setCell _ _
  clear R7 O7 hb7 HC6 hnf HOF
  go_wp2
  refine bodyPost_ret (results_cell2 rfl _ _ w.heap.size _ _ _ _ rfl HS.out Tryd.underlying30 rfl (by kernel_rfl)) rfl ?_
  exact ⟨.slice a7 N c7, f7, by rw [HF.out] <;> rfl, by rw [HF.out]; exact HRR.out, HOO.out, HBF.out⟩

end Go.Proofs.YtlegeancmcmbaaaDoor

/- The law's fixed answer. -/
namespace Go.Proofs.YtlegeancmcmbaaaDoor
open Go.RowKit

theorem small_ok {s : ByteArray} (h : s.size ≤ 1000000) : s.size ≤ maxLen := by unfold maxLen; omega
theorem line_ab (w : World) : Calls Tryd.prog 31 #[.string ⟨#[97, 32, 98]⟩] w fun e w' => e = .returned (.bool true) ∧ w = w' := by
 have := impl_LineValid ⟨#[97, 32, 98]⟩ w (small_ok (by decide))
 rwa [show lineOk ⟨#[97, 32, 98]⟩ = true from by decide] at this
theorem line_nl (w : World) : Calls Tryd.prog 31 #[.string ⟨#[10]⟩] w fun e w' => e = .returned (.bool false) ∧ w = w' := by
 have := impl_LineValid ⟨#[10]⟩ w (small_ok (by decide))
 rwa [show lineOk ⟨#[10]⟩ = false from by decide] at this
theorem alive (w : World) : Calls Tryd.prog 12 #[] w fun e w' => e = .returned (.bool true) ∧ w = w' := by
 go_enter Tryd.func12, Tryd.ntmps12
 go_wp2_with fail
 refine (line_ab _).mono ?_
 rintro e w' ⟨rfl, rfl⟩
 go_wp2_with fail
 refine (line_nl _).mono ?_
 rintro e w' ⟨rfl, rfl⟩
 go_wp2
 go_ret
 exact ⟨rfl, rfl⟩

end Go.Proofs.YtlegeancmcmbaaaDoor
