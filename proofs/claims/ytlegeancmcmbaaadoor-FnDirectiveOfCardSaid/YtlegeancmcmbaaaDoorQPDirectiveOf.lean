/- Directives begin with a mark: tokens that do not are none; the name of its kind is the second token. For every input. No conditions. -/
import Derived.Test.YtlegeancmcmbaaaDoorZP13
import Derived.Test.YtlegeancmcmbaaaDoorZP17
import Derived.Test.YtlegeancmcmbaaaDoorZP8
import Derived.Test.YtlegeancmcmbaaaDoorZP9
import Derived.Test.YtlegeancmcmbaaaDoorTie
import Derived.Test.YtlegeancmcmbaaaDoorCards
import Derived.SevenTiedAt
set_option linter.unusedVariables false
set_option linter.unusedSimpArgs false
namespace Go.Proofs.YtlegeancmcmbaaaDoor.lawDirectiveOf
open Go.ChangeShapes Go.WideShapes Go.ChangeAt Go.RowKit Go.ChangeMaps

theorem dir_none {l r : List Tok} (h : dirRes l = ((0, r), true)) : r = [] := by
 unfold dirRes at h
 repeat' split at h
 all_goals simp at h
 all_goals first | exact h | (rename_i h9; exact absurd h.1 h9.2.1) | simp [h]
theorem dir_parts {l r : List Tok} {k : Int} (h : dirRes l = ((k, r), true)) (h0 : k ≠ 0) : ∃ n : Nat, k = (n : Int) ∧ 1 ≤ n ∧ n ≤ 10 ∧ ∃ h1 : 1 < l.length, l[0].text.toList = [35] ∧ l[1].text.toList = kindTx n ∧ r = l.drop 2 := by
 unfold dirRes at h
 split at h
 ·split at h
  ·rename_i hm
   split at h
   ·rename_i h1
    split at h
    ·rename_i hh
     simp only [Prod.mk.injEq, and_true] at h
     obtain ⟨rfl, rfl⟩ := h
     have hl := kindAt_le l[1].text.toList 11 1 (by omega)
     obtain ⟨hk, hn, -⟩ := hh
     refine ⟨_, rfl, by omega, hl, h1, ?_, ?_, rfl⟩
     ·rw [mkD_in (by omega)] at hm
      unfold isMk at hm
      rw [Bool.and_eq_true] at hm
      exact beq_iff_eq.1 hm.2
     ·have key : ∀ d k, 11 - k ≤ d → kindAt l[1].text.toList k ≠ 0 → l[1].text.toList = kindTx (kindAt l[1].text.toList k) := by
       intro d
       induction d with
       | zero => intro k h h0; exact absurd (kindAt_out (by omega)) h0
       |
        succ d ih =>
        intro k h h0
        by_cases hk : k ≤ 10
        ·by_cases hx : l[1].text.toList = kindTx k
         ·rw [kindAt_hit hk hx]; exact hx
         ·rw [kindAt_next hk hx] at h0 ⊢; exact ih (k + 1) (by omega) h0
        ·exact absurd (kindAt_out hk) h0
      exact key 11 1 (by omega) hn
    ·simp only [Prod.mk.injEq] at h; exact absurd h.2 (by simp)
   ·simp only [Prod.mk.injEq] at h; exact absurd h.2 (by simp)
  ·simp only [Prod.mk.injEq] at h; exact absurd h.1.1.symm h0
 ·simp only [Prod.mk.injEq] at h; exact absurd h.2 (by simp)

set_option maxHeartbeats 4000000 in
theorem sameDir_same (k : Int) (v1 v2 : Value) (r : List Tok) (f1 f2 : List Nat) (w : World) (H1 : (sSlice sTok).R w [v1] r f1) (H2 : (sSlice sTok).R w [v2] r f2) :
  Calls Tryd.prog 16 #[.agg #[.int .i64 k, v1], .agg #[.int .i64 k, v2]] w fun e w' => e = .returned (.bool true) ∧ Below w.heap.size w w' := by
 obtain ⟨a1, c1, rfl, -⟩ := open_rows H1
 obtain ⟨a2, c2, rfl, -⟩ := open_rows H2
 have b1 := alloc_below' w (.cells #[.int .i64 k, .slice a1 r.length c1] 30)
 have b2 := b1.trans ((alloc_below' (w.alloc (.cells #[.int .i64 k, .slice a1 r.length c1] 30)) (.cells #[.int .i64 k, .slice a2 r.length c2] 30)).mono b1.size)
 have HC := Lib.hid (sameTokens_same _ _ r f1 f2 _ ((sSlice sTok).below H1 b2) ((sSlice sTok).below H2 b2))
 have e1 : (k == k) = true := by simp
 clear H1 H2
 go_enter Tryd.func16, Tryd.ntmps16
 go_wp2_with fail
 refine HC.out.mono ?_
 rintro e w3 ⟨rfl, hb3⟩
 go_wp2
 go_ret
 exact ⟨rfl, b2.trans (hb3.mono b2.size)⟩

set_option maxHeartbeats 8000000 in
set_option maxRecDepth 100000 in
theorem walk (v0 : Value) (x0 : List UInt8) (fp0 : List Nat) (w : World) (H0 : (sSlice sByte).R w [v0] x0 fp0) (hE : KE w) :
  Calls Tryd.prog 8 #[v0] w fun e w' => e = .returned (.bool true) ∧ Below w.heap.size w w' := by
 have HH := Lib.hid H0
 obtain ⟨a, cap, hv, hc, hm, h⟩ := H0
 obtain rfl : v0 = .slice a x0.length cap := by simpa using hv
 unfold maxLen at hm
 clear h hv
 go_enter Tryd.func8, Tryd.ntmps8
 by_cases hbig : 1048576 < x0.length
 ·go_wp2
  go_ret
  exact ⟨rfl, Below.refl _ _⟩
 go_wp2_with fail
 refine (DrawDirectiveOf _ x0 fp0 _ HH.out).mono ?_
 rintro e w1 ⟨v1, L0, rfl, hE0, hok, hlen, hB⟩
 obtain ⟨f1, r1, -⟩ := hE0.read
 have hxx : ∀ k, (hk : k < (L0.map fun x : Elem Tok => x.d).length) → (L0.map fun x : Elem Tok => x.d)[k].hidden.length ≤ 2000000 := fun k hk => by
  rw [List.getElem_map]
  have := (hok _ (List.getElem_mem (by simpa using hk : k < L0.length))).2.2.2
  omega
 have hll : (L0.map fun x : Elem Tok => x.d).length ≤ 61 := by rw [List.length_map]; exact hlen
 clear hE0 hok hlen HH
 generalize (L0.map fun x : Elem Tok => x.d) = L at r1 hxx hll
 have HI1 := Lib.hid (impl_DirectiveOf v1 L f1 w1 (hE.below hB (Nat.le_refl _)) r1)
 have HS := Lib.hid (fun (W : World) (hW : Below w1.heap.size w1 W) => spec_DirectiveOf v1 L f1 W (by omega) hxx ((sSlice sTok).below r1 hW))
 have HL1 := Lib.hid r1
 obtain ⟨al, cl, rfl, hcl, hml, hrow⟩ := open_rows r1
 unfold maxLen at hml
 have HROW : Hid (0 < L.length → ∃ bb ob, al = some ⟨bb, ob, none⟩) := fun h => by obtain ⟨b, o, -, e, -⟩ := hrow h; exact ⟨b, o, e⟩
 rcases hq : dirRes L with ⟨⟨k, r⟩, ok⟩
 unfold RetDir at HS
 unfold MineDir at HI1
 rw [hq] at HS HI1
 try dsimp only at HS HI1
 have HQ := Lib.hid hq
 clear hq r1 hrow hxx
 go_wp2_with fail
 refine HI1.out.mono ?_
 rintro e w2 ⟨v2, f2, rfl, R2', -, hb2⟩
 have HR2 := Lib.hid R2'
 obtain ⟨a2, c2, rfl, -⟩ := open_rows R2'
 have ba := alloc_below' w2 (.cells #[.int .i64 k, .slice a2 r.length c2] 30)
 have HX2 := Lib.hid (heap_alloc_new w2 (.cells #[.int .i64 k, .slice a2 r.length c2] 30))
 have hB2 := hB.trans (hb2.mono hB.size)
 have hB2' := hB2.trans (ba.mono hB2.size)
 have hb12 := hb2.trans (ba.mono hb2.size)
 have HRA := Lib.hid ((sSlice sTok).below HR2.out ba)
 clear HI1 R2' HR2 hb2
 go_upto_region 5 with fail
 generalize (w2.alloc (.cells #[.int .i64 k, .slice a2 r.length c2] 30)) = W2 at *
 clear ba
 go_wp2_with fail
 refine (HS.out _ hb12).mono ?_
 rintro e w3 ⟨v3, f3, rfl, R3', -, hb3⟩
 have HR3 := Lib.hid R3'
 obtain ⟨a3, c3, rfl, -⟩ := open_rows R3'
 have ba := alloc_below' w3 (.cells #[.int .i64 k, .slice a3 r.length c3] 30)
 have HX3 := Lib.hid (heap_alloc_new w3 (.cells #[.int .i64 k, .slice a3 r.length c3] 30))
 have hB3 := hB2'.trans (hb3.mono hB2'.size)
 have hB3' := hB3.trans (ba.mono hB3.size)
 have hb13 := hb12.trans (hb3.mono hb12.size)
 have hb13' := hb13.trans (ba.mono hb13.size)
 have HX2' := Lib.hid (mbox (mbox HX2.out hb3) ba)
 have HRB := Lib.hid ((sSlice sTok).below ((sSlice sTok).below HRA.out hb3) ba)
 have HRC := Lib.hid ((sSlice sTok).below HR3.out ba)
 clear R3' HR3 HX2 HRA hb3 hB2 hB2' HS hb12 hb13
 go_upto_region 6 with fail
 generalize (w3.alloc (.cells #[.int .i64 k, .slice a3 r.length c3] 30)) = W3 at *
 have q0 := cell_of_row W3 w2.heap.size 0 _ _ _ HX2'.out
 have q1 := cell_of_row W3 w2.heap.size 1 _ _ _ HX2'.out
 have r0 := cell_of_row W3 w3.heap.size 0 _ _ _ HX3.out
 have r1 := cell_of_row W3 w3.heap.size 1 _ _ _ HX3.out
 have HSD := Lib.hid (sameDir_same k _ _ r f2 f3 W3 HRB.out HRC.out)
 have hoo : (ok != ok) = false := by simp
 clear ba
 go_wp2_with fail
 refine HSD.out.mono ?_
 rintro e w4 ⟨rfl, hb4⟩
 have hB4 := hB3'.trans (hb4.mono hB3'.size)
 have hb14 := hb13'.trans (hb4.mono hb13'.size)
 have HX4 := Lib.hid (mbox HX2'.out hb4)
 have HR4 := Lib.hid ((sSlice sTok).below HRB.out hb4)
 have HL4 := Lib.hid ((sSlice sTok).below HL1.out hb14)
 have hE4 := hE.below hB4 (Nat.le_refl _)
 clear q0 q1 r0 r1 HSD HX3 HRC HRB HX2' hb14 hb13' hb4 hB3' hB3 HL1 hB
 cases ok
 ·obtain ⟨rfl, rfl⟩ := dir_zero HQ.out
  have q0 := cell_of_row w4 w2.heap.size 0 _ _ _ HX4.out
  have q1 := cell_of_row w4 w2.heap.size 1 _ _ _ HX4.out
  go_wp2_with (go_at_call 12; refine (alive _).mono ?_; rintro e w' ⟨rfl, rfl⟩)
  go_ret
  exact ⟨rfl, hB4⟩
 by_cases hk0 : k = 0
 ·subst hk0
  obtain rfl := dir_none HQ.out
  have q0 := cell_of_row w4 w2.heap.size 0 _ _ _ HX4.out
  have q1 := cell_of_row w4 w2.heap.size 1 _ _ _ HX4.out
  go_wp2_with (go_at_call 12; refine (alive _).mono ?_; rintro e w' ⟨rfl, rfl⟩)
  go_ret
  exact ⟨rfl, hB4⟩
 have hke : (k == 0) = false := by simp [hk0]
 obtain ⟨n, rfl, hn1, hn10, h1, ht0, ht1, rfl⟩ := dir_parts HQ.out hk0
 obtain ⟨b1, o1, rfl⟩ := HROW.out (by omega)
 obtain ⟨xa, xc, xf, -, x1, -, -, -, hbb, -⟩ := tok_at HL4.out (j := 0) (by omega)
 obtain ⟨ya, yc, yf, -, y1, -, -, -, -, -⟩ := tok_at HL4.out (j := 1) h1
 simp only [Nat.zero_mul, Nat.add_zero, Nat.one_mul] at x1 y1
 obtain ⟨s0, HS0⟩ : ∃ s : ByteArray, Hid (s = L[0].text) := ⟨_, Lib.hid rfl⟩
 obtain ⟨s1, HS1⟩ : ∃ s : ByteArray, Hid (s = L[1].text) := ⟨_, Lib.hid rfl⟩
 rw [show L[0].text = s0 from HS0.out.symm] at x1 ht0
 rw [show L[1].text = s1 from HS1.out.symm] at y1 ht1
 obtain ⟨kx, HKX⟩ : ∃ kx : ByteArray, Hid (kx = kindRes (n : Int)) := ⟨_, Lib.hid rfl⟩
 have HKT := Lib.hid (fun (Q : World) (hQ : Below w4.heap.size w4 Q) => impl_KindText (n : Int) Q ⟨by omega, by omega⟩ (hE4.below hQ (Nat.le_refl _)))
 rw [show kindRes (n : Int) = kx from HKX.out.symm] at HKT
 have e0 : (s0.toList == [35]) = true := by simp [ht0]
 have e1 : (s1.toList == kx.toList) = true := by
  rw [beq_iff_eq, ht1, HKX.out, kindRes_in hn1 hn10, ByteArray.toList_eq]
 have hdl : (L.drop 2).length = L.length - 2 := List.length_drop
 obtain ⟨N, HN⟩ : ∃ N : Nat, Hid (N = (L.drop 2).length) := ⟨_, Lib.hid rfl⟩
 rw [show (L.drop 2).length = N from HN.out.symm] at HX4 HR4 hdl
 have hwa : IntKind.i64.wrap ((N : Int) + 2) = (L.length : Int) := by rw [IntWalk.i64_in _ (by omega)]; omega
 have e2 : ((L.length : Int) == (L.length : Int)) = true := by simp
 have HNN := Lib.hid hdl
 have j0 : (0 : Int) < (L.length : Int) := by omega
 have j0n : 0 < L.length := by omega
 have j1 : (1 : Int) < (L.length : Int) := by omega
 obtain ⟨fd, RD, -⟩ := slice_drop 2 (by omega) HL4.out
 rw [Option.map_some, Addr.add_lit, show sTok.m = 4 from rfl] at RD
 have HSTK := Lib.hid (fun (Q : World) (hQ : Below w4.heap.size w4 Q) => sameTokens_same _ _ (L.drop 2) fd f2 Q ((sSlice sTok).below RD hQ) ((sSlice sTok).below HR4.out hQ))
 have HY : Hid (∀ Q : World, Below w4.heap.size w4 Q → Q.cell? ⟨b1, o1 + 1, none⟩ = some (.string s0) ∧ Q.cell? ⟨b1, o1 + 4 + 1, none⟩ = some (.string s1) ∧ Q.cell? ⟨w2.heap.size, 0, none⟩ = some (.int .i64 (n : Int)) ∧ Q.cell? ⟨w2.heap.size, 1, none⟩ = some (.slice a2 N c2)) := fun Q hQ =>
  ⟨(hQ.cell (p := ⟨b1, o1 + 1, none⟩) hbb).trans x1, (hQ.cell (p := ⟨b1, o1 + 4 + 1, none⟩) hbb).trans y1, cell_of_row Q _ 0 _ _ _ (mbox HX4.out hQ), cell_of_row Q _ 1 _ _ _ (mbox HX4.out hQ)⟩
 have s2 : (2 : Int) ≤ (L.length : Int) := by omega
 have s3 : 2 ≤ L.length := by omega
 have s4 : 2 ≤ cl := by omega
 have s5 : (2 : Int) ≤ (cl : Int) := by omega
 have q0 := cell_of_row w4 w2.heap.size 0 _ _ _ HX4.out
 clear RD x1 y1 hdl ht0 ht1 hE4 HL4
 by_cases hcap : cl = 2
 ·subst hcap
  rw [if_pos rfl, show L.length - 2 = 0 by omega] at HSTK
  go_upto_region 10 with fail
  clear q0
  have hcs : Below w4.heap.size w4 w4.drew := belowN (Below.refl _ _) 1
  refine wp_region_noPanic ?_
  refine wp_region_held_drew (S := fun w' => w'.cell? ⟨b1, o1 + 1, none⟩ = some (.string s0) ∧ w'.cell? ⟨b1, o1 + 4 + 1, none⟩ = some (.string s1) ∧ w'.cell? ⟨w2.heap.size, 0, none⟩ = some (.int .i64 (n : Int)) ∧ w'.cell? ⟨w2.heap.size, 1, none⟩ = some (.slice a2 N c2)) (by kernel_rfl) (by exact HY.out _ hcs) (fun hHeld => ?_)
  generalize hwd : w4.drew = wd at *
  refine takeH2 0 46 (v := ?_) rfl rfl (by kernel_rfl) (by kernel_rfl) (by kernel_rfl) (fun _ _ _ h => h) (by rfl) (by assumption) ?_ ?_
  rotate_left
  ·intro w hSw; go_simp; (first | done | with_reducible rfl | rfl)
  try simp only [Act.put, List.setIfInBounds_toArray, List.set_cons_zero, List.set_cons_succ]
  refine takeH2 1 47 (v := ?_) rfl rfl (by kernel_rfl) (by kernel_rfl) (by kernel_rfl) (fun _ _ _ h => h) (by rfl) (by assumption) ?_ ?_
  rotate_left
  ·intro w hSw; go_simp; (first | done | with_reducible rfl | rfl)
  try simp only [Act.put, List.setIfInBounds_toArray, List.set_cons_zero, List.set_cons_succ]
  refine takeH2 2 48 (v := ?_) rfl rfl (by kernel_rfl) (by kernel_rfl) (by kernel_rfl) (fun _ _ _ h => h) (by rfl) (by assumption) ?_ ?_
  rotate_left
  ·intro w hSw; go_simp; (first | done | with_reducible rfl | rfl)
  try simp only [Act.put, List.setIfInBounds_toArray, List.set_cons_zero, List.set_cons_succ]
  refine takeH2 3 49 (v := ?_) rfl rfl (by kernel_rfl) (by kernel_rfl) (by kernel_rfl) (fun _ _ _ h => h) (by rfl) (by assumption) ?_ ?_
  rotate_left
  ·intro w hSw; obtain ⟨z0, z1, z2, z3⟩ := hSw; go_simp; (first | done | with_reducible rfl | rfl)
  try simp only [Act.put, List.setIfInBounds_toArray, List.set_cons_zero, List.set_cons_succ]
  refine takeH2 4 50 (v := ?_) rfl rfl (by kernel_rfl) (by kernel_rfl) (by kernel_rfl) (fun _ _ _ h => h) (by rfl) (by assumption) ?_ ?_
  rotate_left
  ·intro w hSw; go_simp; (first | done | with_reducible rfl | rfl)
  try simp only [Act.put, List.setIfInBounds_toArray, List.set_cons_zero, List.set_cons_succ]
  refine takeH2 5 51 (v := ?_) rfl rfl (by kernel_rfl) (by kernel_rfl) (by kernel_rfl) (fun _ _ _ h => h) (by rfl) (by assumption) ?_ ?_
  rotate_left
  ·intro w hSw; go_simp; (first | done | with_reducible rfl | rfl)
  try simp only [Act.put, List.setIfInBounds_toArray, List.set_cons_zero, List.set_cons_succ]
  refine takeH2 6 52 (v := ?_) rfl rfl (by kernel_rfl) (by kernel_rfl) (by kernel_rfl) (fun _ _ _ h => h) (by rfl) (by assumption) ?_ ?_
  rotate_left
  ·intro w hSw; go_simp; (first | done | with_reducible rfl | rfl)
  try simp only [Act.put, List.setIfInBounds_toArray, List.set_cons_zero, List.set_cons_succ]
  refine takeH2 7 53 (v := ?_) rfl rfl (by kernel_rfl) (by kernel_rfl) (by kernel_rfl) (fun _ _ _ h => h) (by rfl) (by assumption) ?_ ?_
  rotate_left
  ·intro w hSw; go_simp; (first | done | with_reducible rfl | rfl)
  try simp only [Act.put, List.setIfInBounds_toArray, List.set_cons_zero, List.set_cons_succ]
  refine takeH2 8 54 (v := ?_) rfl rfl (by kernel_rfl) (by kernel_rfl) (by kernel_rfl) (fun _ _ _ h => h) (by rfl) (by assumption) ?_ ?_
  rotate_left
  ·intro w hSw; go_simp; (first | done | with_reducible rfl | rfl)
  try simp only [Act.put, List.setIfInBounds_toArray, List.set_cons_zero, List.set_cons_succ]
  refine takeH2 9 55 (v := ?_) rfl rfl (by kernel_rfl) (by kernel_rfl) (by kernel_rfl) (fun _ _ _ h => h) (by rfl) (by assumption) ?_ ?_
  rotate_left
  ·intro w hSw; go_simp; (first | done | with_reducible rfl | rfl)
  try simp only [Act.put, List.setIfInBounds_toArray, List.set_cons_zero, List.set_cons_succ]
  refine takeH2 10 56 (v := ?_) rfl rfl (by kernel_rfl) (by kernel_rfl) (by kernel_rfl) (fun _ _ _ h => h) (by rfl) (by assumption) ?_ ?_
  rotate_left
  ·intro w hSw; go_simp; (first | done | with_reducible rfl | rfl)
  try simp only [Act.put, List.setIfInBounds_toArray, List.set_cons_zero, List.set_cons_succ]
  refine takeH2 11 57 (v := ?_) rfl rfl (by kernel_rfl) (by kernel_rfl) (by kernel_rfl) (fun _ _ _ h => h) (by rfl) (by assumption) ?_ ?_
  rotate_left
  ·intro w hSw; obtain ⟨z0, z1, z2, z3⟩ := hSw; go_simp; (first | done | with_reducible rfl | rfl)
  try simp only [Act.put, List.setIfInBounds_toArray, List.set_cons_zero, List.set_cons_succ]
  refine takeH2 12 58 (v := ?_) rfl rfl (by kernel_rfl) (by kernel_rfl) (by kernel_rfl) (fun _ _ _ h => h) (by rfl) (by assumption) ?_ ?_
  rotate_left
  ·intro w hSw; go_simp; (first | done | with_reducible rfl | rfl)
  try simp only [Act.put, List.setIfInBounds_toArray, List.set_cons_zero, List.set_cons_succ]
  refine takeH2 13 59 (v := ?_) rfl rfl (by kernel_rfl) (by kernel_rfl) (by kernel_rfl) (fun _ _ _ h => h) (by rfl) (by assumption) ?_ ?_
  rotate_left
  ·intro w hSw; go_simp; (first | done | with_reducible rfl | rfl)
  try simp only [Act.put, List.setIfInBounds_toArray, List.set_cons_zero, List.set_cons_succ]
  refine takeH2 14 60 (v := ?_) rfl rfl (by kernel_rfl) (by kernel_rfl) (by kernel_rfl) (fun _ _ _ h => h) (by rfl) (by assumption) ?_ ?_
  rotate_left
  ·intro w hSw; go_simp; (first | done | with_reducible rfl | rfl)
  try simp only [Act.put, List.setIfInBounds_toArray, List.set_cons_zero, List.set_cons_succ]
  refine takeH2 15 61 (v := ?_) rfl rfl (by kernel_rfl) (by kernel_rfl) (by kernel_rfl) (fun _ _ _ h => h) (by rfl) (by assumption) ?_ ?_
  rotate_left
  ·intro w hSw; go_simp; (first | done | with_reducible rfl | rfl)
  try simp only [Act.put, List.setIfInBounds_toArray, List.set_cons_zero, List.set_cons_succ]
  refine takeH2 16 62 (v := ?_) rfl rfl (by kernel_rfl) (by kernel_rfl) (by kernel_rfl) (fun _ _ _ h => h) (by rfl) (by assumption) ?_ ?_
  rotate_left
  ·intro w hSw; go_simp; (first | done | with_reducible rfl | rfl)
  try simp only [Act.put, List.setIfInBounds_toArray, List.set_cons_zero, List.set_cons_succ]
  refine takeH2 17 63 (v := ?_) rfl rfl (by kernel_rfl) (by kernel_rfl) (by kernel_rfl) (fun _ _ _ h => h) (by rfl) (by assumption) ?_ ?_
  rotate_left
  ·intro w hSw; go_simp; (first | done | with_reducible rfl | rfl)
  try simp only [Act.put, List.setIfInBounds_toArray, List.set_cons_zero, List.set_cons_succ]
  refine takeH2 18 64 (v := ?_) rfl rfl (by kernel_rfl) (by kernel_rfl) (by kernel_rfl) (fun _ _ _ h => h) (by rfl) (by assumption) ?_ ?_
  rotate_left
  ·intro w hSw; obtain ⟨z0, z1, z2, z3⟩ := hSw; go_simp; (first | done | with_reducible rfl | rfl)
  try simp only [Act.put, List.setIfInBounds_toArray, List.set_cons_zero, List.set_cons_succ]
  refine takeH2 19 65 (v := ?_) rfl rfl (by kernel_rfl) (by kernel_rfl) (by kernel_rfl) (fun _ _ _ h => h) (by rfl) (by assumption) ?_ ?_
  rotate_left
  ·intro w hSw; go_simp; (first | done | with_reducible rfl | rfl)
  try simp only [Act.put, List.setIfInBounds_toArray, List.set_cons_zero, List.set_cons_succ]
  refine takeH2 20 66 (v := ?_) rfl rfl (by kernel_rfl) (by kernel_rfl) (by kernel_rfl) (fun _ _ _ h => h) (by rfl) (by assumption) ?_ ?_
  rotate_left
  ·intro w hSw; obtain ⟨z0, z1, z2, z3⟩ := hSw; go_simp; (first | done | with_reducible rfl | rfl)
  try simp only [Act.put, List.setIfInBounds_toArray, List.set_cons_zero, List.set_cons_succ]
  refine wpAnyH_ready (rs := [21]) (by kernel_rfl) (by simp) ?_
  refine AllReadyH.cons rfl (fun K hK => ?_) AllReadyH.nil
  go_simp
  refine (HKT.out wd hcs).mono ?_
  rintro e w5 ⟨rfl, hb5⟩
  have hx5 := hcs.trans (hb5.mono hcs.size)
  refine hK.out _ _ (HY.out _ hx5) (fun hHeld => ?_)
  clear hK K
  try simp only [Act.put, List.setIfInBounds_toArray, List.set_cons_zero, List.set_cons_succ]
  refine takeH2 22 68 (v := ?_) rfl rfl (by kernel_rfl) (by kernel_rfl) (by kernel_rfl) (fun _ _ _ h => h) (by rfl) (by assumption) ?_ ?_
  rotate_left
  ·intro w hSw; go_simp; (first | done | with_reducible rfl | rfl)
  try simp only [Act.put, List.setIfInBounds_toArray, List.set_cons_zero, List.set_cons_succ]
  refine takeH2 23 69 (v := ?_) rfl rfl (by kernel_rfl) (by kernel_rfl) (by kernel_rfl) (fun _ _ _ h => h) (by rfl) (by assumption) ?_ ?_
  rotate_left
  ·intro w hSw; go_simp; (first | done | with_reducible rfl | rfl)
  try simp only [Act.put, List.setIfInBounds_toArray, List.set_cons_zero, List.set_cons_succ]
  refine takeH2 24 70 (v := ?_) rfl rfl (by kernel_rfl) (by kernel_rfl) (by kernel_rfl) (fun _ _ _ h => h) (by rfl) (by assumption) ?_ ?_
  rotate_left
  ·intro w hSw; go_simp; (first | done | with_reducible rfl | rfl)
  try simp only [Act.put, List.setIfInBounds_toArray, List.set_cons_zero, List.set_cons_succ]
  refine takeH2 25 71 (v := ?_) rfl rfl (by kernel_rfl) (by kernel_rfl) (by kernel_rfl) (fun _ _ _ h => h) (by rfl) (by assumption) ?_ ?_
  rotate_left
  ·intro w hSw; go_simp; (first | done | with_reducible rfl | rfl)
  try simp only [Act.put, List.setIfInBounds_toArray, List.set_cons_zero, List.set_cons_succ]
  refine takeH2 26 72 (v := ?_) rfl rfl (by kernel_rfl) (by kernel_rfl) (by kernel_rfl) (fun _ _ _ h => h) (by rfl) (by assumption) ?_ ?_
  rotate_left
  ·intro w hSw; go_simp; (first | done | with_reducible rfl | rfl)
  try simp only [Act.put, List.setIfInBounds_toArray, List.set_cons_zero, List.set_cons_succ]
  refine takeH2 27 73 (v := ?_) rfl rfl (by kernel_rfl) (by kernel_rfl) (by kernel_rfl) (fun _ _ _ h => h) (by rfl) (by assumption) ?_ ?_
  rotate_left
  ·intro w hSw; go_simp; (first | done | with_reducible rfl | rfl)
  try simp only [Act.put, List.setIfInBounds_toArray, List.set_cons_zero, List.set_cons_succ]
  refine takeH2 28 74 (v := ?_) rfl rfl (by kernel_rfl) (by kernel_rfl) (by kernel_rfl) (fun _ _ _ h => h) (by rfl) (by assumption) ?_ ?_
  rotate_left
  ·intro w hSw; obtain ⟨z0, z1, z2, z3⟩ := hSw; go_simp; (first | done | with_reducible rfl | rfl)
  try simp only [Act.put, List.setIfInBounds_toArray, List.set_cons_zero, List.set_cons_succ]
  refine wpAnyH_ready (rs := [29]) (by kernel_rfl) (by simp) ?_
  refine AllReadyH.cons rfl (fun K hK => ?_) AllReadyH.nil
  go_simp
  refine (HSTK.out w5 hx5).mono ?_
  rintro e w6 ⟨rfl, hb6⟩
  have hx6 := hx5.trans (hb6.mono hx5.size)
  refine hK.out _ _ (HY.out _ hx6) (fun hHeld => ?_)
  clear hK K
  try simp only [Act.put, List.setIfInBounds_toArray, List.set_cons_zero, List.set_cons_succ]
  refine takeH2 30 76 (v := ?_) rfl rfl (by kernel_rfl) (by kernel_rfl) (by kernel_rfl) (fun _ _ _ h => h) (by rfl) (by assumption) ?_ ?_
  rotate_left
  ·intro w hSw; go_simp; (first | done | with_reducible rfl | rfl)
  try simp only [Act.put, List.setIfInBounds_toArray, List.set_cons_zero, List.set_cons_succ]
  refine takeH2 31 2 (v := ?_) rfl rfl (by kernel_rfl) (by kernel_rfl) (by kernel_rfl) (fun _ _ _ h => h) (by rfl) (by assumption) ?_ ?_
  rotate_left
  ·intro w hSw; go_simp; (first | done | with_reducible rfl | rfl)
  try simp only [Act.put, List.setIfInBounds_toArray, List.set_cons_zero, List.set_cons_succ]
  refine wpAnyH_done (by kernel_rfl) ?_ _
  refine NoPanic.normal ?_
  clear hHeld
  go_wp2
  go_ret
  exact ⟨rfl, hB4.trans (hx6.mono hB4.size)⟩
 ·rw [if_neg hcap] at HSTK
  go_upto_region 10 with fail
  clear q0
  have hcs : Below w4.heap.size w4 w4.drew := belowN (Below.refl _ _) 1
  refine wp_region_noPanic ?_
  refine wp_region_held_drew (S := fun w' => w'.cell? ⟨b1, o1 + 1, none⟩ = some (.string s0) ∧ w'.cell? ⟨b1, o1 + 4 + 1, none⟩ = some (.string s1) ∧ w'.cell? ⟨w2.heap.size, 0, none⟩ = some (.int .i64 (n : Int)) ∧ w'.cell? ⟨w2.heap.size, 1, none⟩ = some (.slice a2 N c2)) (by kernel_rfl) (by exact HY.out _ hcs) (fun hHeld => ?_)
  generalize hwd : w4.drew = wd at *
  refine takeH2 0 46 (v := ?_) rfl rfl (by kernel_rfl) (by kernel_rfl) (by kernel_rfl) (fun _ _ _ h => h) (by rfl) (by assumption) ?_ ?_
  rotate_left
  ·intro w hSw; go_simp; (first | done | with_reducible rfl | rfl)
  try simp only [Act.put, List.setIfInBounds_toArray, List.set_cons_zero, List.set_cons_succ]
  refine takeH2 1 47 (v := ?_) rfl rfl (by kernel_rfl) (by kernel_rfl) (by kernel_rfl) (fun _ _ _ h => h) (by rfl) (by assumption) ?_ ?_
  rotate_left
  ·intro w hSw; go_simp; (first | done | with_reducible rfl | rfl)
  try simp only [Act.put, List.setIfInBounds_toArray, List.set_cons_zero, List.set_cons_succ]
  refine takeH2 2 48 (v := ?_) rfl rfl (by kernel_rfl) (by kernel_rfl) (by kernel_rfl) (fun _ _ _ h => h) (by rfl) (by assumption) ?_ ?_
  rotate_left
  ·intro w hSw; go_simp; (first | done | with_reducible rfl | rfl)
  try simp only [Act.put, List.setIfInBounds_toArray, List.set_cons_zero, List.set_cons_succ]
  refine takeH2 3 49 (v := ?_) rfl rfl (by kernel_rfl) (by kernel_rfl) (by kernel_rfl) (fun _ _ _ h => h) (by rfl) (by assumption) ?_ ?_
  rotate_left
  ·intro w hSw; obtain ⟨z0, z1, z2, z3⟩ := hSw; go_simp; (first | done | with_reducible rfl | rfl)
  try simp only [Act.put, List.setIfInBounds_toArray, List.set_cons_zero, List.set_cons_succ]
  refine takeH2 4 50 (v := ?_) rfl rfl (by kernel_rfl) (by kernel_rfl) (by kernel_rfl) (fun _ _ _ h => h) (by rfl) (by assumption) ?_ ?_
  rotate_left
  ·intro w hSw; go_simp; (first | done | with_reducible rfl | rfl)
  try simp only [Act.put, List.setIfInBounds_toArray, List.set_cons_zero, List.set_cons_succ]
  refine takeH2 5 51 (v := ?_) rfl rfl (by kernel_rfl) (by kernel_rfl) (by kernel_rfl) (fun _ _ _ h => h) (by rfl) (by assumption) ?_ ?_
  rotate_left
  ·intro w hSw; go_simp; (first | done | with_reducible rfl | rfl)
  try simp only [Act.put, List.setIfInBounds_toArray, List.set_cons_zero, List.set_cons_succ]
  refine takeH2 6 52 (v := ?_) rfl rfl (by kernel_rfl) (by kernel_rfl) (by kernel_rfl) (fun _ _ _ h => h) (by rfl) (by assumption) ?_ ?_
  rotate_left
  ·intro w hSw; go_simp; (first | done | with_reducible rfl | rfl)
  try simp only [Act.put, List.setIfInBounds_toArray, List.set_cons_zero, List.set_cons_succ]
  refine takeH2 7 53 (v := ?_) rfl rfl (by kernel_rfl) (by kernel_rfl) (by kernel_rfl) (fun _ _ _ h => h) (by rfl) (by assumption) ?_ ?_
  rotate_left
  ·intro w hSw; go_simp; (first | done | with_reducible rfl | rfl)
  try simp only [Act.put, List.setIfInBounds_toArray, List.set_cons_zero, List.set_cons_succ]
  refine takeH2 8 54 (v := ?_) rfl rfl (by kernel_rfl) (by kernel_rfl) (by kernel_rfl) (fun _ _ _ h => h) (by rfl) (by assumption) ?_ ?_
  rotate_left
  ·intro w hSw; go_simp; (first | done | with_reducible rfl | rfl)
  try simp only [Act.put, List.setIfInBounds_toArray, List.set_cons_zero, List.set_cons_succ]
  refine takeH2 9 55 (v := ?_) rfl rfl (by kernel_rfl) (by kernel_rfl) (by kernel_rfl) (fun _ _ _ h => h) (by rfl) (by assumption) ?_ ?_
  rotate_left
  ·intro w hSw; go_simp; (first | done | with_reducible rfl | rfl)
  try simp only [Act.put, List.setIfInBounds_toArray, List.set_cons_zero, List.set_cons_succ]
  refine takeH2 10 56 (v := ?_) rfl rfl (by kernel_rfl) (by kernel_rfl) (by kernel_rfl) (fun _ _ _ h => h) (by rfl) (by assumption) ?_ ?_
  rotate_left
  ·intro w hSw; go_simp; (first | done | with_reducible rfl | rfl)
  try simp only [Act.put, List.setIfInBounds_toArray, List.set_cons_zero, List.set_cons_succ]
  refine takeH2 11 57 (v := ?_) rfl rfl (by kernel_rfl) (by kernel_rfl) (by kernel_rfl) (fun _ _ _ h => h) (by rfl) (by assumption) ?_ ?_
  rotate_left
  ·intro w hSw; obtain ⟨z0, z1, z2, z3⟩ := hSw; go_simp; (first | done | with_reducible rfl | rfl)
  try simp only [Act.put, List.setIfInBounds_toArray, List.set_cons_zero, List.set_cons_succ]
  refine takeH2 12 58 (v := ?_) rfl rfl (by kernel_rfl) (by kernel_rfl) (by kernel_rfl) (fun _ _ _ h => h) (by rfl) (by assumption) ?_ ?_
  rotate_left
  ·intro w hSw; go_simp; (first | done | with_reducible rfl | rfl)
  try simp only [Act.put, List.setIfInBounds_toArray, List.set_cons_zero, List.set_cons_succ]
  refine takeH2 13 59 (v := ?_) rfl rfl (by kernel_rfl) (by kernel_rfl) (by kernel_rfl) (fun _ _ _ h => h) (by rfl) (by assumption) ?_ ?_
  rotate_left
  ·intro w hSw; go_simp; (first | done | with_reducible rfl | rfl)
  try simp only [Act.put, List.setIfInBounds_toArray, List.set_cons_zero, List.set_cons_succ]
  refine takeH2 14 60 (v := ?_) rfl rfl (by kernel_rfl) (by kernel_rfl) (by kernel_rfl) (fun _ _ _ h => h) (by rfl) (by assumption) ?_ ?_
  rotate_left
  ·intro w hSw; go_simp; (first | done | with_reducible rfl | rfl)
  try simp only [Act.put, List.setIfInBounds_toArray, List.set_cons_zero, List.set_cons_succ]
  refine takeH2 15 61 (v := ?_) rfl rfl (by kernel_rfl) (by kernel_rfl) (by kernel_rfl) (fun _ _ _ h => h) (by rfl) (by assumption) ?_ ?_
  rotate_left
  ·intro w hSw; go_simp; (first | done | with_reducible rfl | rfl)
  try simp only [Act.put, List.setIfInBounds_toArray, List.set_cons_zero, List.set_cons_succ]
  refine takeH2 16 62 (v := ?_) rfl rfl (by kernel_rfl) (by kernel_rfl) (by kernel_rfl) (fun _ _ _ h => h) (by rfl) (by assumption) ?_ ?_
  rotate_left
  ·intro w hSw; go_simp; (first | done | with_reducible rfl | rfl)
  try simp only [Act.put, List.setIfInBounds_toArray, List.set_cons_zero, List.set_cons_succ]
  refine takeH2 17 63 (v := ?_) rfl rfl (by kernel_rfl) (by kernel_rfl) (by kernel_rfl) (fun _ _ _ h => h) (by rfl) (by assumption) ?_ ?_
  rotate_left
  ·intro w hSw; go_simp; (first | done | with_reducible rfl | rfl)
  try simp only [Act.put, List.setIfInBounds_toArray, List.set_cons_zero, List.set_cons_succ]
  refine takeH2 18 64 (v := ?_) rfl rfl (by kernel_rfl) (by kernel_rfl) (by kernel_rfl) (fun _ _ _ h => h) (by rfl) (by assumption) ?_ ?_
  rotate_left
  ·intro w hSw; obtain ⟨z0, z1, z2, z3⟩ := hSw; go_simp; (first | done | with_reducible rfl | rfl)
  try simp only [Act.put, List.setIfInBounds_toArray, List.set_cons_zero, List.set_cons_succ]
  refine takeH2 19 65 (v := ?_) rfl rfl (by kernel_rfl) (by kernel_rfl) (by kernel_rfl) (fun _ _ _ h => h) (by rfl) (by assumption) ?_ ?_
  rotate_left
  ·intro w hSw; go_simp; (first | done | with_reducible rfl | rfl)
  try simp only [Act.put, List.setIfInBounds_toArray, List.set_cons_zero, List.set_cons_succ]
  refine takeH2 20 66 (v := ?_) rfl rfl (by kernel_rfl) (by kernel_rfl) (by kernel_rfl) (fun _ _ _ h => h) (by rfl) (by assumption) ?_ ?_
  rotate_left
  ·intro w hSw; obtain ⟨z0, z1, z2, z3⟩ := hSw; go_simp; (first | done | with_reducible rfl | rfl)
  try simp only [Act.put, List.setIfInBounds_toArray, List.set_cons_zero, List.set_cons_succ]
  refine wpAnyH_ready (rs := [21]) (by kernel_rfl) (by simp) ?_
  refine AllReadyH.cons rfl (fun K hK => ?_) AllReadyH.nil
  go_simp
  refine (HKT.out wd hcs).mono ?_
  rintro e w5 ⟨rfl, hb5⟩
  have hx5 := hcs.trans (hb5.mono hcs.size)
  refine hK.out _ _ (HY.out _ hx5) (fun hHeld => ?_)
  clear hK K
  try simp only [Act.put, List.setIfInBounds_toArray, List.set_cons_zero, List.set_cons_succ]
  refine takeH2 22 68 (v := ?_) rfl rfl (by kernel_rfl) (by kernel_rfl) (by kernel_rfl) (fun _ _ _ h => h) (by rfl) (by assumption) ?_ ?_
  rotate_left
  ·intro w hSw; go_simp; (first | done | with_reducible rfl | rfl)
  try simp only [Act.put, List.setIfInBounds_toArray, List.set_cons_zero, List.set_cons_succ]
  refine takeH2 23 69 (v := ?_) rfl rfl (by kernel_rfl) (by kernel_rfl) (by kernel_rfl) (fun _ _ _ h => h) (by rfl) (by assumption) ?_ ?_
  rotate_left
  ·intro w hSw; go_simp; (first | done | with_reducible rfl | rfl)
  try simp only [Act.put, List.setIfInBounds_toArray, List.set_cons_zero, List.set_cons_succ]
  refine takeH2 24 70 (v := ?_) rfl rfl (by kernel_rfl) (by kernel_rfl) (by kernel_rfl) (fun _ _ _ h => h) (by rfl) (by assumption) ?_ ?_
  rotate_left
  ·intro w hSw; go_simp; (first | done | with_reducible rfl | rfl)
  try simp only [Act.put, List.setIfInBounds_toArray, List.set_cons_zero, List.set_cons_succ]
  refine takeH2 25 71 (v := ?_) rfl rfl (by kernel_rfl) (by kernel_rfl) (by kernel_rfl) (fun _ _ _ h => h) (by rfl) (by assumption) ?_ ?_
  rotate_left
  ·intro w hSw; go_simp; (first | done | with_reducible rfl | rfl)
  try simp only [Act.put, List.setIfInBounds_toArray, List.set_cons_zero, List.set_cons_succ]
  refine takeH2 26 72 (v := ?_) rfl rfl (by kernel_rfl) (by kernel_rfl) (by kernel_rfl) (fun _ _ _ h => h) (by rfl) (by assumption) ?_ ?_
  rotate_left
  ·intro w hSw; go_simp; (first | done | with_reducible rfl | rfl)
  try simp only [Act.put, List.setIfInBounds_toArray, List.set_cons_zero, List.set_cons_succ]
  refine takeH2 27 73 (v := ?_) rfl rfl (by kernel_rfl) (by kernel_rfl) (by kernel_rfl) (fun _ _ _ h => h) (by rfl) (by assumption) ?_ ?_
  rotate_left
  ·intro w hSw; go_simp; (first | done | with_reducible rfl | rfl)
  try simp only [Act.put, List.setIfInBounds_toArray, List.set_cons_zero, List.set_cons_succ]
  refine takeH2 28 74 (v := ?_) rfl rfl (by kernel_rfl) (by kernel_rfl) (by kernel_rfl) (fun _ _ _ h => h) (by rfl) (by assumption) ?_ ?_
  rotate_left
  ·intro w hSw; obtain ⟨z0, z1, z2, z3⟩ := hSw; go_simp; (first | done | with_reducible rfl | rfl)
  try simp only [Act.put, List.setIfInBounds_toArray, List.set_cons_zero, List.set_cons_succ]
  refine wpAnyH_ready (rs := [29]) (by kernel_rfl) (by simp) ?_
  refine AllReadyH.cons rfl (fun K hK => ?_) AllReadyH.nil
  go_simp
  refine (HSTK.out w5 hx5).mono ?_
  rintro e w6 ⟨rfl, hb6⟩
  have hx6 := hx5.trans (hb6.mono hx5.size)
  refine hK.out _ _ (HY.out _ hx6) (fun hHeld => ?_)
  clear hK K
  try simp only [Act.put, List.setIfInBounds_toArray, List.set_cons_zero, List.set_cons_succ]
  refine takeH2 30 76 (v := ?_) rfl rfl (by kernel_rfl) (by kernel_rfl) (by kernel_rfl) (fun _ _ _ h => h) (by rfl) (by assumption) ?_ ?_
  rotate_left
  ·intro w hSw; go_simp; (first | done | with_reducible rfl | rfl)
  try simp only [Act.put, List.setIfInBounds_toArray, List.set_cons_zero, List.set_cons_succ]
  refine takeH2 31 2 (v := ?_) rfl rfl (by kernel_rfl) (by kernel_rfl) (by kernel_rfl) (fun _ _ _ h => h) (by rfl) (by assumption) ?_ ?_
  rotate_left
  ·intro w hSw; go_simp; (first | done | with_reducible rfl | rfl)
  try simp only [Act.put, List.setIfInBounds_toArray, List.set_cons_zero, List.set_cons_succ]
  refine wpAnyH_done (by kernel_rfl) ?_ _
  refine NoPanic.normal ?_
  clear hHeld
  go_wp2
  go_ret
  exact ⟨rfl, hB4.trans (hx6.mono hB4.size)⟩

theorem own : ownKnob Tryd.prog.godebug = none := by kernel_rfl
theorem laidOut : laidOutB Tryd.prog = true := by kernel_rfl
theorem readable : ∀ t ∈ Tryd.f8.params.toList, Tryd.prog.readableRec t = true ∧ t < Tryd.prog.types.size := by
 rw [Tryd.params8]
 simp only [List.mem_cons, List.not_mem_nil, or_false]
 rintro t rfl
 exact ⟨by kernel_rfl, of_decide_eq_true (by kernel_rfl)⟩

set_option maxRecDepth 100000 in
theorem lifted (os : Os) (started : os.Started) (H : Type) (enc : TypeId × Value → H) :
  ReturnsInHanded {} Tryd.checked os 8 .any (fun w args => (Rows.fnDirectiveOfSpec.pre enc Tryd.prog Tryd.f8 Rows.fnDirectiveOfRow.domain false w args ∧ laidMetH Tryd.prog Rows.fnDirectiveOfRow.laid w) ∧ sizedMet enc Tryd.prog Tryd.f8 (OpenSpec.ofChange Rows.fnDirectiveOfSpec) false w args) (Rows.fnDirectiveOfSpec.post enc Tryd.prog Tryd.f8 false true false false) := by
 refine returnsIn_laid (C := Tryd.checked) (X := fun w _ => laidMetH Tryd.prog Rows.fnDirectiveOfRow.laid w) (fun _ _ _ hh h => h.of_heap hh) own started (by kernel_rfl) Tryd.func8
  (ChangeSpec.witness_shaped (enc := enc) (C := Tryd.checked) (os := os) (X := fun w _ => laidMetH Tryd.prog Rows.fnDirectiveOfRow.laid w) false (World.laidAll Tryd.prog os Rows.fnDirectiveOfRow.laid) #[.slice none 0 0] 8 (World.laidAll_os _ _ _)
   (World.shaped_of_ZipB (by kernel_rfl) (by kernel_rfl)) (by kernel_rfl) (by kernel_rfl) (by kernel_rfl)
   (by rw [MakeChecks.laidMetH_plain _ _ _ (by kernel_rfl)]; exact laidMet_laidAll _ (by kernel_rfl) (by kernel_rfl))) ?_
 intro W base args ds gs before hval0 hW hsh hL
 have hval : ∀ (j : Nat) t v, Tryd.f8.params[j]? = some t → args[j]? = some v → Value.okWide Tryd.prog W .any base t v := hval0
 have hW' := hW
 obtain ⟨p, q, hA0, hV, rfl, hfz, hnd⟩ := hW
 have hA : DataW.TrodAll enc Tryd.prog W 0 (fun _ => true) true Tryd.f8.params.toList args.toList ds p := hA0
 rw [Tryd.params8] at hA hval
 obtain ⟨v0, vs0, d0, ds0, p0, q0, hargs0, rfl, rfl, h0, r0⟩ := trodAll_cons hA
 obtain ⟨rfl, rfl, rfl⟩ := trodAll_nil r0
 obtain rfl : args = #[v0] := by cases args; simp_all
 obtain ⟨gv, tv, csv, fuv, dv, pv, rfl, -⟩ := trodVars_one hV
 obtain ⟨a0, len0, cap0, rfl⟩ := okWide_slice Tryd.underlying22 (hval 0 22 v0 rfl rfl)
 obtain ⟨x0, fp0, H0⟩ := open_arg (opens_slice Tryd.underlying22 (by kernel_rfl) (by decide) (opens_byte Tryd.underlying5)) h0
 refine (walk _ x0 fp0 W H0 ⟨Env.of_shaped hsh, names_of_laid hL⟩).mono fun e W' ⟨he, hw⟩ => ?_
 subst he
 exact ⟨_, rfl, law_vars laidOut readable (by kernel_rfl) rfl Tryd.underlying4 hW' rfl rfl rfl hw⟩

theorem row_holds : Rows.FnDirectiveOfSaid :=
 OpenClaim.holds_of_wide 8 Tryd.f8 rfl rfl rfl rfl rfl rfl rfl ⟨rfl, rfl, rfl, rfl, rfl⟩ rfl rfl rfl rfl rfl (by kernel_rfl) Tryd.func8 (by kernel_rfl)
  (of_decide_eq_true (by kernel_rfl)) (by unfold Func.isWrapper; first | (rw [if_pos (by decide +kernel)]; kernel_rfl) | (rw [if_neg (by decide +kernel)]; exact ⟨rfl, rfl⟩))
  (fun os started H enc _ => lifted os started H enc)

theorem holds : Rows.FnDirectiveOfCardSaid :=
 Claim7.holds_tied_plain_at .later [] [.data] true Rows.fnDirectiveOfCard.stood.harness Rows.fnDirectiveOfCard.stood.looks row_holds (fun _ h => by cases h) (by kernel_rfl) (fun _ h => by cases h) fnDirectiveOf_row_tie rfl ⟨rfl, rfl⟩ (by kernel_rfl) rfl
  (fun f fn hf hfn => by
   obtain rfl : f = 8 := Option.some.inj ((show Tryd.prog.funcNamed "loop.example/macroprocessor/laws.FnDirectiveOf" = some 8 by kernel_rfl).symm.trans hf) |>.symm
   obtain rfl : fn = Tryd.f8 := (Option.some.inj (Tryd.func8.symm.trans hfn)).symm
   exact ⟨by kernel_rfl, fun j t ht => by
    rw [Tryd.params8] at ht
    have hm : t ∈ [22] := by simpa using Array.mem_of_getElem? ht
    have hall : ([22].all fun u => !Tryd.prog.wantsStandIn u) = true := by kernel_rfl
    exact (show Tryd.prog.wantsStandIn t = false by simpa using List.all_eq_true.1 hall t hm)⟩)
  (by kernel_rfl)


end Go.Proofs.YtlegeancmcmbaaaDoor.lawDirectiveOf
