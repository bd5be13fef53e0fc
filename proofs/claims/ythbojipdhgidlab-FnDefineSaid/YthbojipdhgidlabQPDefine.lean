/- Define: both answer alike; where it is possible the table is valid then, has the macro, all others are unchanged, and defining it again changes nothing. For every input. No conditions. (Made by gen_pdef.py.) -/
import Derived.Test.YthbojipdhgidlabYV2
import Derived.Test.YthbojipdhgidlabZPUndefine12
import Derived.Test.YthbojipdhgidlabZPUndefine6
set_option linter.unusedVariables false
set_option linter.unusedSimpArgs false
namespace Go.Proofs.Ythbojipdhgidlab.lawDefine
open Go.ChangeShapes Go.WideShapes Go.ChangeAt Go.RowKit Go.ChangeMaps

theorem okMac_def {t : List DMacro} {m : DMacro} (h : ∀ x ∈ t, okMac x) (hm : okMac m) : ∀ x ∈ (defM t m).1, okMac x := fun x hx => by
  rcases defM_mem x hx with h1 | rfl
  · exact h x h1
  · exact hm
theorem sms {l : List DMacro} (h : ∀ x ∈ l, okMac x) : ∀ k, (hk : k < l.length) → MacSm l[k] := fun k hk => okMac_sm (h _ (List.getElem_mem hk))
set_option maxHeartbeats 1000000 in
theorem sameTable_len (v1 v2 : Value) (l1 l2 : List DMacro) (fp1 fp2 : List Nat) (w : World) (H1 : (sSlice sMacro).R w [v1] l1 fp1) (H2 : (sSlice sMacro).R w [v2] l2 fp2) (hne : l1.length ≠ l2.length) :
    Calls Try.prog 8 #[v1, v2] w fun e w' => e = .returned (.bool false) ∧ Below w.heap.size w w' := by
  obtain ⟨a1, cap1, rfl, -⟩ := open_rows H1
  obtain ⟨a2, cap2, rfl, -⟩ := open_rows H2
  have hnb : ((l1.length : Int) != (l2.length : Int)) = true := by simp; omega
  clear hne
  go_enter Try.func8, Try.ntmps8
  go_wp2
  go_ret
  exact ⟨rfl, Below.refl _ _⟩

set_option maxHeartbeats 16000000 in
set_option maxRecDepth 100000 in
theorem walk (v0 : Value) (x0 : List UInt8) (fp0 : List Nat) (w : World) (H0 : (sSlice sByte).R w [v0] x0 fp0) :
    Calls Try.prog 4 #[v0] w fun e w' => e = .returned (.bool true) ∧ Below w.heap.size w w' := by
  have HH := Lib.hid H0
  obtain ⟨a, cap, hv, hc, hm, h⟩ := H0
  obtain rfl : v0 = .slice a x0.length cap := by simpa using hv
  unfold maxLen at hm
  clear h hv
  go_enter Try.func4, Try.ntmps4
  by_cases hbig : 1048576 < x0.length
  · go_wp2
    go_ret
    exact ⟨rfl, Below.refl _ _⟩
  go_wp2_with fail
  refine (DrawDefine _ x0 fp0 _ HH.out).mono ?_
  rintro e w1 ⟨v1, t, ft, nm, f, s2, s3, ps, bd, fp, rfl, hR, hok, hl9, hT, hokm, hB⟩
  obtain ⟨md, HMD⟩ : ∃ md : DMacro, Hid (md = ⟨nm, f, ps, bd⟩) := ⟨_, (rfl : (⟨nm, f, ps, bd⟩ : DMacro) = _)⟩
  have hTm := hT
  rw [← HMD.out] at hTm hokm
  have hnmd : md.name = nm := by rw [HMD.out]
  have HI := Lib.hid (fun W (hW : Below w1.heap.size w1 W) => impl_Define v1 t ft _ md fp W (by omega) (sms hok) (okMac_sm hokm) ((sSlice sMacro).below hR hW) (sMacro.below hTm hW))
  have HS := Lib.hid (fun W (hW : Below w1.heap.size w1 W) => spec_Define v1 t ft _ md fp W (by omega) (sms hok) (okMac_sm hokm) ((sSlice sMacro).below hR hW) (sMacro.below hTm hW))
  have HI2 := Lib.hid (fun W (hW : Below w1.heap.size w1 W) v2 f2 (h2 : (sSlice sMacro).R W [v2] (defM t md).1 f2) => impl_Define v2 (defM t md).1 f2 _ md fp W (by have := defM_len t md; omega) (sms (okMac_def hok hokm)) (okMac_sm hokm) h2 (sMacro.below hTm hW))
  have HU1 := Lib.hid (fun W v2 f2 (h2 : (sSlice sMacro).R W [v2] (defM t md).1 f2) => impl_Undefine v2 (defM t md).1 nm f2 W (by have := defM_len t md; omega) (sms (okMac_def hok hokm)) h2)
  have HU2 := Lib.hid (fun W (hW : Below w1.heap.size w1 W) => impl_Undefine v1 t nm ft W (by omega) (sms hok) ((sSlice sMacro).below hR hW))
  have HRT := Lib.hid hR
  obtain ⟨h2', h3', p2, p3, hcs, -, K2, K3, -⟩ := hT
  simp only [List.cons.injEq, Value.string.injEq, Value.bool.injEq, and_true, true_and] at hcs
  obtain ⟨e2, e3⟩ := hcs
  subst e2 e3
  obtain ⟨a2, c2, rfl, -⟩ := open_strs K2
  obtain ⟨a3, c3, rfl, -⟩ := open_rows K3
  clear K2 K3
  obtain ⟨at1, ct1, rfl, -, hct, -⟩ := open_rows hR
  clear hTm hR hok hokm
  have b0 := alloc_below' w1 (.cells #[.string nm, .bool f, .slice a2 ps.length c2, .slice a3 bd.length c3] 35)
  have HX := Lib.hid (heap_alloc_new w1 (.cells #[.string nm, .bool f, .slice a2 ps.length c2, .slice a3 bd.length c3] 35))
  have hfy := @def_facts t md
  have hfn := @def_no t md
  rw [hnmd] at hfy
  generalize hr : (defM t md).1 = r at *
  generalize hk : (defM t md).2 = ok at *
  have HRE := Lib.hid (show defM t md = (r, ok) from by rw [← hr, ← hk])
  rw [HRE.out] at HI HS
  have HFY := Lib.hid hfy
  have HFN := Lib.hid hfn
  have hne : (ok != ok) = false := by simp
  clear hfy hfn hr hk HRE
  go_wp2_with fail
  refine (HI.out _ b0).mono ?_
  rintro e w2 ⟨v2, L2, rfl, hE2, hD2, -, hb2⟩
  obtain ⟨f2, r2, -⟩ := hE2.read
  rw [hD2] at r2
  have HR2 := Lib.hid r2
  have hb12 := b0.trans (hb2.mono b0.size)
  have HX2 := Lib.hid ((hb2.block _ (Array.getElem?_eq_some_iff.1 HX.out).1).trans HX.out)
  have x0 : w2.cell? ⟨w1.heap.size, 0, none⟩ = some (.string nm) := cell_of_row _ _ 0 _ _ _ HX2.out
  have x1 : w2.cell? ⟨w1.heap.size, 1, none⟩ = some (.bool f) := cell_of_row _ _ 1 _ _ _ HX2.out
  have x2 : w2.cell? ⟨w1.heap.size, 2, none⟩ = some (.slice a2 ps.length c2) := cell_of_row _ _ 2 _ _ _ HX2.out
  have x3 : w2.cell? ⟨w1.heap.size, 3, none⟩ = some (.slice a3 bd.length c3) := cell_of_row _ _ 3 _ _ _ HX2.out
  clear HX b0 hb2 hE2 hD2 r2 HI
  go_wp2_with fail
  refine (HS.out _ hb12).mono ?_
  rintro e w3 ⟨v3, L3, top3, rfl, hG3, hD3, -, -, -, hb3⟩
  obtain ⟨f3, r3, -⟩ := hG3.read
  rw [hD3] at r3
  have hb13 := hb12.trans (hb3.mono hb12.size)
  have HR3 := Lib.hid ((sSlice sMacro).below HR2.out hb3)
  have HX3 := Lib.hid ((hb3.block _ (Array.getElem?_eq_some_iff.1 HX2.out).1).trans HX2.out)
  have HSA := Lib.hid (sameTable_same v2 v3 r f2 f3 w3 HR3.out r3)
  clear hG3 hD3 r3 hb3 HR2 HX2 hb12 HS x0 x1 x2 x3
  go_wp2_with fail
  refine HSA.out.mono ?_
  rintro e w4 ⟨rfl, hb4⟩
  have hb14 := hb13.trans (hb4.mono hb13.size)
  have HR4 := Lib.hid ((sSlice sMacro).below HR3.out hb4)
  have HX4 := Lib.hid ((hb4.block _ (Array.getElem?_eq_some_iff.1 HX3.out).1).trans HX3.out)
  have hB4 := hB.trans (hb14.mono hB.size)
  clear HSA HR3 HX3 hb4 hb13
  cases ok
  · have HT4 := Lib.hid ((sSlice sMacro).below HRT.out hb14)
    rcases HFN.out rfl with h1 | ⟨h1, h2⟩
    · subst h1
      have HSB := Lib.hid (sameTable_same v2 _ r f2 ft w4 HR4.out HT4.out)
      obtain ⟨aq, cq, rfl, -⟩ := open_rows HR4.out
      clear HFY HFN
      go_wp2_with fail
      refine HSB.out.mono ?_
      rintro e w5 ⟨rfl, hb5⟩
      have hB5 := hB4.trans (hb5.mono hB4.size)
      go_wp2_with (go_at_call 11; refine (alive _).mono ?_; rintro e w' ⟨rfl, rfl⟩)
      go_ret
      exact ⟨rfl, hB5⟩
    · subst h1
      have HSB := Lib.hid (sameTable_len v2 _ [] t f2 ft w4 HR4.out HT4.out (by simp; omega))
      obtain ⟨aq, cq, rfl, -⟩ := open_rows HR4.out
      clear HFY HFN
      go_wp2_with fail
      refine HSB.out.mono ?_
      rintro e w5 ⟨rfl, hb5⟩
      have hB5 := hB4.trans (hb5.mono hB4.size)
      go_wp2_with (go_at_call 11; refine (alive _).mono ?_; rintro e w' ⟨rfl, rfl⟩)
      go_ret
      exact ⟨rfl, hB5⟩
  · obtain ⟨g1, g2, g3, g4, g5, g6⟩ := HFY.out rfl
    have HI3 := Lib.hid (HI2.out w4 hb14 v2 f2 HR4.out)
    rw [g5] at HI3
    have x0 : w4.cell? ⟨w1.heap.size, 0, none⟩ = some (.string nm) := cell_of_row _ _ 0 _ _ _ HX4.out
    have x1 : w4.cell? ⟨w1.heap.size, 1, none⟩ = some (.bool f) := cell_of_row _ _ 1 _ _ _ HX4.out
    have x2 : w4.cell? ⟨w1.heap.size, 2, none⟩ = some (.slice a2 ps.length c2) := cell_of_row _ _ 2 _ _ _ HX4.out
    have x3 : w4.cell? ⟨w1.heap.size, 3, none⟩ = some (.slice a3 bd.length c3) := cell_of_row _ _ 3 _ _ _ HX4.out
    clear HI2 HFN HFY
    go_wp2_with fail
    refine HI3.out.mono ?_
    rintro e w5 ⟨v5, L5, rfl, hE5, hD5, -, hb5⟩
    obtain ⟨f5, r5, -⟩ := hE5.read
    rw [hD5] at r5
    have hb15 := hb14.trans (hb5.mono hb14.size)
    have hB5 := hB4.trans (hb5.mono hB4.size)
    have HR5 := Lib.hid ((sSlice sMacro).below HR4.out hb5)
    have HZ5 := Lib.hid r5
    have HX5 := Lib.hid ((hb5.block _ (Array.getElem?_eq_some_iff.1 HX4.out).1).trans HX4.out)
    have hND : defd r nm = true := by unfold defd; rw [g3, g4]; rfl
    have H1 := Lib.hid (fun W (hW : Below w5.heap.size w5 W) => impl_TableValid v2 r f2 W ((sSlice sMacro).below HR5.out hW))
    have H2 := Lib.hid (fun W (hW : Below w5.heap.size w5 W) => impl_IsDefined v2 r nm f2 W ((sSlice sMacro).below HR5.out hW))
    have H3 := Lib.hid (fun W (hW : Below w5.heap.size w5 W) => sameTable_same v5 v2 r f5 f2 W ((sSlice sMacro).below HZ5.out hW) ((sSlice sMacro).below HR5.out hW))
    have H4 := Lib.hid (fun W (hW : Below w5.heap.size w5 W) => HU1.out W v2 f2 ((sSlice sMacro).below HR5.out hW))
    rw [g3] at H1
    rw [hND] at H2
    rw [g6] at H4
    obtain ⟨aq, cq, rfl, -⟩ := open_rows HR4.out
    obtain ⟨au, cu, rfl, -⟩ := open_rows HZ5.out
    have hs15 := hb15.size
    clear hE5 hD5 r5 hb5 HI3 g1 g2 g3 g4 g5 g6 hND HR4 HX4 HU1 x0 x1 x2 x3 hb14 hB4 HRT
    go_wp2_with fail
    refine wp_region_noPanic ?_
    refine wp_region_held_drew (S := fun w' => w'.heap[w1.heap.size]? = some (.cells #[.string nm, .bool f, .slice a2 ps.length c2, .slice a3 bd.length c3] 35 (0, 0))) (by kernel_rfl) (by exact HX5.out) (fun hHeld => ?_)
    have hd5 : Below w5.heap.size w5 w5.drew := belowN (Below.refl _ _) 1
    generalize w5.drew = wd at *
    refine takeH 0 59 (v := ?_) rfl rfl (by kernel_rfl) (by kernel_rfl) (by kernel_rfl) (fun _ _ _ h => h) (by rfl) (by assumption) ?_ ?_
    rotate_left
    · intro w hSw; have s0 := cell_of_row _ _ 0 _ _ _ hSw; have s1 := cell_of_row _ _ 1 _ _ _ hSw; have s2 := cell_of_row _ _ 2 _ _ _ hSw; have s3 := cell_of_row _ _ 3 _ _ _ hSw; go_simp; (first | done | with_reducible rfl | rfl)
    try simp only [Act.put, List.setIfInBounds_toArray, List.set_cons_zero, List.set_cons_succ]
    refine wpAnyH_ready (rs := [1]) (by kernel_rfl) (by simp) ?_
    refine AllReadyH.cons rfl (fun K hK => ?_) AllReadyH.nil
    go_simp
    refine (H1.out _ hd5).mono ?_
    rintro e w6 ⟨rfl, b6⟩
    have hd6 := hd5.trans (b6.mono hd5.size)
    refine hK.out _ _ ((b6.block _ (Array.getElem?_eq_some_iff.1 hHeld).1).trans hHeld) (fun hHeld => ?_)
    clear hK K
    try simp only [Act.put, List.setIfInBounds_toArray, List.set_cons_zero, List.set_cons_succ]
    refine takeH 2 61 (v := ?_) rfl rfl (by kernel_rfl) (by kernel_rfl) (by kernel_rfl) (fun _ _ _ h => h) (by rfl) (by assumption) ?_ ?_
    rotate_left
    · intro w hSw; have s0 := cell_of_row _ _ 0 _ _ _ hSw; have s1 := cell_of_row _ _ 1 _ _ _ hSw; have s2 := cell_of_row _ _ 2 _ _ _ hSw; have s3 := cell_of_row _ _ 3 _ _ _ hSw; go_simp; (first | done | with_reducible rfl | rfl)
    try simp only [Act.put, List.setIfInBounds_toArray, List.set_cons_zero, List.set_cons_succ]
    refine takeH 3 62 (v := ?_) rfl rfl (by kernel_rfl) (by kernel_rfl) (by kernel_rfl) (fun _ _ _ h => h) (by rfl) (by assumption) ?_ ?_
    rotate_left
    · intro w hSw; have s0 := cell_of_row _ _ 0 _ _ _ hSw; have s1 := cell_of_row _ _ 1 _ _ _ hSw; have s2 := cell_of_row _ _ 2 _ _ _ hSw; have s3 := cell_of_row _ _ 3 _ _ _ hSw; go_simp; (first | done | with_reducible rfl | rfl)
    try simp only [Act.put, List.setIfInBounds_toArray, List.set_cons_zero, List.set_cons_succ]
    refine takeH 4 63 (v := ?_) rfl rfl (by kernel_rfl) (by kernel_rfl) (by kernel_rfl) (fun _ _ _ h => h) (by rfl) (by assumption) ?_ ?_
    rotate_left
    · intro w hSw; have s0 := cell_of_row _ _ 0 _ _ _ hSw; have s1 := cell_of_row _ _ 1 _ _ _ hSw; have s2 := cell_of_row _ _ 2 _ _ _ hSw; have s3 := cell_of_row _ _ 3 _ _ _ hSw; go_simp; (first | done | with_reducible rfl | rfl)
    try simp only [Act.put, List.setIfInBounds_toArray, List.set_cons_zero, List.set_cons_succ]
    refine takeH 5 64 (v := ?_) rfl rfl (by kernel_rfl) (by kernel_rfl) (by kernel_rfl) (fun _ _ _ h => h) (by rfl) (by assumption) ?_ ?_
    rotate_left
    · intro w hSw; have s0 := cell_of_row _ _ 0 _ _ _ hSw; have s1 := cell_of_row _ _ 1 _ _ _ hSw; have s2 := cell_of_row _ _ 2 _ _ _ hSw; have s3 := cell_of_row _ _ 3 _ _ _ hSw; go_simp; (first | done | with_reducible rfl | rfl)
    try simp only [Act.put, List.setIfInBounds_toArray, List.set_cons_zero, List.set_cons_succ]
    refine wpAnyH_ready (rs := [6]) (by kernel_rfl) (by simp) ?_
    refine AllReadyH.cons rfl (fun K hK => ?_) AllReadyH.nil
    go_simp
    refine (H2.out _ hd6).mono ?_
    rintro e w7 ⟨rfl, b7⟩
    have hd7 := hd6.trans (b7.mono hd6.size)
    refine hK.out _ _ ((b7.block _ (Array.getElem?_eq_some_iff.1 hHeld).1).trans hHeld) (fun hHeld => ?_)
    clear hK K
    try simp only [Act.put, List.setIfInBounds_toArray, List.set_cons_zero, List.set_cons_succ]
    refine takeH 7 66 (v := ?_) rfl rfl (by kernel_rfl) (by kernel_rfl) (by kernel_rfl) (fun _ _ _ h => h) (by rfl) (by assumption) ?_ ?_
    rotate_left
    · intro w hSw; have s0 := cell_of_row _ _ 0 _ _ _ hSw; have s1 := cell_of_row _ _ 1 _ _ _ hSw; have s2 := cell_of_row _ _ 2 _ _ _ hSw; have s3 := cell_of_row _ _ 3 _ _ _ hSw; go_simp; (first | done | with_reducible rfl | rfl)
    try simp only [Act.put, List.setIfInBounds_toArray, List.set_cons_zero, List.set_cons_succ]
    refine takeH 8 67 (v := ?_) rfl rfl (by kernel_rfl) (by kernel_rfl) (by kernel_rfl) (fun _ _ _ h => h) (by rfl) (by assumption) ?_ ?_
    rotate_left
    · intro w hSw; have s0 := cell_of_row _ _ 0 _ _ _ hSw; have s1 := cell_of_row _ _ 1 _ _ _ hSw; have s2 := cell_of_row _ _ 2 _ _ _ hSw; have s3 := cell_of_row _ _ 3 _ _ _ hSw; go_simp; (first | done | with_reducible rfl | rfl)
    try simp only [Act.put, List.setIfInBounds_toArray, List.set_cons_zero, List.set_cons_succ]
    refine takeH 9 68 (v := ?_) rfl rfl (by kernel_rfl) (by kernel_rfl) (by kernel_rfl) (fun _ _ _ h => h) (by rfl) (by assumption) ?_ ?_
    rotate_left
    · intro w hSw; have s0 := cell_of_row _ _ 0 _ _ _ hSw; have s1 := cell_of_row _ _ 1 _ _ _ hSw; have s2 := cell_of_row _ _ 2 _ _ _ hSw; have s3 := cell_of_row _ _ 3 _ _ _ hSw; go_simp; (first | done | with_reducible rfl | rfl)
    try simp only [Act.put, List.setIfInBounds_toArray, List.set_cons_zero, List.set_cons_succ]
    refine takeH 10 69 (v := ?_) rfl rfl (by kernel_rfl) (by kernel_rfl) (by kernel_rfl) (fun _ _ _ h => h) (by rfl) (by assumption) ?_ ?_
    rotate_left
    · intro w hSw; have s0 := cell_of_row _ _ 0 _ _ _ hSw; have s1 := cell_of_row _ _ 1 _ _ _ hSw; have s2 := cell_of_row _ _ 2 _ _ _ hSw; have s3 := cell_of_row _ _ 3 _ _ _ hSw; go_simp; (first | done | with_reducible rfl | rfl)
    try simp only [Act.put, List.setIfInBounds_toArray, List.set_cons_zero, List.set_cons_succ]
    refine takeH 11 70 (v := ?_) rfl rfl (by kernel_rfl) (by kernel_rfl) (by kernel_rfl) (fun _ _ _ h => h) (by rfl) (by assumption) ?_ ?_
    rotate_left
    · intro w hSw; have s0 := cell_of_row _ _ 0 _ _ _ hSw; have s1 := cell_of_row _ _ 1 _ _ _ hSw; have s2 := cell_of_row _ _ 2 _ _ _ hSw; have s3 := cell_of_row _ _ 3 _ _ _ hSw; go_simp; (first | done | with_reducible rfl | rfl)
    try simp only [Act.put, List.setIfInBounds_toArray, List.set_cons_zero, List.set_cons_succ]
    refine takeH 12 71 (v := ?_) rfl rfl (by kernel_rfl) (by kernel_rfl) (by kernel_rfl) (fun _ _ _ h => h) (by rfl) (by assumption) ?_ ?_
    rotate_left
    · intro w hSw; have s0 := cell_of_row _ _ 0 _ _ _ hSw; have s1 := cell_of_row _ _ 1 _ _ _ hSw; have s2 := cell_of_row _ _ 2 _ _ _ hSw; have s3 := cell_of_row _ _ 3 _ _ _ hSw; go_simp; (first | done | with_reducible rfl | rfl)
    try simp only [Act.put, List.setIfInBounds_toArray, List.set_cons_zero, List.set_cons_succ]
    refine takeH 13 72 (v := ?_) rfl rfl (by kernel_rfl) (by kernel_rfl) (by kernel_rfl) (fun _ _ _ h => h) (by rfl) (by assumption) ?_ ?_
    rotate_left
    · intro w hSw; have s0 := cell_of_row _ _ 0 _ _ _ hSw; have s1 := cell_of_row _ _ 1 _ _ _ hSw; have s2 := cell_of_row _ _ 2 _ _ _ hSw; have s3 := cell_of_row _ _ 3 _ _ _ hSw; go_simp; (first | done | with_reducible rfl | rfl)
    try simp only [Act.put, List.setIfInBounds_toArray, List.set_cons_zero, List.set_cons_succ]
    refine wpAnyH_ready (rs := [14]) (by kernel_rfl) (by simp) ?_
    refine AllReadyH.cons rfl (fun K hK => ?_) AllReadyH.nil
    go_simp
    refine (H3.out _ hd7).mono ?_
    rintro e w8 ⟨rfl, b8⟩
    have hd8 := hd7.trans (b8.mono hd7.size)
    refine hK.out _ _ ((b8.block _ (Array.getElem?_eq_some_iff.1 hHeld).1).trans hHeld) (fun hHeld => ?_)
    clear hK K
    try simp only [Act.put, List.setIfInBounds_toArray, List.set_cons_zero, List.set_cons_succ]
    refine takeH 15 74 (v := ?_) rfl rfl (by kernel_rfl) (by kernel_rfl) (by kernel_rfl) (fun _ _ _ h => h) (by rfl) (by assumption) ?_ ?_
    rotate_left
    · intro w hSw; have s0 := cell_of_row _ _ 0 _ _ _ hSw; have s1 := cell_of_row _ _ 1 _ _ _ hSw; have s2 := cell_of_row _ _ 2 _ _ _ hSw; have s3 := cell_of_row _ _ 3 _ _ _ hSw; go_simp; (first | done | with_reducible rfl | rfl)
    try simp only [Act.put, List.setIfInBounds_toArray, List.set_cons_zero, List.set_cons_succ]
    refine takeH 16 75 (v := ?_) rfl rfl (by kernel_rfl) (by kernel_rfl) (by kernel_rfl) (fun _ _ _ h => h) (by rfl) (by assumption) ?_ ?_
    rotate_left
    · intro w hSw; have s0 := cell_of_row _ _ 0 _ _ _ hSw; have s1 := cell_of_row _ _ 1 _ _ _ hSw; have s2 := cell_of_row _ _ 2 _ _ _ hSw; have s3 := cell_of_row _ _ 3 _ _ _ hSw; go_simp; (first | done | with_reducible rfl | rfl)
    try simp only [Act.put, List.setIfInBounds_toArray, List.set_cons_zero, List.set_cons_succ]
    refine takeH 17 76 (v := ?_) rfl rfl (by kernel_rfl) (by kernel_rfl) (by kernel_rfl) (fun _ _ _ h => h) (by rfl) (by assumption) ?_ ?_
    rotate_left
    · intro w hSw; have s0 := cell_of_row _ _ 0 _ _ _ hSw; have s1 := cell_of_row _ _ 1 _ _ _ hSw; have s2 := cell_of_row _ _ 2 _ _ _ hSw; have s3 := cell_of_row _ _ 3 _ _ _ hSw; go_simp; (first | done | with_reducible rfl | rfl)
    try simp only [Act.put, List.setIfInBounds_toArray, List.set_cons_zero, List.set_cons_succ]
    refine takeH 18 77 (v := ?_) rfl rfl (by kernel_rfl) (by kernel_rfl) (by kernel_rfl) (fun _ _ _ h => h) (by rfl) (by assumption) ?_ ?_
    rotate_left
    · intro w hSw; have s0 := cell_of_row _ _ 0 _ _ _ hSw; have s1 := cell_of_row _ _ 1 _ _ _ hSw; have s2 := cell_of_row _ _ 2 _ _ _ hSw; have s3 := cell_of_row _ _ 3 _ _ _ hSw; go_simp; (first | done | with_reducible rfl | rfl)
    try simp only [Act.put, List.setIfInBounds_toArray, List.set_cons_zero, List.set_cons_succ]
    refine takeH 19 78 (v := ?_) rfl rfl (by kernel_rfl) (by kernel_rfl) (by kernel_rfl) (fun _ _ _ h => h) (by rfl) (by assumption) ?_ ?_
    rotate_left
    · intro w hSw; have s0 := cell_of_row _ _ 0 _ _ _ hSw; have s1 := cell_of_row _ _ 1 _ _ _ hSw; have s2 := cell_of_row _ _ 2 _ _ _ hSw; have s3 := cell_of_row _ _ 3 _ _ _ hSw; go_simp; (first | done | with_reducible rfl | rfl)
    try simp only [Act.put, List.setIfInBounds_toArray, List.set_cons_zero, List.set_cons_succ]
    refine takeH 21 80 (v := ?_) rfl rfl (by kernel_rfl) (by kernel_rfl) (by kernel_rfl) (fun _ _ _ h => h) (by rfl) (by assumption) ?_ ?_
    rotate_left
    · intro w hSw; have s0 := cell_of_row _ _ 0 _ _ _ hSw; have s1 := cell_of_row _ _ 1 _ _ _ hSw; have s2 := cell_of_row _ _ 2 _ _ _ hSw; have s3 := cell_of_row _ _ 3 _ _ _ hSw; go_simp; (first | done | with_reducible rfl | rfl)
    try simp only [Act.put, List.setIfInBounds_toArray, List.set_cons_zero, List.set_cons_succ]
    refine takeH 22 81 (v := ?_) rfl rfl (by kernel_rfl) (by kernel_rfl) (by kernel_rfl) (fun _ _ _ h => h) (by rfl) (by assumption) ?_ ?_
    rotate_left
    · intro w hSw; have s0 := cell_of_row _ _ 0 _ _ _ hSw; have s1 := cell_of_row _ _ 1 _ _ _ hSw; have s2 := cell_of_row _ _ 2 _ _ _ hSw; have s3 := cell_of_row _ _ 3 _ _ _ hSw; go_simp; (first | done | with_reducible rfl | rfl)
    try simp only [Act.put, List.setIfInBounds_toArray, List.set_cons_zero, List.set_cons_succ]
    refine takeH 23 82 (v := ?_) rfl rfl (by kernel_rfl) (by kernel_rfl) (by kernel_rfl) (fun _ _ _ h => h) (by rfl) (by assumption) ?_ ?_
    rotate_left
    · intro w hSw; have s0 := cell_of_row _ _ 0 _ _ _ hSw; have s1 := cell_of_row _ _ 1 _ _ _ hSw; have s2 := cell_of_row _ _ 2 _ _ _ hSw; have s3 := cell_of_row _ _ 3 _ _ _ hSw; go_simp; (first | done | with_reducible rfl | rfl)
    try simp only [Act.put, List.setIfInBounds_toArray, List.set_cons_zero, List.set_cons_succ]
    refine wpAnyH_ready (rs := [20]) (by kernel_rfl) (by simp) ?_
    refine AllReadyH.cons rfl (fun K hK => ?_) AllReadyH.nil
    go_simp
    refine (H4.out _ hd8).mono ?_
    rintro e w9 ⟨v9, L9, rfl, hE9, hD9, -, b9⟩
    obtain ⟨f9, r9, -⟩ := hE9.read
    rw [hD9] at r9
    have hd9 := hd8.trans (b9.mono hd8.size)
    refine hK.out _ _ ((b9.block _ (Array.getElem?_eq_some_iff.1 hHeld).1).trans hHeld) (fun hHeld => ?_)
    clear hK K
    try simp only [Act.put, List.setIfInBounds_toArray, List.set_cons_zero, List.set_cons_succ]
    refine wpAnyH_ready (rs := [24]) (by kernel_rfl) (by simp) ?_
    refine AllReadyH.cons rfl (fun K hK => ?_) AllReadyH.nil
    go_simp
    refine (HU2.out _ (hb15.trans (hd9.mono hb15.size))).mono ?_
    rintro e w10 ⟨v10, L10, rfl, hE10, hD10, -, b10⟩
    obtain ⟨f10, r10, -⟩ := hE10.read
    rw [hD10] at r10
    have hd10 := hd9.trans (b10.mono hd9.size)
    have HSC := Lib.hid (sameTable_same v9 v10 _ f9 f10 w10 ((sSlice sMacro).below r9 b10) r10)
    refine hK.out _ _ ((b10.block _ (Array.getElem?_eq_some_iff.1 hHeld).1).trans hHeld) (fun hHeld => ?_)
    clear hK K
    try simp only [Act.put, List.setIfInBounds_toArray, List.set_cons_zero, List.set_cons_succ]
    refine wpAnyH_ready (rs := [25]) (by kernel_rfl) (by simp) ?_
    refine AllReadyH.cons rfl (fun K hK => ?_) AllReadyH.nil
    go_simp
    refine HSC.out.mono ?_
    rintro e w11 ⟨rfl, b11⟩
    have hd11 := hd10.trans (b11.mono hd10.size)
    refine hK.out _ _ ((b11.block _ (Array.getElem?_eq_some_iff.1 hHeld).1).trans hHeld) (fun hHeld => ?_)
    clear hK K
    try simp only [Act.put, List.setIfInBounds_toArray, List.set_cons_zero, List.set_cons_succ]
    refine takeH 26 85 (v := ?_) rfl rfl (by kernel_rfl) (by kernel_rfl) (by kernel_rfl) (fun _ _ _ h => h) (by rfl) (by assumption) ?_ ?_
    rotate_left
    · intro w hSw; have s0 := cell_of_row _ _ 0 _ _ _ hSw; have s1 := cell_of_row _ _ 1 _ _ _ hSw; have s2 := cell_of_row _ _ 2 _ _ _ hSw; have s3 := cell_of_row _ _ 3 _ _ _ hSw; go_simp; (first | done | with_reducible rfl | rfl)
    try simp only [Act.put, List.setIfInBounds_toArray, List.set_cons_zero, List.set_cons_succ]
    refine takeH 27 2 (v := ?_) rfl rfl (by kernel_rfl) (by kernel_rfl) (by kernel_rfl) (fun _ _ _ h => h) (by rfl) (by assumption) ?_ ?_
    rotate_left
    · intro w hSw; have s0 := cell_of_row _ _ 0 _ _ _ hSw; have s1 := cell_of_row _ _ 1 _ _ _ hSw; have s2 := cell_of_row _ _ 2 _ _ _ hSw; have s3 := cell_of_row _ _ 3 _ _ _ hSw; go_simp; (first | done | with_reducible rfl | rfl)
    try simp only [Act.put, List.setIfInBounds_toArray, List.set_cons_zero, List.set_cons_succ]
    refine wpAnyH_done (by kernel_rfl) ?_ _
    refine NoPanic.normal ?_
    clear hHeld
    have hBF := hB5.trans (hd11.mono hB5.size)
    clear H1 H2 H3 H4 HU2 HSC
    go_wp2
    go_ret
    exact ⟨rfl, hBF⟩

theorem own : ownKnob Try.prog.godebug = none := by kernel_rfl
theorem laidOut : laidOutB Try.prog = true := by kernel_rfl
theorem readable : ∀ t ∈ Try.f4.params.toList, Try.prog.readableRec t = true ∧ t < Try.prog.types.size := by
  rw [Try.params4]
  simp only [List.mem_cons, List.not_mem_nil, or_false]
  rintro t rfl
  exact ⟨by kernel_rfl, of_decide_eq_true (by kernel_rfl)⟩

set_option maxRecDepth 100000 in
theorem lifted (os : Os) (started : os.Started) (H : Type) (enc : TypeId × Value → H) :
    ReturnsInHanded {} Try.checked os 4 .any (Rows.fnDefineSpec.pre6 enc Try.prog Try.f4 Rows.fnDefineRow.domain false) (Rows.fnDefineSpec.post enc Try.prog Try.f4 false true false false) := by
  refine returnsInHanded_of_change (C := Try.checked) own started (by kernel_rfl) Try.func4
    (ChangeSpec.witness6 (enc := enc) (C := Try.checked) false ⟨#[], #[.slice none 0 0], []⟩ 8 (by kernel_rfl) (by kernel_rfl) (by kernel_rfl) (by kernel_rfl)) ?_
  intro W base args ds gs before hval0 hW hcnd _
  have hval : ∀ (j : Nat) t v, Try.f4.params[j]? = some t → args[j]? = some v → Value.okWide Try.prog W .any base t v := hval0
  have hW' := hW
  obtain ⟨p, q, hA0, hV, rfl, hfz, hnd⟩ := hW
  have hA : DataW.TrodAll enc Try.prog W 0 (fun _ => true) true Try.f4.params.toList args.toList ds p := hA0
  rw [Try.params4] at hA hval
  obtain ⟨v0, vs0, d0, ds0, p0, q0, hargs0, rfl, rfl, h0, r0⟩ := trodAll_cons hA
  obtain ⟨rfl, rfl, rfl⟩ := trodAll_nil r0
  obtain rfl : args = #[v0] := by cases args; simp_all
  obtain ⟨rfl, rfl⟩ := trodVars_none hV
  obtain ⟨a0, len0, cap0, rfl⟩ := okWide_slice Try.underlying22 (hval 0 22 v0 rfl rfl)
  obtain ⟨x0, fp0, H0⟩ := open_arg (opens_slice Try.underlying22 (by kernel_rfl) (by decide) (opens_byte Try.underlying5)) h0
  refine (walk _ x0 fp0 W H0).mono fun e W' ⟨he, hw⟩ => ?_
  subst he
  exact ⟨_, rfl, law_done laidOut readable rfl rfl Try.underlying4 hW' rfl rfl rfl hw⟩

theorem holds : Rows.FnDefineSaid :=
  OpenClaim.holds_of_wide 4 Try.f4 rfl rfl rfl rfl rfl rfl rfl ⟨rfl, rfl, rfl, rfl, rfl⟩ rfl rfl rfl rfl rfl (by kernel_rfl) Try.func4 (by kernel_rfl)
    (of_decide_eq_true (by kernel_rfl)) (by unfold Func.isWrapper; first | (rw [if_pos (by decide +kernel)]; kernel_rfl) | (rw [if_neg (by decide +kernel)]; exact ⟨rfl, rfl⟩))
    (fun os started H enc _ => lifted os started H enc)


end Go.Proofs.Ythbojipdhgidlab.lawDefine
