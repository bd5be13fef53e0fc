/- Texts of macros: both say the same; what is read of a text is the macro with the same name, parameters and texts of its body. For every input. No conditions. -/
import Derived.Test.YtdnjpjiepnhhhaaZU9
import Derived.Test.YtdnjpjiepnhhhaaZU8
set_option linter.unusedVariables false
set_option linter.unusedSimpArgs false
namespace Go.Proofs.Ytdnjpjiepnhhhaa.lawMacroText
open Go.ChangeShapes Go.WideShapes Go.ChangeAt Go.RowKit Go.ChangeMaps

theorem box_at {w w' : World} {g : Nat} {arr : Array Value} {ty : TypeId} (h : w.heap[g]? = some (.cells arr ty (0, 0))) (hb : Below w.heap.size w w') : w'.heap[g]? = some (.cells arr ty (0, 0)) :=
  (hb.block g (Array.getElem?_eq_some_iff.1 h).1).trans h
theorem drew_below (w : World) (n : Nat) : Below w.heap.size w (w.drewN n) := belowN (Below.refl _ _) n

set_option maxHeartbeats 8000000 in
set_option maxRecDepth 100000 in
theorem walk (v0 : Value) (x0 : List UInt8) (fp0 : List Nat) (w : World) (H0 : (sSlice sByte).R w [v0] x0 fp0) :
    Calls Try.prog 5 #[v0] w fun e w' => e = .returned (.bool true) ∧ Below w.heap.size w w' := by
  have HH := Lib.hid H0
  obtain ⟨a, cap, hv, hc, hm, h⟩ := H0
  obtain rfl : v0 = .slice a x0.length cap := by simpa using hv
  unfold maxLen at hm
  clear h hv
  go_enter Try.func5, Try.ntmps5
  by_cases hbig : 1048576 < x0.length
  · go_wp2
    go_ret
    exact ⟨rfl, Below.refl _ _⟩
  go_wp2_with fail
  refine (DrawMacroText _ x0 fp0 _ HH.out).mono ?_
  rintro e w1 ⟨nm, f, a2, a3, n2, c2, n3, c3, ps, bd, fp, rfl, hR, hok, hB1⟩
  clear hok
  have hb1 := alloc_below' w1 (.cells #[.string nm, .bool f, .slice a2 n2 c2, .slice a3 n3 c3] 27)
  have HX := Lib.hid (show (w1.alloc (.cells #[.string nm, .bool f, .slice a2 n2 c2, .slice a3 n3 c3] 27)).heap[w1.heap.size]? = some (.cells #[.string nm, .bool f, .slice a2 n2 c2, .slice a3 n3 c3] 27 (0, 0)) from by show (w1.heap.push _)[_]? = _; simp)
  replace hR := sMacro.below hR hb1
  have hB := hB1.trans (hb1.mono hB1.size)
  go_wp2_with fail
  refine (impl_MacroText [.string nm, .bool f, .slice a2 n2 c2, .slice a3 n3 c3] ⟨nm, f, ps, bd⟩ fp _ hR).mono ?_
  rintro e w2 ⟨rfl, hb2⟩
  replace hR := sMacro.below hR hb2
  replace HX := Lib.hid (box_at HX.out hb2)
  replace hB := hB.trans (hb2.mono hB.size)
  have qc0 : w2.cell? ⟨w1.heap.size, 0, none⟩ = some (.string nm) := cell_of_row _ _ 0 _ _ _ HX.out
  have qc1 : w2.cell? ⟨w1.heap.size, 1, none⟩ = some (.bool f) := cell_of_row _ _ 1 _ _ _ HX.out
  have qc2 : w2.cell? ⟨w1.heap.size, 2, none⟩ = some (.slice a2 n2 c2) := cell_of_row _ _ 2 _ _ _ HX.out
  have qc3 : w2.cell? ⟨w1.heap.size, 3, none⟩ = some (.slice a3 n3 c3) := cell_of_row _ _ 3 _ _ _ HX.out
  go_wp2_with fail
  refine (spec_MacroText [.string nm, .bool f, .slice a2 n2 c2, .slice a3 n3 c3] ⟨nm, f, ps, bd⟩ fp _ hR).mono ?_
  rintro e w3 ⟨rfl, hb3⟩
  clear qc0 qc1 qc2 qc3
  replace hR := sMacro.below hR hb3
  replace HX := Lib.hid (box_at HX.out hb3)
  replace hB := hB.trans (hb3.mono hB.size)
  clear hb1 hb2 hb3 hB1
  have hbb : ∀ b : Bool, (b != b) = false := by intro b; simp
  have hsz : (macText ⟨nm, f, ps, bd⟩).1.size ≤ 200 := macText_size
  rcases hm' : macText ⟨nm, f, ps, bd⟩ with ⟨s, ok⟩
  rw [hm'] at hsz
  have hbs := bytes_beq (rfl : s = s)
  cases ok
  · obtain rfl := macText_no hm'
    clear hm'
    go_wp2_with (go_at_call 24; refine (alive _).mono ?_; rintro e w' ⟨rfl, rfl⟩)
    go_ret
    exact ⟨rfl, hB⟩
  · obtain ⟨l, ht, hy⟩ := mac_reads hm'
    have hl : l.length ≤ 1048576 := by
      have h6 : (tokRes s).1.length ≤ 60 := (tokRes_all s).1
      rw [ht] at h6
      exact Nat.le_trans h6 (by decide)
    have hsz' : s.size ≤ 200 := hsz
    clear hm'
    go_wp2_with fail
    refine (impl_TokensOf s _ (small_ok (by omega))).mono ?_
    rintro e w4 ⟨v4, f4, rfl, r4, -, b4⟩
    rw [ht] at r4 ⊢
    replace hR := sMacro.below hR b4
    replace HX := Lib.hid (box_at HX.out b4)
    replace hB := hB.trans (b4.mono hB.size)
    go_wp2_with fail
    refine (impl_MacroOf v4 l f4 _ hl r4).mono ?_
    rintro e w5 ⟨cs5, f5, rfl, r5, -, b5⟩
    rw [show macOf l = (⟨nm, f, ps, readBack bd⟩, true) from hy] at r5 ⊢
    replace hR := sMacro.below hR b5
    replace HX := Lib.hid (box_at HX.out b5)
    replace hB := hB.trans (b5.mono hB.size)
    clear b4 b5 r4 ht hy
    obtain ⟨h2, h3, p2, p3, rfl, -, K2, K3, rfl⟩ := r5
    obtain ⟨b2, c2', rfl, -⟩ := open_rows K2
    obtain ⟨b3, c3', rfl, -⟩ := open_rows K3
    have hb6 := alloc_below' w5 (.cells #[.string nm, .bool f, .slice b2 ps.length c2', .slice b3 (readBack bd).length c3'] 27)
    have HY := Lib.hid (show (w5.alloc (.cells #[.string nm, .bool f, .slice b2 ps.length c2', .slice b3 (readBack bd).length c3'] 27)).heap[w5.heap.size]? = some (.cells #[.string nm, .bool f, .slice b2 ps.length c2', .slice b3 (readBack bd).length c3'] 27 (0, 0)) from by show (w5.heap.push _)[_]? = _; simp)
    replace hR := sMacro.below hR hb6
    replace K2 := (sSlice sStr).below K2 hb6
    replace K3 := (sSlice sTok).below K3 hb6
    replace HX := Lib.hid (box_at HX.out hb6)
    replace hB := hB.trans (hb6.mono hB.size)
    obtain ⟨h2, h3, fp2, fp3, hc', -, L2, L3, -⟩ := hR
    simp only [List.cons.injEq, and_true, true_and] at hc'
    obtain ⟨rfl, rfl⟩ := hc'
    have HS := Lib.hid (macBack_same ⟨nm, f, ps, bd⟩)
    have qx0 : (w5.alloc (.cells #[.string nm, .bool f, .slice b2 ps.length c2', .slice b3 (readBack bd).length c3'] 27)).cell? ⟨w1.heap.size, 0, none⟩ = some (.string nm) := cell_of_row _ _ 0 _ _ _ HX.out
    have qx1 : (w5.alloc (.cells #[.string nm, .bool f, .slice b2 ps.length c2', .slice b3 (readBack bd).length c3'] 27)).cell? ⟨w1.heap.size, 1, none⟩ = some (.bool f) := cell_of_row _ _ 1 _ _ _ HX.out
    have qx2 : (w5.alloc (.cells #[.string nm, .bool f, .slice b2 ps.length c2', .slice b3 (readBack bd).length c3'] 27)).cell? ⟨w1.heap.size, 2, none⟩ = some (.slice a2 n2 c2) := cell_of_row _ _ 2 _ _ _ HX.out
    have qx3 : (w5.alloc (.cells #[.string nm, .bool f, .slice b2 ps.length c2', .slice b3 (readBack bd).length c3'] 27)).cell? ⟨w1.heap.size, 3, none⟩ = some (.slice a3 n3 c3) := cell_of_row _ _ 3 _ _ _ HX.out
    have qy0 : (w5.alloc (.cells #[.string nm, .bool f, .slice b2 ps.length c2', .slice b3 (readBack bd).length c3'] 27)).cell? ⟨w5.heap.size, 0, none⟩ = some (.string nm) := cell_of_row _ _ 0 _ _ _ HY.out
    have qy1 : (w5.alloc (.cells #[.string nm, .bool f, .slice b2 ps.length c2', .slice b3 (readBack bd).length c3'] 27)).cell? ⟨w5.heap.size, 1, none⟩ = some (.bool f) := cell_of_row _ _ 1 _ _ _ HY.out
    have qy2 : (w5.alloc (.cells #[.string nm, .bool f, .slice b2 ps.length c2', .slice b3 (readBack bd).length c3'] 27)).cell? ⟨w5.heap.size, 2, none⟩ = some (.slice b2 ps.length c2') := cell_of_row _ _ 2 _ _ _ HY.out
    have qy3 : (w5.alloc (.cells #[.string nm, .bool f, .slice b2 ps.length c2', .slice b3 (readBack bd).length c3'] 27)).cell? ⟨w5.heap.size, 3, none⟩ = some (.slice b3 (readBack bd).length c3') := cell_of_row _ _ 3 _ _ _ HY.out
    have hn := bytes_beq (rfl : nm = nm)
    have hff : (f == f) = true := by simp
    go_wp2_with fail
    clear hb6
    generalize w5.alloc (.cells #[.string nm, .bool f, .slice b2 ps.length c2', .slice b3 (readBack bd).length c3'] 27) = w6 at *
    refine (sameTexts _ _ ps ps _ _ _ K2 L2).mono ?_
    rintro e w7 ⟨rfl, n, rfl⟩
    rw [decide_eq_true (rfl : ps = ps)]
    replace hB := belowN hB n
    have qx3' : (w6.drewN n).cell? ⟨w1.heap.size, 3, none⟩ = some (.slice a3 n3 c3) := qx3
    have qy3' : (w6.drewN n).cell? ⟨w5.heap.size, 3, none⟩ = some (.slice b3 (readBack bd).length c3') := qy3
    have HT := Lib.hid (impl_SameTexts _ _ (readBack bd) bd _ _ (w6.drewN n) ((sSlice sTok).frame (w := w6) (fun _ _ => rfl) K3) ((sSlice sTok).frame (w := w6) (fun _ _ => rfl) L3))
    rw [show sameTx (readBack bd) bd = true from HS.out] at HT
    go_wp2_with fail
    refine HT.out.mono ?_
    rintro e w8 ⟨rfl, b8⟩
    replace hB := hB.trans (b8.mono hB.size)
    go_wp2
    go_ret
    exact ⟨rfl, hB⟩

theorem own : ownKnob Try.prog.godebug = none := by kernel_rfl
theorem laidOut : laidOutB Try.prog = true := by kernel_rfl
theorem readable : ∀ t ∈ Try.f5.params.toList, Try.prog.readableRec t = true ∧ t < Try.prog.types.size := by
  rw [Try.params5]
  simp only [List.mem_cons, List.not_mem_nil, or_false]
  rintro t rfl
  exact ⟨by kernel_rfl, of_decide_eq_true (by kernel_rfl)⟩

set_option maxRecDepth 100000 in
theorem lifted (os : Os) (started : os.Started) (H : Type) (enc : TypeId × Value → H) :
    ReturnsInHanded {} Try.checked os 5 .any (Rows.fnMacroTextSpec.pre6 enc Try.prog Try.f5 Rows.fnMacroTextRow.domain false) (Rows.fnMacroTextSpec.post enc Try.prog Try.f5 false true false false) := by
  refine returnsInHanded_of_change (C := Try.checked) own started (by kernel_rfl) Try.func5
    (ChangeSpec.witness6 (enc := enc) (C := Try.checked) false ⟨#[], #[.slice none 0 0], []⟩ 8 (by kernel_rfl) (by kernel_rfl) (by kernel_rfl) (by kernel_rfl)) ?_
  intro W base args ds gs before hval0 hW hcnd _
  have hval : ∀ (j : Nat) t v, Try.f5.params[j]? = some t → args[j]? = some v → Value.okWide Try.prog W .any base t v := hval0
  have hW' := hW
  obtain ⟨p, q, hA0, hV, rfl, hfz, hnd⟩ := hW
  have hA : DataW.TrodAll enc Try.prog W 0 (fun _ => true) true Try.f5.params.toList args.toList ds p := hA0
  rw [Try.params5] at hA hval
  obtain ⟨v0, vs0, d0, ds0, p0, q0, hargs0, rfl, rfl, h0, r0⟩ := trodAll_cons hA
  obtain ⟨rfl, rfl, rfl⟩ := trodAll_nil r0
  obtain rfl : args = #[v0] := by cases args; simp_all
  obtain ⟨rfl, rfl⟩ := trodVars_none hV
  obtain ⟨a0, len0, cap0, rfl⟩ := okWide_slice Try.underlying41 (hval 0 41 v0 rfl rfl)
  obtain ⟨x0, fp0, H0⟩ := open_arg (opens_slice Try.underlying41 (by kernel_rfl) (by decide) (opens_byte Try.underlying5)) h0
  refine (walk _ x0 fp0 W H0).mono fun e W' ⟨he, hw⟩ => ?_
  subst he
  exact ⟨_, rfl, law_done laidOut readable rfl rfl Try.underlying4 hW' rfl rfl rfl hw⟩

theorem holds : Rows.FnMacroTextSaid :=
  OpenClaim.holds_of_wide 5 Try.f5 rfl rfl rfl rfl rfl rfl rfl ⟨rfl, rfl, rfl, rfl, rfl⟩ rfl rfl rfl rfl rfl (by kernel_rfl) Try.func5 (by kernel_rfl)
    (of_decide_eq_true (by kernel_rfl)) (by unfold Func.isWrapper; first | (rw [if_pos (by decide +kernel)]; kernel_rfl) | (rw [if_neg (by decide +kernel)]; exact ⟨rfl, rfl⟩))
    (fun os started H enc _ => lifted os started H enc)



end Go.Proofs.Ytdnjpjiepnhhhaa.lawMacroText
