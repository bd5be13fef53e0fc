/- Validity of macros: both say the same; a name that starts with a digit is none, a name alone is one. For every input. No conditions. -/
import Derived.Test.YtigbaeokccknaaaZPMacroValid9
import Derived.Test.YtigbaeokccknaaaZPMacroValid8
import Derived.Test.YtigbaeokccknaaaZPMacroValid7
namespace Go.Proofs.Ytigbaeokccknaaa.lawMacroValid
open Go.ChangeShapes Go.WideShapes Go.ChangeAt Go.RowKit Go.ChangeMaps

theorem box_at {w w' : World} {g : Nat} {arr : Array Value} {ty : TypeId} (h : w.heap[g]? = some (.cells arr ty (0, 0))) (hb : Below w.heap.size w w') : w'.heap[g]? = some (.cells arr ty (0, 0)) :=
  (hb.block g (Array.getElem?_eq_some_iff.1 h).1).trans h

set_option maxHeartbeats 8000000 in
set_option maxRecDepth 100000 in
theorem walk (v0 : Value) (x0 : List UInt8) (fp0 : List Nat) (w : World) (H0 : (sSlice sByte).R w [v0] x0 fp0) :
    Calls Try.prog 3 #[v0] w fun e w' => e = .returned (.bool true) ∧ Below w.heap.size w w' := by
  have HH := Lib.hid H0
  obtain ⟨a, cap, hv, hc, hm, h⟩ := H0
  obtain rfl : v0 = .slice a x0.length cap := by simpa using hv
  unfold maxLen at hm
  clear h hv
  go_enter Try.func3, Try.ntmps3
  by_cases hbig : 1048576 < x0.length
  · go_wp2
    go_ret
    exact ⟨rfl, Below.refl _ _⟩
  go_wp2_with fail
  refine (DrawMacroValid _ x0 fp0 _ HH.out).mono ?_
  rintro e w1 ⟨nm, f, a2, a3, n2, c2, n3, c3, ps, bd, fp, rfl, hR, hok, hB1⟩
  have hb1 := alloc_below' w1 (.cells #[.string nm, .bool f, .slice a2 n2 c2, .slice a3 n3 c3] 26)
  have HX := Lib.hid (show (w1.alloc (.cells #[.string nm, .bool f, .slice a2 n2 c2, .slice a3 n3 c3] 26)).heap[w1.heap.size]? = some (.cells #[.string nm, .bool f, .slice a2 n2 c2, .slice a3 n3 c3] 26 (0, 0)) from by show (w1.heap.push _)[_]? = _; simp)
  replace hR := sMacro.below hR hb1
  have hB := hB1.trans (hb1.mono hB1.size)
  have HOK := Lib.hid hok
  clear hok
  go_wp2_with fail
  refine (impl_MacroValid [.string nm, .bool f, .slice a2 n2 c2, .slice a3 n3 c3] ⟨nm, f, ps, bd⟩ fp _ hR).mono ?_
  rintro e w2 ⟨rfl, hb2⟩
  replace hR := sMacro.below hR hb2
  replace HX := Lib.hid (box_at HX.out hb2)
  replace hB := hB.trans (hb2.mono hB.size)
  have qc0 : w2.cell? ⟨w1.heap.size, 0, none⟩ = some (.string nm) := cell_of_row _ _ 0 _ _ _ HX.out
  have qc1 : w2.cell? ⟨w1.heap.size, 1, none⟩ = some (.bool f) := cell_of_row _ _ 1 _ _ _ HX.out
  have qc2 : w2.cell? ⟨w1.heap.size, 2, none⟩ = some (.slice a2 n2 c2) := cell_of_row _ _ 2 _ _ _ HX.out
  have qc3 : w2.cell? ⟨w1.heap.size, 3, none⟩ = some (.slice a3 n3 c3) := cell_of_row _ _ 3 _ _ _ HX.out
  go_wp2_with fail
  refine (spec_MacroValid [.string nm, .bool f, .slice a2 n2 c2, .slice a3 n3 c3] ⟨nm, f, ps, bd⟩ fp _ hR).mono ?_
  rintro e w3 ⟨rfl, hb3⟩
  clear qc0 qc1 qc2 qc3
  replace hR := sMacro.below hR hb3
  replace HX := Lib.hid (box_at HX.out hb3)
  replace hB := hB.trans (hb3.mono hB.size)
  obtain ⟨h2, h3, fp2, fp3, hc', k0, K2, K3, rfl⟩ := hR
  simp only [List.cons.injEq, and_true, true_and] at hc'
  obtain ⟨rfl, rfl⟩ := hc'
  have HV : Hid (Calls Try.prog 10 #[.agg #[.string ⟨#[49]⟩, .bool false, .slice none 0 0, .slice a3 n3 c3]] w3 (Says false w3)) := by
    have := impl_MacroValid [.string ⟨#[49]⟩, .bool false, .slice none 0 0, .slice a3 n3 c3] ⟨⟨#[49]⟩, false, [], bd⟩ ([] ++ fp3) w3 ⟨_, _, [], fp3, rfl, (show okStr (⟨#[49]⟩ : ByteArray) by unfold okStr; decide), slice_empty sStr w3 none 0 (by simp), K3, rfl⟩
    rwa [digit_no (c := 49) (by decide) ⟨⟨#[49]⟩, false, [], bd⟩ rfl] at this
  have HN : Hid (macOk ⟨nm, f, ps, bd⟩ = true → ∀ W, Calls Try.prog 10 #[.agg #[.string nm, .bool false, .slice none 0 0, .slice none 0 0]] W (Says true W)) := fun hm W => by
    have := impl_MacroValid [.string nm, .bool false, .slice none 0 0, .slice none 0 0] ⟨nm, false, [], []⟩ ([] ++ []) W ⟨_, _, [], [], rfl, k0, slice_empty sStr W none 0 (by simp), slice_empty sTok W none 0 (by simp), rfl⟩
    rwa [macOk_bare hm] at this
  clear K2 K3 hb1 hb2 hb3 hB1 k0
  have qc0 : w3.cell? ⟨w1.heap.size, 0, none⟩ = some (.string nm) := cell_of_row _ _ 0 _ _ _ HX.out
  have qc1 : w3.cell? ⟨w1.heap.size, 1, none⟩ = some (.bool f) := cell_of_row _ _ 1 _ _ _ HX.out
  have qc2 : w3.cell? ⟨w1.heap.size, 2, none⟩ = some (.slice a2 n2 c2) := cell_of_row _ _ 2 _ _ _ HX.out
  have qc3 : w3.cell? ⟨w1.heap.size, 3, none⟩ = some (.slice a3 n3 c3) := cell_of_row _ _ 3 _ _ _ HX.out
  cases hv : macOk ⟨nm, f, ps, bd⟩
  · go_wp2_with fail
    refine HV.out.mono ?_
    rintro e w4 ⟨rfl, hb4⟩
    replace hB := hB.trans (hb4.mono hB.size)
    clear qc0 qc1 qc2 qc3
    go_wp2_with fail
    refine (alive _).mono ?_
    rintro e w' ⟨rfl, rfl⟩
    go_wp2
    go_ret
    exact ⟨rfl, hB⟩
  · have HN1 := Lib.hid (HN.out hv)
    go_wp2_with fail
    refine HV.out.mono ?_
    rintro e w4 ⟨rfl, hb4⟩
    replace hB := hB.trans (hb4.mono hB.size)
    have HX4 := Lib.hid (box_at HX.out hb4)
    clear qc0 qc1 qc2 qc3
    have qc0 : w4.cell? ⟨w1.heap.size, 0, none⟩ = some (.string nm) := cell_of_row _ _ 0 _ _ _ HX4.out
    go_wp2_with fail
    refine (HN1.out _).mono ?_
    rintro e w5 ⟨rfl, hb5⟩
    replace hB := hB.trans (hb5.mono hB.size)
    clear qc0
    go_wp2_with fail
    refine (alive _).mono ?_
    rintro e w' ⟨rfl, rfl⟩
    go_wp2
    go_ret
    exact ⟨rfl, hB⟩

theorem own : ownKnob Try.prog.godebug = none := by kernel_rfl
theorem laidOut : laidOutB Try.prog = true := by kernel_rfl
theorem readable : ∀ t ∈ Try.f3.params.toList, Try.prog.readableRec t = true ∧ t < Try.prog.types.size := by
  rw [Try.params3]
  simp only [List.mem_cons, List.not_mem_nil, or_false]
  rintro t rfl
  exact ⟨by kernel_rfl, of_decide_eq_true (by kernel_rfl)⟩

set_option maxRecDepth 100000 in
theorem lifted (os : Os) (started : os.Started) (H : Type) (enc : TypeId × Value → H) :
    ReturnsInHanded {} Try.checked os 3 .any (Rows.fnMacroValidSpec.pre6 enc Try.prog Try.f3 Rows.fnMacroValidRow.domain false) (Rows.fnMacroValidSpec.post enc Try.prog Try.f3 false true false false) := by
  refine returnsInHanded_of_change (C := Try.checked) own started (by kernel_rfl) Try.func3
    (ChangeSpec.witness6 (enc := enc) (C := Try.checked) false ⟨#[], #[.slice none 0 0], []⟩ 8 (by kernel_rfl) (by kernel_rfl) (by kernel_rfl) (by kernel_rfl)) ?_
  intro W base args ds gs before hval0 hW hcnd _
  have hval : ∀ (j : Nat) t v, Try.f3.params[j]? = some t → args[j]? = some v → Value.okWide Try.prog W .any base t v := hval0
  have hW' := hW
  obtain ⟨p, q, hA0, hV, rfl, hfz, hnd⟩ := hW
  have hA : DataW.TrodAll enc Try.prog W 0 (fun _ => true) true Try.f3.params.toList args.toList ds p := hA0
  rw [Try.params3] at hA hval
  obtain ⟨v0, vs0, d0, ds0, p0, q0, hargs0, rfl, rfl, h0, r0⟩ := trodAll_cons hA
  obtain ⟨rfl, rfl, rfl⟩ := trodAll_nil r0
  obtain rfl : args = #[v0] := by cases args; simp_all
  obtain ⟨rfl, rfl⟩ := trodVars_none hV
  obtain ⟨a0, len0, cap0, rfl⟩ := okWide_slice Try.underlying22 (hval 0 22 v0 rfl rfl)
  obtain ⟨x0, fp0, H0⟩ := open_arg (opens_slice Try.underlying22 (by kernel_rfl) (by decide) (opens_byte Try.underlying5)) h0
  refine (walk _ x0 fp0 W H0).mono fun e W' ⟨he, hw⟩ => ?_
  subst he
  exact ⟨_, rfl, law_done laidOut readable rfl rfl Try.underlying4 hW' rfl rfl rfl hw⟩

theorem holds : Rows.FnMacroValidSaid :=
  OpenClaim.holds_of_wide 3 Try.f3 rfl rfl rfl rfl rfl rfl rfl ⟨rfl, rfl, rfl, rfl, rfl⟩ rfl rfl rfl rfl rfl (by kernel_rfl) Try.func3 (by kernel_rfl)
    (of_decide_eq_true (by kernel_rfl)) (by unfold Func.isWrapper; first | (rw [if_pos (by decide +kernel)]; kernel_rfl) | (rw [if_neg (by decide +kernel)]; exact ⟨rfl, rfl⟩))
    (fun os started H enc _ => lifted os started H enc)


end Go.Proofs.Ytigbaeokccknaaa.lawMacroValid
