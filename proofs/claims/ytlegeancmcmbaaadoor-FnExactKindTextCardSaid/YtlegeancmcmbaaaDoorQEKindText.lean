/- KindText of the program answers as its model at every argument; it writes into none; its answer owns its memory. No conditions. -/
import Derived.Test.YtlegeancmcmbaaaDoorZU5
import Derived.Test.YtlegeancmcmbaaaDoorZU12
import Derived.Test.YtlegeancmcmbaaaDoorZU2
import Derived.Test.YtlegeancmcmbaaaDoorTie
import Derived.Test.YtlegeancmcmbaaaDoorCards
import Derived.SevenTiedAt
import Derived.Test.YtlegeancmcmbaaaDoorZU4
set_option linter.unusedVariables false
set_option linter.unusedSimpArgs false
namespace Go.Proofs.YtlegeancmcmbaaaDoor.exactKindText
open Go.ChangeShapes Go.WideShapes Go.ChangeAt Go.RowKit Go.ChangeMaps

theorem boxes {w : World} {g : Nat} {arr : Array Value} {ty : TypeId} (h : w.heap[g]? = some (.cells arr ty (0, 0))) {w' : World} (hb : Below w.heap.size w w') : w'.heap[g]? = some (.cells arr ty (0, 0)) :=
 (hb.block g (Array.getElem?_eq_some_iff.1 h).1).trans h
theorem boxK {w : World} {g : Nat} {arr : Array Value} {ty : TypeId} {fp : List Nat} (h : w.heap[g]? = some (.cells arr ty (0, 0))) {w' : World} (hk : Kept fp w w') (hn : g ∉ fp) : w'.heap[g]? = some (.cells arr ty (0, 0)) :=
 (hk.block g (Array.getElem?_eq_some_iff.1 h).1 hn).trans h
theorem boxlt {w : World} {g : Nat} {arr : Array Value} {ty : TypeId} (h : w.heap[g]? = some (.cells arr ty (0, 0))) : g < w.heap.size := (Array.getElem?_eq_some_iff.1 h).1
theorem box_new (w : World) (arr : Array Value) (ty : TypeId) : (w.alloc (.cells arr ty)).heap[w.heap.size]? = some (.cells arr ty (0, 0)) := by
 show (w.heap.push _)[_]? = _; simp

set_option maxHeartbeats 16000000 in
set_option maxRecDepth 100000 in
theorem walk (v0 : Value) (x0 : Int) (fp0 : List Nat) (w : World) (H0 : sInt.R w [v0] x0 fp0) (hE : KE w) :
  Calls Tryd.prog 5 #[v0] w fun e w' => e = .returned (.bool true) ∧ Below w.heap.size w w' := by
 obtain ⟨h0, hok0, rfl⟩ := H0
 obtain rfl : v0 = .int .i64 x0 := by simpa using h0
 have hB := Below.refl w.heap.size w
 go_enter Tryd.func5, Tryd.ntmps5
 go_wp2_with fail
 refine (spec_KindText x0 _ hok0).mono ?_
 rintro e W1 ⟨rfl, b1⟩
 replace hB := hB.trans (b1.mono hB.size)
 have hz1 : w.heap.size ≤ W1.heap.size := b1.size
 clear b1
 go_wp2_with fail
 refine (impl_KindText x0 _ hok0 (hE.below hB (Nat.le_refl _))).mono ?_
 rintro e W2 ⟨rfl, b2⟩
 replace hB := hB.trans (b2.mono hB.size)
 have hz2 : W1.heap.size ≤ W2.heap.size := b2.size
 clear b2
 go_wp2
 go_ret
 exact ⟨rfl, hB⟩

theorem own : ownKnob Tryd.prog.godebug = none := by kernel_rfl
theorem laidOut : laidOutB Tryd.prog = true := by kernel_rfl
theorem readable : ∀ t ∈ Tryd.f5.params.toList, Tryd.prog.readableRec t = true ∧ t < Tryd.prog.types.size := by
 rw [Tryd.params5]
 simp only [List.mem_cons, List.not_mem_nil, or_false]
 rintro t rfl
 exact ⟨by kernel_rfl, of_decide_eq_true (by kernel_rfl)⟩

set_option maxRecDepth 100000 in
theorem lifted (os : Os) (started : os.Started) (H : Type) (enc : TypeId × Value → H) :
  ReturnsInHanded {} Tryd.checked os 5 .any (fun w args => (Rows.fnExactKindTextSpec.pre enc Tryd.prog Tryd.f5 Rows.fnExactKindTextRow.domain false w args ∧ laidMetH Tryd.prog Rows.fnExactKindTextRow.laid w) ∧ sizedMet enc Tryd.prog Tryd.f5 (OpenSpec.ofChange Rows.fnExactKindTextSpec) false w args) (Rows.fnExactKindTextSpec.post enc Tryd.prog Tryd.f5 false true false false) := by
 refine returnsIn_laid (C := Tryd.checked) (X := fun w _ => laidMetH Tryd.prog Rows.fnExactKindTextRow.laid w) (fun _ _ _ hh h => h.of_heap hh) own started (by kernel_rfl) Tryd.func5
  (ChangeSpec.witness_shaped (enc := enc) (C := Tryd.checked) (os := os) (X := fun w _ => laidMetH Tryd.prog Rows.fnExactKindTextRow.laid w) false (World.laidAll Tryd.prog os Rows.fnExactKindTextRow.laid) #[.int .i64 0] 8 (World.laidAll_os _ _ _)
   (World.shaped_of_ZipB (by kernel_rfl) (by kernel_rfl)) (by kernel_rfl) (by kernel_rfl) (by kernel_rfl)
   (by rw [MakeChecks.laidMetH_plain _ _ _ (by kernel_rfl)]; exact laidMet_laidAll _ (by kernel_rfl) (by kernel_rfl))) ?_
 intro W base args ds gs before hval0 hW hsh hL
 have hval : ∀ (j : Nat) t v, Tryd.f5.params[j]? = some t → args[j]? = some v → Value.okWide Tryd.prog W .any base t v := hval0
 have hW' := hW
 obtain ⟨p, q, hA0, hV, rfl, hfz, hnd⟩ := hW
 have hA : DataW.TrodAll enc Tryd.prog W 0 (fun _ => true) true Tryd.f5.params.toList args.toList ds p := hA0
 rw [Tryd.params5] at hA hval
 obtain ⟨v0, vs0, d0, ds0, p0, q0, hargs0, rfl, rfl, h0, r0⟩ := trodAll_cons hA
 obtain ⟨rfl, rfl, rfl⟩ := trodAll_nil r0
 obtain rfl : args = #[v0] := by cases args; simp_all
 obtain ⟨gv, tv, csv, fuv, dv, pv, rfl, -⟩ := trodVars_one hV
 obtain ⟨i0, rfl, _⟩ := okWide_int Tryd.underlying3 (hval 0 3 v0 rfl rfl)
 obtain ⟨x0, fp0, H0⟩ := open_arg (opens_int Tryd.underlying3) h0
 refine (walk _ x0 fp0 W H0 ⟨Env.of_shaped hsh, names_of_laid hL⟩).mono fun e W' ⟨he, hw⟩ => ?_
 subst he
 exact ⟨_, rfl, law_vars laidOut readable (by kernel_rfl) rfl Tryd.underlying4 hW' rfl rfl rfl hw⟩

theorem row_holds : Rows.FnExactKindTextSaid :=
 OpenClaim.holds_of_wide 5 Tryd.f5 rfl rfl rfl rfl rfl rfl rfl ⟨rfl, rfl, rfl, rfl, rfl⟩ rfl rfl rfl rfl rfl (by kernel_rfl) Tryd.func5 (by kernel_rfl)
  (of_decide_eq_true (by kernel_rfl)) (by unfold Func.isWrapper; first | (rw [if_pos (by decide +kernel)]; kernel_rfl) | (rw [if_neg (by decide +kernel)]; exact ⟨rfl, rfl⟩))
  (fun os started H enc _ => lifted os started H enc)

theorem holds : Rows.FnExactKindTextCardSaid :=
 Claim7.holds_tied_plain_at .later [] [.data] true Rows.fnExactKindTextCard.stood.harness Rows.fnExactKindTextCard.stood.looks row_holds (fun _ h => by cases h) (by kernel_rfl) (fun _ h => by cases h) fnExactKindText_row_tie rfl ⟨rfl, rfl⟩ (by kernel_rfl) rfl
  (fun f fn hf hfn => by
   obtain rfl : f = 5 := Option.some.inj ((show Tryd.prog.funcNamed "loop.example/macroprocessor/laws.FnExactKindText" = some 5 by kernel_rfl).symm.trans hf) |>.symm
   obtain rfl : fn = Tryd.f5 := (Option.some.inj (Tryd.func5.symm.trans hfn)).symm
   exact ⟨by kernel_rfl, fun j t ht => by
    rw [Tryd.params5] at ht
    have hm : t ∈ [3] := by simpa using Array.mem_of_getElem? ht
    have hall : ([3].all fun u => !Tryd.prog.wantsStandIn u) = true := by kernel_rfl
    exact (show Tryd.prog.wantsStandIn t = false by simpa using List.all_eq_true.1 hall t hm)⟩)
  (by kernel_rfl)

end Go.Proofs.YtlegeancmcmbaaaDoor.exactKindText
