/- Kinds have different names: no two kinds have the same. For every input. No conditions. -/
import Derived.Test.YtlegeancmcmbaaaDoorZU12
import Derived.Test.YtlegeancmcmbaaaDoorZU5
import Derived.Test.YtlegeancmcmbaaaDoorTie
import Derived.Test.YtlegeancmcmbaaaDoorCards
import Derived.SevenTiedAt
import Derived.Test.YtlegeancmcmbaaaDoorZU4
set_option linter.unusedVariables false
set_option linter.unusedSimpArgs false
namespace Go.Proofs.YtlegeancmcmbaaaDoor.lawKindText
open Go.ChangeShapes Go.WideShapes Go.ChangeAt Go.RowKit Go.ChangeMaps

theorem kinds_ne {k : Nat} {kd : Int} (h1 : 1 ≤ k) (h2 : k ≤ 10) (hn : ¬ (k : Int) = kd) : ((kindRes (k : Int)).toList == (kindRes kd).toList) = false := by
 rw [beq_eq_false_iff_ne]
 intro h
 rw [kindRes_in h1 h2] at h
 by_cases hk : 1 ≤ kd ∧ kd ≤ 10
 ·obtain ⟨j, rfl⟩ : ∃ j : Nat, kd = (j : Int) := ⟨kd.toNat, by omega⟩
  rw [kindRes_in (by omega) (by omega), ByteArray.toList_eq, ByteArray.toList_eq] at h
  simp only [List.toList_toArray] at h
  exact kind_two k (by omega) j (by omega) (by omega) h
 ·rw [kindRes_out hk, ByteArray.toList_eq, ByteArray.toList_eq] at h
  simp only [List.toList_toArray] at h
  exact kind_tx k (by omega) (by omega) h
theorem kind_empty {kd : Int} : ((kindRes kd).toList == []) = (decide (kd < 1) || decide (10 < kd)) := by
 by_cases hk : 1 ≤ kd ∧ kd ≤ 10
 ·obtain ⟨j, rfl⟩ : ∃ j : Nat, kd = (j : Int) := ⟨kd.toNat, by omega⟩
  rw [kindRes_in (by omega) (by omega), ByteArray.toList_eq, decide_eq_false (by omega), decide_eq_false (by omega), Bool.or_false, beq_eq_false_iff_ne]
  intro h
  simp only [List.toList_toArray] at h
  exact kind_tx j (by omega) (by omega) h
 ·rw [kindRes_out hk, ByteArray.toList_eq]
  by_cases h1 : kd < 1
  ·rw [decide_eq_true h1]; rfl
  ·rw [decide_eq_true (by omega : 10 < kd), Bool.or_true]; rfl

set_option maxHeartbeats 8000000 in
set_option maxRecDepth 100000 in
theorem walk (v0 : Value) (x0 : List UInt8) (fp0 : List Nat) (w : World) (H0 : (sSlice sByte).R w [v0] x0 fp0) (hE : KE w) :
  Calls Tryd.prog 3 #[v0] w fun e w' => e = .returned (.bool true) ∧ Below w.heap.size w w' := by
 have HH := Lib.hid H0
 obtain ⟨a, cap, hv, hc, hm, h⟩ := H0
 obtain rfl : v0 = .slice a x0.length cap := by simpa using hv
 unfold maxLen at hm
 clear h hv
 go_enter Tryd.func3, Tryd.ntmps3
 by_cases hbig : 1048576 < x0.length
 ·go_wp2
  go_ret
  exact ⟨rfl, Below.refl _ _⟩
 go_wp2_with fail
 refine (DrawKindText _ x0 fp0 _ HH.out).mono ?_
 rintro e w1 ⟨kd, rfl, hk0, hk1, hB⟩
 clear HH
 have hok : okInt kd := ⟨by omega, by omega⟩
 go_wp2_with fail
 refine (impl_KindText kd w1 hok (hE.below hB (Nat.le_refl _))).mono ?_
 rintro e w2 ⟨rfl, hb2⟩
 have hB2 := hB.trans (hb2.mono hB.size)
 go_wp2_with fail
 refine (spec_KindText kd w2 hok).mono ?_
 rintro e w3 ⟨rfl, hb3⟩
 have hB3 := hB2.trans (hb3.mono hB2.size)
 obtain ⟨s, HS⟩ : ∃ s, Hid (s = kindRes kd) := ⟨_, Lib.hid rfl⟩
 have HE : Hid ((s.toList == []) = (decide (kd < 1) || decide (10 < kd))) := by show _ = _; rw [HS.out]; exact kind_empty
 have HN : Hid (∀ k : Nat, 1 ≤ k → k ≤ 10 → ¬ (k : Int) = kd → ((kindRes (k : Int)).toList == s.toList) = false) := fun k h1 h2 hn => by rw [HS.out]; exact kinds_ne h1 h2 hn
 rw [show kindRes kd = s from HS.out.symm]
 have hss : (s.toList != s.toList) = false := by simp
 clear hB hb2 hb3 hB2
 go_wp2
 go_loopw [5] (fun i wr => ∃ k : Nat, 1 ≤ k ∧ k ≤ 11 ∧ i = .int .i64 k ∧ Below w.heap.size w wr) (fun i _ => 11 - (intOf i).toNat)
 case atStart => exact ⟨1, by omega, by omega, rfl, hB3⟩
 case round =>
  obtain ⟨k, h1, h11, rfl, hb⟩ := hrel
  by_cases hlt : k < 11
  ·have i0 : (k : Int) ≤ 10 := by omega
   by_cases hek : (k : Int) = kd
   ·have e1 : ((k : Int) != kd) = false := by simp [hek]
    clear hek
    go_wp2
    go_roundw
    case rel => exact ⟨k + 1, by omega, by omega, by go_num, hb⟩
    case measure => simp [intOf]; omega
   ·have e1 : ((k : Int) != kd) = true := by simp [hek]
    have HX := Lib.hid (HN.out k h1 (by omega) hek)
    have HC := Lib.hid (impl_KindText (k : Int) wr ⟨by omega, by omega⟩ (hE.below hb (Nat.le_refl _)))
    clear hek
    generalize kindRes (k : Int) = y at *
    have hx := HX.out
    go_wp2_with fail
    refine HC.out.mono ?_
    rintro e w5 ⟨rfl, hb5⟩
    go_wp2
    go_roundw
    case rel => exact ⟨k + 1, by omega, by omega, by go_num, hb.trans (hb5.mono hb.size)⟩
    case measure => simp [intOf]; omega
  ·have i0 : ¬ (k : Int) ≤ 10 := by omega
   have he := HE.out
   cases q : (s.toList == [])
   ·rw [q] at he
    have j1 : ¬ kd < 1 := fun h => by rw [decide_eq_true h] at he; exact absurd he (by simp)
    have j2 : ¬ 10 < kd := fun h => by rw [decide_eq_true h, Bool.or_true] at he; exact absurd he (by simp)
    clear he
    go_wp2_with (go_at_call 12; refine (alive _).mono ?_; rintro e w' ⟨rfl, rfl⟩)
    go_ret
    exact ⟨rfl, hb⟩
   ·rw [q] at he
    by_cases j1 : kd < 1
    ·clear he
     go_wp2_with (go_at_call 12; refine (alive _).mono ?_; rintro e w' ⟨rfl, rfl⟩)
     go_ret
     exact ⟨rfl, hb⟩
    ·have j2 : 10 < kd := by
      rw [decide_eq_false j1, Bool.false_or] at he
      exact of_decide_eq_true he.symm
     clear he
     go_wp2_with (go_at_call 12; refine (alive _).mono ?_; rintro e w' ⟨rfl, rfl⟩)
     go_ret
     exact ⟨rfl, hb⟩

theorem own : ownKnob Tryd.prog.godebug = none := by kernel_rfl
theorem laidOut : laidOutB Tryd.prog = true := by kernel_rfl
theorem readable : ∀ t ∈ Tryd.f3.params.toList, Tryd.prog.readableRec t = true ∧ t < Tryd.prog.types.size := by
 rw [Tryd.params3]
 simp only [List.mem_cons, List.not_mem_nil, or_false]
 rintro t rfl
 exact ⟨by kernel_rfl, of_decide_eq_true (by kernel_rfl)⟩

set_option maxRecDepth 100000 in
theorem lifted (os : Os) (started : os.Started) (H : Type) (enc : TypeId × Value → H) :
  ReturnsInHanded {} Tryd.checked os 3 .any (fun w args => (Rows.fnKindTextSpec.pre enc Tryd.prog Tryd.f3 Rows.fnKindTextRow.domain false w args ∧ laidMetH Tryd.prog Rows.fnKindTextRow.laid w) ∧ sizedMet enc Tryd.prog Tryd.f3 (OpenSpec.ofChange Rows.fnKindTextSpec) false w args) (Rows.fnKindTextSpec.post enc Tryd.prog Tryd.f3 false true false false) := by
 refine returnsIn_laid (C := Tryd.checked) (X := fun w _ => laidMetH Tryd.prog Rows.fnKindTextRow.laid w) (fun _ _ _ hh h => h.of_heap hh) own started (by kernel_rfl) Tryd.func3
  (ChangeSpec.witness_shaped (enc := enc) (C := Tryd.checked) (os := os) (X := fun w _ => laidMetH Tryd.prog Rows.fnKindTextRow.laid w) false (World.laidAll Tryd.prog os Rows.fnKindTextRow.laid) #[.slice none 0 0] 8 (World.laidAll_os _ _ _)
   (World.shaped_of_ZipB (by kernel_rfl) (by kernel_rfl)) (by kernel_rfl) (by kernel_rfl) (by kernel_rfl)
   (by rw [MakeChecks.laidMetH_plain _ _ _ (by kernel_rfl)]; exact laidMet_laidAll _ (by kernel_rfl) (by kernel_rfl))) ?_
 intro W base args ds gs before hval0 hW hsh hL
 have hval : ∀ (j : Nat) t v, Tryd.f3.params[j]? = some t → args[j]? = some v → Value.okWide Tryd.prog W .any base t v := hval0
 have hW' := hW
 obtain ⟨p, q, hA0, hV, rfl, hfz, hnd⟩ := hW
 have hA : DataW.TrodAll enc Tryd.prog W 0 (fun _ => true) true Tryd.f3.params.toList args.toList ds p := hA0
 rw [Tryd.params3] at hA hval
 obtain ⟨v0, vs0, d0, ds0, p0, q0, hargs0, rfl, rfl, h0, r0⟩ := trodAll_cons hA
 obtain ⟨rfl, rfl, rfl⟩ := trodAll_nil r0
 obtain rfl : args = #[v0] := by cases args; simp_all
 obtain ⟨gv, tv, csv, fuv, dv, pv, rfl, -⟩ := trodVars_one hV
 obtain ⟨a0, len0, cap0, rfl⟩ := okWide_slice Tryd.underlying22 (hval 0 22 v0 rfl rfl)
 obtain ⟨x0, fp0, H0⟩ := open_arg (opens_slice Tryd.underlying22 (by kernel_rfl) (by decide) (opens_byte Tryd.underlying5)) h0
 refine (walk _ x0 fp0 W H0 ⟨Env.of_shaped hsh, names_of_laid hL⟩).mono fun e W' ⟨he, hw⟩ => ?_
 subst he
 exact ⟨_, rfl, law_vars laidOut readable (by kernel_rfl) rfl Tryd.underlying4 hW' rfl rfl rfl hw⟩

theorem row_holds : Rows.FnKindTextSaid :=
 OpenClaim.holds_of_wide 3 Tryd.f3 rfl rfl rfl rfl rfl rfl rfl ⟨rfl, rfl, rfl, rfl, rfl⟩ rfl rfl rfl rfl rfl (by kernel_rfl) Tryd.func3 (by kernel_rfl)
  (of_decide_eq_true (by kernel_rfl)) (by unfold Func.isWrapper; first | (rw [if_pos (by decide +kernel)]; kernel_rfl) | (rw [if_neg (by decide +kernel)]; exact ⟨rfl, rfl⟩))
  (fun os started H enc _ => lifted os started H enc)

theorem holds : Rows.FnKindTextCardSaid :=
 Claim7.holds_tied_plain_at .later [] [.data] true Rows.fnKindTextCard.stood.harness Rows.fnKindTextCard.stood.looks row_holds (fun _ h => by cases h) (by kernel_rfl) (fun _ h => by cases h) fnKindText_row_tie rfl ⟨rfl, rfl⟩ (by kernel_rfl) rfl
  (fun f fn hf hfn => by
   obtain rfl : f = 3 := Option.some.inj ((show Tryd.prog.funcNamed "loop.example/macroprocessor/laws.FnKindText" = some 3 by kernel_rfl).symm.trans hf) |>.symm
   obtain rfl : fn = Tryd.f3 := (Option.some.inj (Tryd.func3.symm.trans hfn)).symm
   exact ⟨by kernel_rfl, fun j t ht => by
    rw [Tryd.params3] at ht
    have hm : t ∈ [22] := by simpa using Array.mem_of_getElem? ht
    have hall : ([22].all fun u => !Tryd.prog.wantsStandIn u) = true := by kernel_rfl
    exact (show Tryd.prog.wantsStandIn t = false by simpa using List.all_eq_true.1 hall t hm)⟩)
  (by kernel_rfl)

end Go.Proofs.YtlegeancmcmbaaaDoor.lawKindText
