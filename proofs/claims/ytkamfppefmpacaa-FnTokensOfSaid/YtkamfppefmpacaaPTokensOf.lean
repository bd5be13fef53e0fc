/- Tokens of a line are valid, and printed and divided again they are the same: for every input. No conditions. -/
import Derived.Test.YtkamfppefmpacaaDrawLine
import Derived.Test.YtkamfppefmpacaaTok7
import Derived.Test.YtkamfppefmpacaaPr5
import Derived.Test.YtkamfppefmpacaaPr6
import Derived.Test.YtkamfppefmpacaaSameTk
import Derived.Test.YtkamfppefmpacaaAlive
namespace Go.Proofs.Ytkamfppefmpacaa.lawTokensOf
open Go.ChangeShapes Go.WideShapes Go.ChangeAt Go.RowKit Go.ChangeMaps

set_option maxHeartbeats 2000000 in
theorem DrawTokensOf (v : Value) (l : List UInt8) (fp : List Nat) (w : World) (H : (sSlice sByte).R w [v] l fp) :
    Calls Try.prog 10 #[v] w fun e w' => ∃ s, e = .returned (.string s) ∧ s.size ≤ 1000 ∧ Below w.heap.size w w' := by
  go_enter Try.func10, Try.ntmps10
  go_wp2_with fail
  refine (l20Open _ l fp _ H).mono ?_
  rintro e w1 ⟨rb, rfl, hrb, hR, hB⟩
  go_wp2_with fail
  refine (l20Line rb 0 _ _ hR (by omega) (by omega) (by omega)).mono ?_
  rintro e w4 ⟨s, q4, rfl, hs, hq4, hR4, hK4⟩
  go_wp2
  go_ret
  exact ⟨s, rfl, hs, kept_below hB hK4 hrb hB.size⟩

set_option maxHeartbeats 8000000 in
set_option maxRecDepth 100000 in
theorem walk (v0 : Value) (x0 : List UInt8) (fp0 : List Nat) (w : World) (H0 : (sSlice sByte).R w [v0] x0 fp0) :
    Calls Try.prog 3 #[v0] w fun e w' => e = .returned (.bool true) ∧ Below w.heap.size w w' := by
  have HH := Lib.hid H0
  obtain ⟨a, cap, hv, hc, hm, h⟩ := H0
  obtain rfl : v0 = .slice a x0.length cap := by simpa using hv
  unfold maxLen at hm
  clear h hv
  go_enter Try.func3, Try.ntmps3
  by_cases hbig : 1048576 < x0.length
  · go_wp2
    go_ret
    exact ⟨rfl, Below.refl _ _⟩
  go_wp2_with fail
  refine (DrawTokensOf _ x0 fp0 _ HH.out).mono ?_
  rintro e w1 ⟨s, rfl, hs, hB⟩
  go_wp2_with fail
  refine (impl_TokensOf s _ (small_ok (by omega))).mono ?_
  rintro e w2 ⟨v2, f2, rfl, r2, -, b2⟩
  replace hB := hB.trans (b2.mono hB.size)
  go_wp2_with fail
  refine (spec_TokensOf s _ (small_ok (by omega))).mono ?_
  rintro e w3 ⟨v3, f3, rfl, r3, -, b3⟩
  replace r2 := (sSlice sTok).below r2 b3
  replace hB := hB.trans (b3.mono hB.size)
  have hbb : ∀ b : Bool, (b != b) = false := by intro b; simp
  have hbb' := hbb (tokRes s).2
  go_wp2_with fail
  refine (sameTokens_same _ _ _ _ _ _ r2 r3).mono ?_
  rintro e w4 ⟨rfl, b4⟩
  replace r2 := (sSlice sTok).below r2 b4
  replace hB := hB.trans (b4.mono hB.size)
  clear r3 b2 b3 b4
  rcases hr : tokRes s with ⟨l, ok⟩
  rw [hr] at r2 hbb'
  obtain ⟨a2, cap2, rfl, -⟩ := open_rows r2
  cases ok
  · obtain rfl := tokRes_false hr
    clear hr
    go_wp2_with (go_at_call 14; refine (alive _).mono ?_; rintro e w' ⟨rfl, rfl⟩)
    go_ret
    exact ⟨rfl, hB⟩
  · have HV := tokRes_valid hr
    clear hr
    go_wp2_with fail
    refine (impl_PrintTokens _ l _ _ r2).mono ?_
    rintro e w5 ⟨rfl, b5⟩
    replace r2 := (sSlice sTok).below r2 b5
    replace hB := hB.trans (b5.mono hB.size)
    rcases hp : printRes l with ⟨x, good⟩
    have hx : x.size ≤ 1000 := by
      unfold printRes at hp
      rw [if_pos HV] at hp
      split at hp
      · simp only [Prod.mk.injEq] at hp; rw [← hp.1]; decide
      · simp only [Prod.mk.injEq] at hp; rw [← hp.1]; omega
    go_wp2_with fail
    refine (impl_TokensOf x _ (small_ok (by omega))).mono ?_
    rintro e w6 ⟨v6, f6, rfl, r6, -, b6⟩
    replace r2 := (sSlice sTok).below r2 b6
    replace hB := hB.trans (b6.mono hB.size)
    have HC7 := Lib.hid (impl_TokensValid _ l _ _ r2)
    rw [HV] at HC7
    cases good
    · clear hp
      go_wp2_with fail
      refine HC7.out.mono ?_
      rintro e w7 ⟨rfl, b7⟩
      replace hB := hB.trans (b7.mono hB.size)
      go_wp2
      go_ret
      exact ⟨rfl, hB⟩
    · obtain ⟨out, ho, hsame⟩ := print_reads hp
      rw [ho] at r6 ⊢
      clear hp ho
      go_wp2_with fail
      refine HC7.out.mono ?_
      rintro e w7 ⟨rfl, b7⟩
      replace r2 := (sSlice sTok).below r2 b7
      replace r6 := (sSlice sTok).below r6 b7
      replace hB := hB.trans (b7.mono hB.size)
      have HC8 := Lib.hid (impl_SameTexts _ _ _ _ _ _ _ r6 r2)
      rw [hsame] at HC8
      go_wp2_with fail
      refine HC8.out.mono ?_
      rintro e w8 ⟨rfl, b8⟩
      replace hB := hB.trans (b8.mono hB.size)
      go_wp2
      go_ret
      exact ⟨rfl, hB⟩

theorem own : ownKnob Try.prog.godebug = none := by kernel_rfl
theorem laidOut : laidOutB Try.prog = true := by kernel_rfl
theorem readable : ∀ t ∈ Try.f3.params.toList, Try.prog.readableRec t = true ∧ t < Try.prog.types.size := by
  rw [Try.params3]
  simp only [List.mem_cons, List.not_mem_nil, or_false]
  rintro t rfl
  exact ⟨by kernel_rfl, of_decide_eq_true (by kernel_rfl)⟩

set_option maxRecDepth 100000 in
theorem lifted (os : Os) (started : os.Started) (H : Type) (enc : TypeId × Value → H) :
    ReturnsInHanded {} Try.checked os 3 .any (Rows.fnTokensOfSpec.pre6 enc Try.prog Try.f3 Rows.fnTokensOfRow.domain false) (Rows.fnTokensOfSpec.post enc Try.prog Try.f3 false true false false) := by
  refine returnsInHanded_of_change (C := Try.checked) own started (by kernel_rfl) Try.func3
    (ChangeSpec.witness6 (enc := enc) (C := Try.checked) false ⟨#[], #[.slice none 0 0], []⟩ 8 (by kernel_rfl) (by kernel_rfl) (by kernel_rfl) (by kernel_rfl)) ?_
  intro W base args ds gs before hval0 hW hcnd _
  have hval : ∀ (j : Nat) t v, Try.f3.params[j]? = some t → args[j]? = some v → Value.okWide Try.prog W .any base t v := hval0
  have hW' := hW
  obtain ⟨p, q, hA0, hV, rfl, hfz, hnd⟩ := hW
  have hA : DataW.TrodAll enc Try.prog W 0 (fun _ => true) true Try.f3.params.toList args.toList ds p := hA0
  rw [Try.params3] at hA hval
  obtain ⟨v0, vs0, d0, ds0, p0, q0, hargs0, rfl, rfl, h0, r0⟩ := trodAll_cons hA
  obtain ⟨rfl, rfl, rfl⟩ := trodAll_nil r0
  obtain rfl : args = #[v0] := by cases args; simp_all
  obtain ⟨rfl, rfl⟩ := trodVars_none hV
  obtain ⟨a0, len0, cap0, rfl⟩ := okWide_slice Try.underlying22 (hval 0 22 v0 rfl rfl)
  obtain ⟨x0, fp0, H0⟩ := open_arg (opens_slice Try.underlying22 (by kernel_rfl) (by decide) (opens_byte Try.underlying5)) h0
  refine (walk _ x0 fp0 W H0).mono fun e W' ⟨he, hw⟩ => ?_
  subst he
  exact ⟨_, rfl, law_done laidOut readable rfl rfl Try.underlying4 hW' rfl rfl rfl hw⟩

theorem holds : Rows.FnTokensOfSaid :=
  OpenClaim.holds_of_wide 3 Try.f3 rfl rfl rfl rfl rfl rfl rfl ⟨rfl, rfl, rfl, rfl, rfl⟩ rfl rfl rfl rfl rfl (by kernel_rfl) Try.func3 (by kernel_rfl)
    (of_decide_eq_true (by kernel_rfl)) (by unfold Func.isWrapper; first | (rw [if_pos (by decide +kernel)]; kernel_rfl) | (rw [if_neg (by decide +kernel)]; exact ⟨rfl, rfl⟩))
    (fun os started H enc _ => lifted os started H enc)

end Go.Proofs.Ytkamfppefmpacaa.lawTokensOf
