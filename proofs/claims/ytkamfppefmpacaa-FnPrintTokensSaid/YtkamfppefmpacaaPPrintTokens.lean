/- Printed tokens can be read: TokensOf the line has the same kinds and texts, in order: for every input. No conditions. -/
import Derived.Test.YtkamfppefmpacaaDrawTks
import Derived.Test.YtkamfppefmpacaaPr5
import Derived.Test.YtkamfppefmpacaaPr6
import Derived.Test.YtkamfppefmpacaaAlive
namespace Go.Proofs.Ytkamfppefmpacaa.lawPrintTokens
open Go.ChangeShapes Go.WideShapes Go.ChangeAt Go.RowKit Go.ChangeMaps

set_option maxHeartbeats 8000000 in
set_option maxRecDepth 100000 in
theorem walk (v0 : Value) (x0 : List UInt8) (fp0 : List Nat) (w : World) (H0 : (sSlice sByte).R w [v0] x0 fp0) :
    Calls Try.prog 5 #[v0] w fun e w' => e = .returned (.bool true) ∧ Below w.heap.size w w' := by
  have HH := Lib.hid H0
  obtain ⟨a, cap, hv, hc, hm, h⟩ := H0
  obtain rfl : v0 = .slice a x0.length cap := by simpa using hv
  unfold maxLen at hm
  clear h hv
  go_enter Try.func5, Try.ntmps5
  by_cases hbig : 1048576 < x0.length
  · go_wp2
    go_ret
    exact ⟨rfl, Below.refl _ _⟩
  go_wp2_with fail
  refine (DrawPrintTokens _ x0 fp0 _ HH.out).mono ?_
  rintro e w1 ⟨v1, L, rfl, hE, -, -, hB⟩
  obtain ⟨f1, r1, -⟩ := hE.read
  generalize L.map (·.d) = l at r1
  clear hE
  go_wp2_with fail
  refine (impl_PrintTokens _ l _ _ r1).mono ?_
  rintro e w2 ⟨rfl, b2⟩
  replace r1 := (sSlice sTok).below r1 b2
  replace hB := hB.trans (b2.mono hB.size)
  go_wp2_with fail
  refine (spec_PrintTokens _ l _ _ r1).mono ?_
  rintro e w3 ⟨rfl, b3⟩
  replace r1 := (sSlice sTok).below r1 b3
  replace hB := hB.trans (b3.mono hB.size)
  clear b2 b3
  have hbb : ∀ b : Bool, (b != b) = false := by intro b; simp
  rcases hp : printRes l with ⟨x, good⟩
  have hbb' := hbb good
  have hxx := bytes_beq (rfl : x = x)
  cases good
  · have hx : x = ⟨#[]⟩ := by
      unfold printRes at hp
      split at hp
      · split at hp
        · simp only [Prod.mk.injEq] at hp; exact hp.1.symm
        · simp at hp
      · simp only [Prod.mk.injEq] at hp; exact hp.1.symm
    subst hx
    clear hp
    go_wp2_with (go_at_call 14; refine (alive _).mono ?_; rintro e w' ⟨rfl, rfl⟩)
    go_ret
    exact ⟨rfl, hB⟩
  · obtain ⟨out, ho, hsame⟩ := print_reads hp
    have hx : x.size ≤ 1000 := by
      have := lineOk_size (tokRes_true ho).2
      omega
    clear hp
    go_wp2_with fail
    refine (impl_TokensOf x _ (small_ok (by omega))).mono ?_
    rintro e w6 ⟨v6, f6, rfl, r6, -, b6⟩
    rw [ho] at r6 ⊢
    replace r1 := (sSlice sTok).below r1 b6
    replace hB := hB.trans (b6.mono hB.size)
    have HC8 := Lib.hid (impl_SameTexts _ _ _ _ _ _ _ r6 r1)
    rw [hsame] at HC8
    clear ho
    go_wp2_with fail
    refine HC8.out.mono ?_
    rintro e w8 ⟨rfl, b8⟩
    replace hB := hB.trans (b8.mono hB.size)
    go_wp2
    go_ret
    exact ⟨rfl, hB⟩

theorem own : ownKnob Try.prog.godebug = none := by kernel_rfl
theorem laidOut : laidOutB Try.prog = true := by kernel_rfl
theorem readable : ∀ t ∈ Try.f5.params.toList, Try.prog.readableRec t = true ∧ t < Try.prog.types.size := by
  rw [Try.params5]
  simp only [List.mem_cons, List.not_mem_nil, or_false]
  rintro t rfl
  exact ⟨by kernel_rfl, of_decide_eq_true (by kernel_rfl)⟩

set_option maxRecDepth 100000 in
theorem lifted (os : Os) (started : os.Started) (H : Type) (enc : TypeId × Value → H) :
    ReturnsInHanded {} Try.checked os 5 .any (Rows.fnPrintTokensSpec.pre6 enc Try.prog Try.f5 Rows.fnPrintTokensRow.domain false) (Rows.fnPrintTokensSpec.post enc Try.prog Try.f5 false true false false) := by
  refine returnsInHanded_of_change (C := Try.checked) own started (by kernel_rfl) Try.func5
    (ChangeSpec.witness6 (enc := enc) (C := Try.checked) false ⟨#[], #[.slice none 0 0], []⟩ 8 (by kernel_rfl) (by kernel_rfl) (by kernel_rfl) (by kernel_rfl)) ?_
  intro W base args ds gs before hval0 hW hcnd _
  have hval : ∀ (j : Nat) t v, Try.f5.params[j]? = some t → args[j]? = some v → Value.okWide Try.prog W .any base t v := hval0
  have hW' := hW
  obtain ⟨p, q, hA0, hV, rfl, hfz, hnd⟩ := hW
  have hA : DataW.TrodAll enc Try.prog W 0 (fun _ => true) true Try.f5.params.toList args.toList ds p := hA0
  rw [Try.params5] at hA hval
  obtain ⟨v0, vs0, d0, ds0, p0, q0, hargs0, rfl, rfl, h0, r0⟩ := trodAll_cons hA
  obtain ⟨rfl, rfl, rfl⟩ := trodAll_nil r0
  obtain rfl : args = #[v0] := by cases args; simp_all
  obtain ⟨rfl, rfl⟩ := trodVars_none hV
  obtain ⟨a0, len0, cap0, rfl⟩ := okWide_slice Try.underlying22 (hval 0 22 v0 rfl rfl)
  obtain ⟨x0, fp0, H0⟩ := open_arg (opens_slice Try.underlying22 (by kernel_rfl) (by decide) (opens_byte Try.underlying5)) h0
  refine (walk _ x0 fp0 W H0).mono fun e W' ⟨he, hw⟩ => ?_
  subst he
  exact ⟨_, rfl, law_done laidOut readable rfl rfl Try.underlying4 hW' rfl rfl rfl hw⟩

theorem holds : Rows.FnPrintTokensSaid :=
  OpenClaim.holds_of_wide 5 Try.f5 rfl rfl rfl rfl rfl rfl rfl ⟨rfl, rfl, rfl, rfl, rfl⟩ rfl rfl rfl rfl rfl (by kernel_rfl) Try.func5 (by kernel_rfl)
    (of_decide_eq_true (by kernel_rfl)) (by unfold Func.isWrapper; first | (rw [if_pos (by decide +kernel)]; kernel_rfl) | (rw [if_neg (by decide +kernel)]; exact ⟨rfl, rfl⟩))
    (fun os started H enc _ => lifted os started H enc)

end Go.Proofs.Ytkamfppefmpacaa.lawPrintTokens
