/- Replaced tokens are not defined any more: there is no name defined left, and replacing again changes nothing. For every input. No conditions. -/
import Derived.Test.YtipfpppcbmpjiaaZU15
import Derived.Test.YtipfpppcbmpjiaaZU14
import Derived.Test.YtipfpppcbmpjiaaZU6
import Derived.Test.YtipfpppcbmpjiaaZU12
set_option linter.unusedVariables false
set_option linter.unusedSimpArgs false
namespace Go.Proofs.Ytipfpppcbmpjiaa.lawReplaceDefined
open Go.ChangeShapes Go.WideShapes Go.ChangeAt Go.RowKit Go.ChangeMaps

theorem hidL {l : List Tok} (h : ∀ t ∈ l, okTok t) : ∀ k, (hk : k < l.length) → l[k].hidden.length ≤ 2000000 := fun k hk => by have := (h _ (List.getElem_mem hk)).2.2.2; omega
theorem dfn_two {t : Tok} (h : isDfn t = false) (hk : t.kind = 1) : (t.text.toList == [100, 101, 102, 105, 110, 101, 100]) = false := by
  unfold isDfn at h
  rw [decide_eq_true hk, Bool.true_and] at h
  exact h

set_option maxHeartbeats 16000000 in
set_option maxRecDepth 100000 in
theorem walk (v0 : Value) (x0 : List UInt8) (fp0 : List Nat) (w : World) (H0 : (sSlice sByte).R w [v0] x0 fp0) :
    Calls Try.prog 3 #[v0] w fun e w' => e = .returned (.bool true) ∧ Below w.heap.size w w' := by
  have HH := Lib.hid H0
  obtain ⟨a, cap, hv, hc, hm, h⟩ := H0
  obtain rfl : v0 = .slice a x0.length cap := by simpa using hv
  unfold maxLen at hm
  clear h hv
  go_enter Try.func3, Try.ntmps3
  by_cases hbig : 1048576 < x0.length
  · go_wp2
    go_ret
    exact ⟨rfl, Below.refl _ _⟩
  go_wp2_with fail
  refine (DrawReplaceDefined _ x0 fp0 _ HH.out).mono ?_
  rintro e w1 ⟨vT, T, fpT, vL, L, rfl, hT, hokT, hT9, hE, hokL, hl61, hB⟩
  obtain ⟨f1, r1, -⟩ := hE.read
  have hokl : ∀ t ∈ L.map (·.d), okTok t := fun t ht => by obtain ⟨x, hx, rfl⟩ := List.mem_map.1 ht; exact hokL x hx
  have hll : (L.map (·.d)).length ≤ 61 := by rw [List.length_map]; exact hl61
  generalize L.map (·.d) = l at r1 hokl hll
  have HI := Lib.hid (fun W (hW : Below w1.heap.size w1 W) => impl_ReplaceDefined vT T fpT vL l f1 W ((sSlice sMacro).below hT hW) ((sSlice sTok).below r1 hW))
  have HS := Lib.hid (fun W (hW : Below w1.heap.size w1 W) => spec_ReplaceDefined vT T fpT vL l f1 W (by omega) (fun k hk => okMac_sm (hokT _ (List.getElem_mem hk))) (by omega) (hidL hokl) ((sSlice sMacro).below hT hW) ((sSlice sTok).below r1 hW))
  have HI2 := Lib.hid (fun (v : Value) (x : List Tok) (f : List Nat) W (hW : Below w1.heap.size w1 W) (hx : (sSlice sTok).R W [v] x f) => impl_ReplaceDefined vT T fpT v x f W ((sSlice sMacro).below hT hW) hx)
  unfold MineRep at HI HI2
  unfold RetRep at HS
  obtain ⟨aT, cT, rfl, -⟩ := open_rows hT
  obtain ⟨aL, cL, rfl, -⟩ := open_rows r1
  rcases hr : repRes T l with ⟨x, ok⟩
  rw [hr] at HI HS
  try dsimp only at HI HS
  have HR := Lib.hid hr
  have hne : (ok != ok) = false := by simp
  clear hr hT hokT hE hokL r1 hokl hT9 hl61 HH
  go_wp2_with fail
  refine (HI.out _ (Below.refl _ _)).mono ?_
  rintro e w2 ⟨vx, fx, rfl, rx, -, hb2⟩
  obtain ⟨ax, cx, rfl, hcx, hmx, hrowx⟩ := open_rows rx
  unfold maxLen at hmx
  have HRX := Lib.hid rx
  have HXR : Hid (0 < x.length → ∃ bb ob, ax = some ⟨bb, ob, none⟩) := fun h => by obtain ⟨b, o, -, e, -⟩ := hrowx h; exact ⟨b, o, e⟩
  clear rx hrowx
  go_wp2_with fail
  refine (HS.out _ hb2).mono ?_
  rintro e w3 ⟨vy, fy, rfl, ry, -, hb3⟩
  have hb13 := hb2.trans (hb3.mono hb2.size)
  obtain ⟨ay, cy, rfl, -⟩ := open_rows ry
  have HSM := Lib.hid (sameTokens_same _ _ _ _ _ w3 ((sSlice sTok).below HRX.out hb3) ry)
  clear ry HI HS
  go_wp2_with fail
  refine HSM.out.mono ?_
  rintro e w4 ⟨rfl, hb4⟩
  have hb14 := hb13.trans (hb4.mono hb13.size)
  have hb24 := hb3.trans (hb4.mono hb3.size)
  have hB4 := hB.trans (hb14.mono hB.size)
  have HRX4 := Lib.hid ((sSlice sTok).below HRX.out hb24)
  clear HSM HRX hb2 hb3 hb4 hb13 hb24
  cases ok
  · have HF := Lib.hid (repRes_no HR.out)
    have e0 : ((x.length : Int) == 0) = true := by rw [HF.out]; rfl
    clear HR
    go_wp2_with (go_at_call 9; refine (alive _).mono ?_; rintro e w' ⟨rfl, rfl⟩)
    go_ret
    exact ⟨rfl, hB4⟩
  obtain ⟨hfree, hagain, hlen⟩ := repRes_fact HR.out
  have HFR := Lib.hid hfree
  have HAG := Lib.hid hagain
  have hx60 : x.length ≤ 61 := by omega
  have hlen2 : (x.length : Int) ≤ (l.length : Int) := by omega
  clear HR hfree hagain
  go_wp2
  go_loopw [9] (fun i wr => ∃ k : Nat, k ≤ x.length ∧ i = .int .i64 k ∧ Hid (wr = w4)) (fun i _ => x.length - (intOf i).toNat)
  case atStart => exact ⟨0, by omega, rfl, Lib.hid rfl⟩
  case round =>
    obtain ⟨k, hk, rfl, HW⟩ := hrel
    obtain rfl : wr = w4 := HW.out
    by_cases hlt : k < x.length
    · obtain ⟨bb, ob, rfl⟩ := HXR.out (by omega)
      obtain ⟨xa, xc, xf, q0, q1, q2, q3, -, -, -⟩ := tok_at HRX4.out hlt
      have hfr := HFR.out _ (List.getElem_mem hlt)
      obtain ⟨tk, HTK⟩ : ∃ tk : Tok, Hid (tk = x[k]) := ⟨_, Lib.hid rfl⟩
      rw [show x[k] = tk from HTK.out.symm] at q0 q1 q2 q3 hfr
      have i0 : (0 : Int) ≤ (k : Int) := by omega
      have i1 : (k : Int) < (x.length : Int) := by omega
      have hwk : IntKind.i64.wrap ((k : Int) + 1) = ((k + 1 : Nat) : Int) := by rw [IntWalk.i64_in _ (by omega)]; omega
      by_cases hk1 : tk.kind = 1
      · have e1 : (tk.kind == 1) = true := by simp [hk1]
        have e2 := dfn_two hfr hk1
        clear hk1 hfr
        go_wp2
        go_roundw
        case rel => exact ⟨k + 1, by omega, by go_num, Lib.hid trivial⟩
        case measure => simp [intOf]; omega
      · have e1 : (tk.kind == 1) = false := by simp [hk1]
        clear hk1 hfr
        go_wp2
        go_roundw
        case rel => exact ⟨k + 1, by omega, by go_num, Lib.hid trivial⟩
        case measure => simp [intOf]; omega
    · have i1 : ¬ (k : Int) < (x.length : Int) := by omega
      have HZ := Lib.hid (HI2.out _ x fx wr hb14 HRX4.out)
      rw [HAG.out] at HZ
      try dsimp only at HZ
      clear HI2
      go_wp2_with fail
      refine HZ.out.mono ?_
      rintro e w5 ⟨vz, fz, rfl, rz, -, hb5⟩
      obtain ⟨az, cz, rfl, -⟩ := open_rows rz
      have HSM := Lib.hid (sameTokens_same _ _ _ _ _ w5 rz ((sSlice sTok).below HRX4.out hb5))
      have hB5 := hB4.trans (hb5.mono hB4.size)
      clear rz
      go_wp2_with fail
      refine HSM.out.mono ?_
      rintro e w6 ⟨rfl, hb6⟩
      have hB6 := hB5.trans (hb6.mono hB5.size)
      go_wp2
      go_ret
      exact ⟨rfl, hB6⟩

theorem own : ownKnob Try.prog.godebug = none := by kernel_rfl
theorem laidOut : laidOutB Try.prog = true := by kernel_rfl
theorem readable : ∀ t ∈ Try.f3.params.toList, Try.prog.readableRec t = true ∧ t < Try.prog.types.size := by
  rw [Try.params3]
  simp only [List.mem_cons, List.not_mem_nil, or_false]
  rintro t rfl
  exact ⟨by kernel_rfl, of_decide_eq_true (by kernel_rfl)⟩

set_option maxRecDepth 100000 in
theorem lifted (os : Os) (started : os.Started) (H : Type) (enc : TypeId × Value → H) :
    ReturnsInHanded {} Try.checked os 3 .any (Rows.fnReplaceDefinedSpec.pre6 enc Try.prog Try.f3 Rows.fnReplaceDefinedRow.domain false) (Rows.fnReplaceDefinedSpec.post enc Try.prog Try.f3 false true false false) := by
  refine returnsInHanded_of_change (C := Try.checked) own started (by kernel_rfl) Try.func3
    (ChangeSpec.witness6 (enc := enc) (C := Try.checked) false ⟨#[], #[.slice none 0 0], []⟩ 8 (by kernel_rfl) (by kernel_rfl) (by kernel_rfl) (by kernel_rfl)) ?_
  intro W base args ds gs before hval0 hW hcnd _
  have hval : ∀ (j : Nat) t v, Try.f3.params[j]? = some t → args[j]? = some v → Value.okWide Try.prog W .any base t v := hval0
  have hW' := hW
  obtain ⟨p, q, hA0, hV, rfl, hfz, hnd⟩ := hW
  have hA : DataW.TrodAll enc Try.prog W 0 (fun _ => true) true Try.f3.params.toList args.toList ds p := hA0
  rw [Try.params3] at hA hval
  obtain ⟨v0, vs0, d0, ds0, p0, q0, hargs0, rfl, rfl, h0, r0⟩ := trodAll_cons hA
  obtain ⟨rfl, rfl, rfl⟩ := trodAll_nil r0
  obtain rfl : args = #[v0] := by cases args; simp_all
  obtain ⟨rfl, rfl⟩ := trodVars_none hV
  obtain ⟨a0, len0, cap0, rfl⟩ := okWide_slice Try.underlying22 (hval 0 22 v0 rfl rfl)
  obtain ⟨x0, fp0, H0⟩ := open_arg (opens_slice Try.underlying22 (by kernel_rfl) (by decide) (opens_byte Try.underlying5)) h0
  refine (walk _ x0 fp0 W H0).mono fun e W' ⟨he, hw⟩ => ?_
  subst he
  exact ⟨_, rfl, law_done laidOut readable rfl rfl Try.underlying4 hW' rfl rfl rfl hw⟩

theorem holds : Rows.FnReplaceDefinedSaid :=
  OpenClaim.holds_of_wide 3 Try.f3 rfl rfl rfl rfl rfl rfl rfl ⟨rfl, rfl, rfl, rfl, rfl⟩ rfl rfl rfl rfl rfl (by kernel_rfl) Try.func3 (by kernel_rfl)
    (of_decide_eq_true (by kernel_rfl)) (by unfold Func.isWrapper; first | (rw [if_pos (by decide +kernel)]; kernel_rfl) | (rw [if_neg (by decide +kernel)]; exact ⟨rfl, rfl⟩))
    (fun os started H enc _ => lifted os started H enc)


end Go.Proofs.Ytipfpppcbmpjiaa.lawReplaceDefined
