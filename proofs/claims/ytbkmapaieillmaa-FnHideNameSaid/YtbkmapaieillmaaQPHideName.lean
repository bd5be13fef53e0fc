/- Hidden names are hidden: the tokens have the same texts, and every one has the name; hiding it again changes nothing: for every input. No conditions. -/
import Derived.Test.YtbkmapaieillmaaZU11
import Derived.Test.YtbkmapaieillmaaZU12
import Derived.Test.YtbkmapaieillmaaZU8
set_option linter.unusedVariables false
set_option linter.unusedSimpArgs false
namespace Go.Proofs.Ytbkmapaieillmaa.lawHideName
open Go.ChangeShapes Go.WideShapes Go.ChangeAt Go.RowKit Go.ChangeMaps

/-- Whether a name is among the first ones. -/
def fnd (l : List ByteArray) (n : ByteArray) (j : Nat) : Bool := (l.take j).any fun x => x.toList == n.toList
theorem fnd_zero (l : List ByteArray) (n : ByteArray) : fnd l n 0 = false := rfl
theorem fnd_succ {l : List ByteArray} {n : ByteArray} {j : Nat} (h : j < l.length) : fnd l n (j + 1) = (fnd l n j || (l[j].toList == n.toList)) := by
  unfold fnd
  rw [List.take_succ_eq_append_getElem h, List.any_append]; simp
theorem fnd_all {l : List ByteArray} {n : ByteArray} {j : Nat} (h : l.length ≤ j) : fnd l n j = hasN l n := by
  unfold fnd hasN
  rw [List.take_of_length_le h]

set_option maxHeartbeats 8000000 in
set_option maxRecDepth 100000 in
theorem walk (v0 : Value) (x0 : List UInt8) (fp0 : List Nat) (w : World) (H0 : (sSlice sByte).R w [v0] x0 fp0) :
    Calls Try.prog 4 #[v0] w fun e w' => e = .returned (.bool true) ∧ Below w.heap.size w w' := by
  have HH := Lib.hid H0
  obtain ⟨a, cap, hv, hc, hm, h⟩ := H0
  obtain rfl : v0 = .slice a x0.length cap := by simpa using hv
  unfold maxLen at hm
  clear h hv
  go_enter Try.func4, Try.ntmps4
  by_cases hbig : 1048576 < x0.length
  · go_wp2
    go_ret
    exact ⟨rfl, Below.refl _ _⟩

  go_wp2_with fail
  refine (DrawHideName _ x0 fp0 _ HH.out).mono ?_
  rintro e w1 ⟨v1, L, s, rfl, hE, hokL, hl, hsz, hB⟩
  obtain ⟨f1, r1, -⟩ := hE.read
  have HHD := Lib.hid (list_hid hokL)
  have hll : (L.map (·.d)).length ≤ 61 := by rw [List.length_map]; exact hl
  generalize L.map (·.d) = l at r1 HHD hll
  have hsm : s.size ≤ maxLen := by unfold maxLen; omega
  obtain ⟨a1, c1, rfl, -⟩ := open_rows r1
  clear hE hokL hl HH
  go_wp2_with fail
  refine (impl_HideName _ l s f1 w1 hsm r1).mono ?_
  rintro e w2 ⟨v2, f2, rfl, r2, -, b2⟩
  replace r1 := (sSlice sTok).below r1 b2
  replace hB := hB.trans (b2.mono hB.size)
  obtain ⟨m, hm2⟩ : ∃ m, m = hideRes l s := ⟨_, rfl⟩
  rw [← hm2] at r2
  obtain ⟨a2, c2, rfl, hc2, hm3, hrow⟩ := open_rows r2
  unfold maxLen at hm3
  clear b2
  have HSP := Lib.hid (spec_HideName _ l s f1 w2 (by omega) HHD.out hsm r1)
  unfold RetHid at HSP
  rw [← hm2] at HSP
  have HM := Lib.hid hm2
  clear hm2 HHD
  go_wp2_with fail
  refine HSP.out.mono ?_
  rintro e w3 ⟨v3, f3, rfl, r3, -, b3⟩
  replace r1 := (sSlice sTok).below r1 b3
  have r2' := (sSlice sTok).below r2 b3
  replace hB := hB.trans (b3.mono hB.size)
  have HSM := Lib.hid (sameTokens_same _ _ _ _ _ _ r2' r3)
  clear HSP r3
  go_wp2_with fail
  refine HSM.out.mono ?_
  rintro e w4 ⟨rfl, b4⟩
  replace r1 := (sSlice sTok).below r1 b4
  have R2 := Lib.hid ((sSlice sTok).below r2' b4)
  have R1 := Lib.hid r1
  replace hB := hB.trans (b4.mono hB.size)
  have hb24 := b3.trans (b4.mono b3.size)
  clear HSM r2 r2' r1 b3 b4
  by_cases h0 : m.length = 0
  · have e0 : ((m.length : Int) == 0) = true := by simp [h0]
    clear h0
    go_wp2_with (go_at_call 11; refine (alive _).mono ?_; rintro e w' ⟨rfl, rfl⟩)
    go_ret
    exact ⟨rfl, hB⟩
  have e0 : ((m.length : Int) == 0) = false := by rw [beq_eq_false_iff_ne]; omega
  have hne : hideRes l s ≠ [] := by rw [← HM.out]; intro h; rw [h] at h0; exact h0 rfl
  have HV : Hid (toksOk m = true) := by show _ = _; rw [HM.out]; exact (hide_fact hne).2.2.1
  have HA : Hid (hideRes m s = m) := by show _ = _; rw [HM.out]; exact hide_again hne
  have HT : Hid (sameTx m l = true) := by show _ = _; rw [HM.out]; exact hide_texts hne
  have HH : Hid (∀ t ∈ m, hasN t.hidden s = true) := by show ∀ t ∈ m, _; rw [HM.out]; exact hide_has hne
  clear hne h0 HM
  go_wp2
  go_loopw [6] (fun i wr => ∃ k : Nat, k ≤ m.length ∧ i = .int .i64 k ∧ wr = w4) (fun i _ => m.length - (intOf i).toNat)
  case atStart => exact ⟨0, by omega, rfl, rfl⟩
  case round =>
    obtain ⟨k, hk, rfl, rfl⟩ := hrel
    by_cases hlt : k < m.length
    · obtain ⟨b1, off1, fps1, rfl, hb1, -, he1⟩ := hrow (by omega)
      obtain ⟨es1, hE1, hR1⟩ := he1 k hlt
      clear hrow he1
      have hmem : m[k] ∈ m := List.getElem_mem hlt
      have HHK := Lib.hid (HH.out _ hmem)
      have hH60 := (hid_at (tok_hidOk ((toksOk_facts HV.out).2 k hlt))).1
      generalize m[k] = t at *
      have hR2 := sTok.below hR1 hb24
      obtain ⟨hv1, rfl, -, -, KH⟩ := hR2
      obtain ⟨ah, ch, rfl, hch, hmh, hcell, -⟩ := open_strs KH
      unfold maxLen at hmh
      clear KH hR1 hmem
      have hE2 := hE1.frame (hb24.block b1 hb1)
      have c13 : wr.cell? ⟨b1, off1 + k * 4 + 3, none⟩ = some _ := elem_cell (j := 3) hE2 (by decide) rfl
      clear hE1 hE2
      go_wp2
      go_loopw [7, 8] (fun f i wi => ∃ j : Nat, j ≤ t.hidden.length ∧ i = .int .i64 j ∧ f = .bool (fnd t.hidden s j) ∧ wi = wr) (fun _ i _ => t.hidden.length - (intOf i).toNat)
      case atStart => exact ⟨0, by omega, rfl, rfl, rfl⟩
      case round =>
        obtain ⟨j, hj, rfl, rfl, rfl⟩ := hrel
        by_cases hjt : j < t.hidden.length
        · have HFS := Lib.hid (fnd_succ (n := s) hjt)
          cases hf : fnd t.hidden s j
          · obtain ⟨bh, oh, rfl, -, -, he2⟩ := hcell (by omega)
            have d0 := he2 j hjt
            clear he2 hcell
            rw [hf, Bool.false_or] at HFS
            generalize hq : (t.hidden[j].toList == s.toList) = qq at *
            clear hf
            go_wp2
            go_roundw
            case rel => exact ⟨j + 1, by omega, by go_num, by rw [HFS.out], by trivial⟩
            case measure => simp [intOf]; omega
          · rw [hf, Bool.true_or] at HFS
            clear hf hcell
            go_wp2
            go_roundw
            case rel => exact ⟨j + 1, by omega, by go_num, by rw [HFS.out], by trivial⟩
            case measure => simp [intOf]; omega
        · have hf : fnd t.hidden s j = true := by rw [fnd_all (by omega)]; exact HHK.out
          rw [hf]
          clear hf hcell
          go_wp2
          go_roundw
          case rel => exact ⟨k + 1, by omega, by go_num, by trivial⟩
          case measure => simp [intOf]; omega
    · have HTV := Lib.hid (impl_TokensValid _ m f2 wr R2.out)
      rw [HV.out] at HTV
      have HST := Lib.hid (fun (W : World) (hW : Below wr.heap.size wr W) => impl_SameTexts _ _ _ _ _ _ W ((sSlice sTok).below R2.out hW) ((sSlice sTok).below R1.out hW))
      rw [HT.out] at HST
      have HHN := Lib.hid (fun (W : World) (hW : Below wr.heap.size wr W) => impl_HideName _ m s f2 W hsm ((sSlice sTok).below R2.out hW))
      unfold MineHid at HHN
      rw [HA.out] at HHN
      have HRR := Lib.hid (fun (W : World) (hW : Below wr.heap.size wr W) => (sSlice sTok).below R2.out hW)
      clear hrow
      go_wp2_with fail
      refine HTV.out.mono ?_
      rintro e w5 ⟨rfl, b5⟩
      clear HTV
      go_wp2_with fail
      refine (HST.out _ b5).mono ?_
      rintro e w6 ⟨rfl, b6⟩
      have b56 := b5.trans (b6.mono b5.size)
      clear HST
      go_wp2_with fail
      refine (HHN.out _ b56).mono ?_
      rintro e w7 ⟨v7, f7, rfl, r7, -, b7⟩
      have b57 := b56.trans (b7.mono b56.size)
      have HSN := Lib.hid (sameTokens_same _ _ _ _ _ _ r7 (HRR.out _ b57))
      clear HHN r7 HRR
      go_wp2_with fail
      refine HSN.out.mono ?_
      rintro e w8 ⟨rfl, b8⟩
      have hBF := hB.trans ((b57.trans (b8.mono b57.size)).mono hB.size)
      clear HSN
      go_wp2
      go_ret
      exact ⟨rfl, hBF⟩
theorem own : ownKnob Try.prog.godebug = none := by kernel_rfl
theorem laidOut : laidOutB Try.prog = true := by kernel_rfl
theorem readable : ∀ t ∈ Try.f4.params.toList, Try.prog.readableRec t = true ∧ t < Try.prog.types.size := by
  rw [Try.params4]
  simp only [List.mem_cons, List.not_mem_nil, or_false]
  rintro t rfl
  exact ⟨by kernel_rfl, of_decide_eq_true (by kernel_rfl)⟩

set_option maxRecDepth 100000 in
theorem lifted (os : Os) (started : os.Started) (H : Type) (enc : TypeId × Value → H) :
    ReturnsInHanded {} Try.checked os 4 .any (Rows.fnHideNameSpec.pre6 enc Try.prog Try.f4 Rows.fnHideNameRow.domain false) (Rows.fnHideNameSpec.post enc Try.prog Try.f4 false true false false) := by
  refine returnsInHanded_of_change (C := Try.checked) own started (by kernel_rfl) Try.func4
    (ChangeSpec.witness6 (enc := enc) (C := Try.checked) false ⟨#[], #[.slice none 0 0], []⟩ 8 (by kernel_rfl) (by kernel_rfl) (by kernel_rfl) (by kernel_rfl)) ?_
  intro W base args ds gs before hval0 hW hcnd _
  have hval : ∀ (j : Nat) t v, Try.f4.params[j]? = some t → args[j]? = some v → Value.okWide Try.prog W .any base t v := hval0
  have hW' := hW
  obtain ⟨p, q, hA0, hV, rfl, hfz, hnd⟩ := hW
  have hA : DataW.TrodAll enc Try.prog W 0 (fun _ => true) true Try.f4.params.toList args.toList ds p := hA0
  rw [Try.params4] at hA hval
  obtain ⟨v0, vs0, d0, ds0, p0, q0, hargs0, rfl, rfl, h0, r0⟩ := trodAll_cons hA
  obtain ⟨rfl, rfl, rfl⟩ := trodAll_nil r0
  obtain rfl : args = #[v0] := by cases args; simp_all
  obtain ⟨rfl, rfl⟩ := trodVars_none hV
  obtain ⟨a0, len0, cap0, rfl⟩ := okWide_slice Try.underlying22 (hval 0 22 v0 rfl rfl)
  obtain ⟨x0, fp0, H0⟩ := open_arg (opens_slice Try.underlying22 (by kernel_rfl) (by decide) (opens_byte Try.underlying5)) h0
  refine (walk _ x0 fp0 W H0).mono fun e W' ⟨he, hw⟩ => ?_
  subst he
  exact ⟨_, rfl, law_done laidOut readable rfl rfl Try.underlying4 hW' rfl rfl rfl hw⟩

theorem holds : Rows.FnHideNameSaid :=
  OpenClaim.holds_of_wide 4 Try.f4 rfl rfl rfl rfl rfl rfl rfl ⟨rfl, rfl, rfl, rfl, rfl⟩ rfl rfl rfl rfl rfl (by kernel_rfl) Try.func4 (by kernel_rfl)
    (of_decide_eq_true (by kernel_rfl)) (by unfold Func.isWrapper; first | (rw [if_pos (by decide +kernel)]; kernel_rfl) | (rw [if_neg (by decide +kernel)]; exact ⟨rfl, rfl⟩))
    (fun os started H enc _ => lifted os started H enc)


end Go.Proofs.Ytbkmapaieillmaa.lawHideName
