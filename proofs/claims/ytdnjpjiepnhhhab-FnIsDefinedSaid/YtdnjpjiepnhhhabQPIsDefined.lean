/- IsDefined: both say whether a valid table has a macro with the name; after Undefine the name is not defined. For every input. No conditions. -/
import Derived.Test.YtdnjpjiepnhhhabYPIsDefined1
import Derived.Test.YtdnjpjiepnhhhabYPIsDefined2
set_option linter.unusedVariables false
set_option linter.unusedSimpArgs false
namespace Go.Proofs.Ytdnjpjiepnhhhab.lawIsDefined
open Go.ChangeShapes Go.WideShapes Go.ChangeAt Go.RowKit Go.ChangeMaps

set_option maxHeartbeats 2000000 in
theorem DrawIsDefined (v : Value) (l : List UInt8) (fp : List Nat) (w : World) (H : (sSlice sByte).R w [v] l fp) :
    Calls Try.prog 17 #[v] w fun e w' => ∃ (v' : Value) (t : List DMacro) (fp' : List Nat) (s : ByteArray), e = .returned (.tuple #[v', .string s]) ∧ (sSlice sMacro).R w' [v'] t fp' ∧ (∀ m ∈ t, okMac m) ∧ t.length ≤ 9 ∧ s.size ≤ 10 ∧ Below w.heap.size w w' := by
  go_enter Try.func17, Try.ntmps17
  go_wp2_with fail
  refine (l20Open _ l fp _ H).mono ?_
  rintro e w1 ⟨rb, rfl, hrb, hR, hB⟩
  go_wp2_with fail
  refine (l20Table rb 0 _ _ hR (by omega) (by omega) (by omega)).mono ?_
  rintro e w4 ⟨v', t, fp', q, rfl, hT, hlo, hok, hl, hq, hR4, hK⟩
  have HT := Lib.hid hT
  have HF := Lib.hid (kept_below hB hK hrb hB.size)
  have HOK := Lib.hid hok
  have HLO := Lib.hid hlo
  have hlt := hR.lt
  clear hT hK hok hlo
  go_wp2_with fail
  refine (l20Word rb q _ hR4 (by omega)).mono ?_
  rintro e w5 ⟨s, q5, rfl, hs, -, -, hK5⟩
  have hsz := HF.out.size
  have hnr : Hid (rb ∉ fp') := fun hx => by have := HLO.out rb hx; omega
  have HT5 := Lib.hid ((sSlice sMacro).kept HT.out (fun b hb hx => hnr.out (by have e : b = rb := (by simpa using hx); rw [← e]; exact hb)) hK5)
  have HF5 := Lib.hid (kept_below HF.out hK5 hrb HF.out.size)
  clear hK5 HT HF hR4
  go_wp2
  go_ret2
  exact ⟨v', t, fp', s, rfl, HT5.out, HOK.out, hl, hs, HF5.out⟩

def eqN (nm : ByteArray) (m : DMacro) : Bool := m.name.toList == nm.toList
theorem any_in {l : List DMacro} (h : tabOk l = true) (nm : ByteArray) : l.any (eqN nm) = isIn l nm := by
  cases hi : isIn l nm
  · rw [List.any_eq_false]
    intro m hm
    obtain ⟨j, hj, rfl⟩ := List.getElem_of_mem hm
    have := keep_low h nm hj
    rw [hi, Bool.false_and, Bool.not_false] at this
    unfold keepN at this
    simpa [eqN] using this
  · rw [List.any_eq_true]
    have hlow := isIn_lt hi
    refine ⟨_, List.getElem_mem hlow, ?_⟩
    unfold isIn at hi
    rw [dif_pos hlow] at hi
    exact hi
theorem gone_no {l : List DMacro} {nm : ByteArray} : isIn (unDef l nm) nm = false := by
  cases hi : isIn (unDef l nm) nm
  · rfl
  · have hlow := isIn_lt hi
    have hm := List.getElem_mem hlow
    unfold isIn at hi
    rw [dif_pos hlow] at hi
    generalize (unDef l nm)[lowAt (unDef l nm) nm] = m at hm hi
    unfold unDef at hm
    split at hm
    · have := (List.mem_filter.1 hm).2
      unfold keepN at this
      rw [hi] at this
      exact absurd this (by simp)
    · simp at hm
theorem any_take {l : List DMacro} {k : Nat} (hk : k < l.length) (nm : ByteArray) : (l.take (k + 1)).any (eqN nm) = ((l.take k).any (eqN nm) || (l[k].name.toList == nm.toList)) := by
  rw [List.take_succ_eq_append_getElem hk, List.any_append]
  simp [eqN]

set_option maxHeartbeats 8000000 in
set_option maxRecDepth 100000 in
theorem walk (v0 : Value) (x0 : List UInt8) (fp0 : List Nat) (w : World) (H0 : (sSlice sByte).R w [v0] x0 fp0) :
    Calls Try.prog 6 #[v0] w fun e w' => e = .returned (.bool true) ∧ Below w.heap.size w w' := by
  have HH := Lib.hid H0
  obtain ⟨a, cap, hv, hc, hm, h⟩ := H0
  obtain rfl : v0 = .slice a x0.length cap := by simpa using hv
  unfold maxLen at hm
  clear h hv
  go_enter Try.func6, Try.ntmps6
  by_cases hbig : 1048576 < x0.length
  · go_wp2
    go_ret
    exact ⟨rfl, Below.refl _ _⟩
  go_wp2_with fail
  refine (DrawIsDefined _ x0 fp0 _ HH.out).mono ?_
  rintro e w1 ⟨v1, t, fp, s, rfl, hR, hok, hl9, hs, hB⟩
  have HOK := Lib.hid hok
  clear hok
  obtain ⟨a1, cap1, rfl, hc1, hm1, -⟩ := open_rows hR
  unfold maxLen at hm1
  go_wp2_with fail
  refine (impl_IsDefined _ t s fp _ hR).mono ?_
  rintro e w2 ⟨rfl, hb2⟩
  replace hR := (sSlice sMacro).below hR hb2
  replace hB := hB.trans (hb2.mono hB.size)
  have hbb : ∀ b : Bool, (b != b) = false := by intro b; simp
  have hbb' := hbb (defd t s)
  clear hb2 hbb
  go_wp2_with fail
  refine (spec_IsDefined _ t s fp _ hR).mono ?_
  rintro e w3 ⟨rfl, hb3⟩
  replace hR := (sSlice sMacro).below hR hb3
  replace hB := hB.trans (hb3.mono hB.size)
  have HR := Lib.hid hR
  have HB := Lib.hid hB
  obtain ⟨aq, capq, hvq, -, -, hrow⟩ := open_rows hR
  simp only [Value.slice.injEq, true_and] at hvq
  obtain ⟨rfl, rfl⟩ := hvq
  clear hb3 hR hB
  go_wp2
  go_loopw [6, 7] (fun f i wr => ∃ k : Nat, k ≤ t.length ∧ i = .int .i64 k ∧ f = .bool ((t.take k).any (eqN s)) ∧ Below w3.heap.size w3 wr) (fun _ i _ => t.length - (intOf i).toNat)
  case atStart => exact ⟨0, by omega, rfl, rfl, Below.refl _ _⟩
  case round =>
    obtain ⟨k, hk, rfl, rfl, hb⟩ := hrel
    by_cases hlt : k < t.length
    · obtain ⟨b1, off1, fps1, hat, hb1, -, he1⟩ := hrow (by omega)
      subst hat
      obtain ⟨es, hE, hRE⟩ := he1 k hlt
      obtain ⟨u2, u3, r2, r3, rfl, _, _, _, _⟩ := hRE
      replace hE := hE.frame (hb.block b1 hb1)
      have c10 : wr.cell? ⟨b1, off1 + k * 4, none⟩ = some _ := elem_cell0 hE (by decide) rfl
      have HA := Lib.hid (any_take hlt s)
      clear hE he1 hrow
      cases hf : (t.take k).any (eqN s)
      · rw [hf, Bool.false_or] at HA
        generalize hg : (t[k].name.toList == s.toList) = g at *
        go_wp2
        go_roundw
        case rel => exact ⟨k + 1, by omega, by go_num, by rw [HA.out], hb⟩
        case measure => simp [intOf]; omega
      · rw [hf, Bool.true_or] at HA
        go_wp2
        go_roundw
        case rel => exact ⟨k + 1, by omega, by go_num, by rw [HA.out], hb⟩
        case measure => simp [intOf]; omega
    · have hkk : t.take k = t := List.take_of_length_le (by omega)
      rw [hkk]
      have HR4 := Lib.hid ((sSlice sMacro).below HR.out hb)
      have HB4 := Lib.hid (HB.out.trans (hb.mono HB.out.size))
      have HD : Hid (defd t s = (t.any (eqN s) && tabOk t)) := by
        show _ = _
        unfold defd
        cases ht : tabOk t
        · simp
        · rw [any_in ht s]; simp
      clear hkk HR HB hrow hb
      have HTV := Lib.hid (fun W (hW : Below wr.heap.size wr W) => impl_TableValid _ t fp W ((sSlice sMacro).below HR4.out hW))
      have HUN := Lib.hid (fun W (hW : Below wr.heap.size wr W) => impl_Undefine _ t s fp W (by omega) (fun k hk => okMac_sm (HOK.out _ (List.getElem_mem hk))) ((sSlice sMacro).below HR4.out hW))
      have HNO : Hid (defd (unDef t s) s = false) := by show _ = _; unfold defd; rw [gone_no, Bool.and_false]
      rw [HD.out]
      have hee : ∀ b : Bool, (b == b) = true := by intro b; simp
      clear HR4 HD hbb'
      cases hf : t.any (eqN s)
      · rw [Bool.false_and]
        go_wp2_with fail
        refine (HUN.out _ (Below.refl _ _)).mono ?_
        rintro e w4 ⟨v4, L, rfl, hE, hD4, -, hb4⟩
        obtain ⟨f4, r4, -⟩ := hE.read
        rw [hD4] at r4
        have HID := Lib.hid (impl_IsDefined v4 _ s f4 w4 r4)
        rw [HNO.out] at HID
        have HB5 := Lib.hid (HB4.out.trans (hb4.mono HB4.out.size))
        clear hE hD4 hb4 r4
        go_wp2_with fail
        refine HID.out.mono ?_
        rintro e w5 ⟨rfl, hb5⟩
        have HB6 := Lib.hid (HB5.out.trans (hb5.mono HB5.out.size))
        clear hb5
        go_wp2_with (go_at_call 14; refine (alive _).mono ?_; rintro e w' ⟨rfl, rfl⟩)
        go_ret
        exact ⟨rfl, HB6.out⟩
      · rw [Bool.true_and]
        have he2 := hee (tabOk t)
        go_wp2_with fail
        refine (HTV.out _ (Below.refl _ _)).mono ?_
        rintro e w3' ⟨rfl, hb3'⟩
        have HB4' := Lib.hid (HB4.out.trans (hb3'.mono HB4.out.size))
        go_wp2_with fail
        refine (HUN.out _ hb3').mono ?_
        rintro e w4 ⟨v4, L, rfl, hE, hD4, -, hb4⟩
        obtain ⟨f4, r4, -⟩ := hE.read
        rw [hD4] at r4
        have HID := Lib.hid (impl_IsDefined v4 _ s f4 w4 r4)
        rw [HNO.out] at HID
        have HB5 := Lib.hid (HB4'.out.trans (hb4.mono HB4'.out.size))
        clear hE hD4 hb4 r4 hb3'
        go_wp2_with fail
        refine HID.out.mono ?_
        rintro e w5 ⟨rfl, hb5⟩
        have HB6 := Lib.hid (HB5.out.trans (hb5.mono HB5.out.size))
        clear hb5
        go_wp2_with (go_at_call 14; refine (alive _).mono ?_; rintro e w' ⟨rfl, rfl⟩)
        go_ret
        exact ⟨rfl, HB6.out⟩

theorem own : ownKnob Try.prog.godebug = none := by kernel_rfl
theorem laidOut : laidOutB Try.prog = true := by kernel_rfl
theorem readable : ∀ t ∈ Try.f6.params.toList, Try.prog.readableRec t = true ∧ t < Try.prog.types.size := by
  rw [Try.params6]
  simp only [List.mem_cons, List.not_mem_nil, or_false]
  rintro t rfl
  exact ⟨by kernel_rfl, of_decide_eq_true (by kernel_rfl)⟩

set_option maxRecDepth 100000 in
theorem lifted (os : Os) (started : os.Started) (H : Type) (enc : TypeId × Value → H) :
    ReturnsInHanded {} Try.checked os 6 .any (Rows.fnIsDefinedSpec.pre6 enc Try.prog Try.f6 Rows.fnIsDefinedRow.domain false) (Rows.fnIsDefinedSpec.post enc Try.prog Try.f6 false true false false) := by
  refine returnsInHanded_of_change (C := Try.checked) own started (by kernel_rfl) Try.func6
    (ChangeSpec.witness6 (enc := enc) (C := Try.checked) false ⟨#[], #[.slice none 0 0], []⟩ 8 (by kernel_rfl) (by kernel_rfl) (by kernel_rfl) (by kernel_rfl)) ?_
  intro W base args ds gs before hval0 hW hcnd _
  have hval : ∀ (j : Nat) t v, Try.f6.params[j]? = some t → args[j]? = some v → Value.okWide Try.prog W .any base t v := hval0
  have hW' := hW
  obtain ⟨p, q, hA0, hV, rfl, hfz, hnd⟩ := hW
  have hA : DataW.TrodAll enc Try.prog W 0 (fun _ => true) true Try.f6.params.toList args.toList ds p := hA0
  rw [Try.params6] at hA hval
  obtain ⟨v0, vs0, d0, ds0, p0, q0, hargs0, rfl, rfl, h0, r0⟩ := trodAll_cons hA
  obtain ⟨rfl, rfl, rfl⟩ := trodAll_nil r0
  obtain rfl : args = #[v0] := by cases args; simp_all
  obtain ⟨rfl, rfl⟩ := trodVars_none hV
  obtain ⟨a0, len0, cap0, rfl⟩ := okWide_slice Try.underlying29 (hval 0 29 v0 rfl rfl)
  obtain ⟨x0, fp0, H0⟩ := open_arg (opens_slice Try.underlying29 (by kernel_rfl) (by decide) (opens_byte Try.underlying5)) h0
  refine (walk _ x0 fp0 W H0).mono fun e W' ⟨he, hw⟩ => ?_
  subst he
  exact ⟨_, rfl, law_done laidOut readable rfl rfl Try.underlying4 hW' rfl rfl rfl hw⟩

theorem holds : Rows.FnIsDefinedSaid :=
  OpenClaim.holds_of_wide 6 Try.f6 rfl rfl rfl rfl rfl rfl rfl ⟨rfl, rfl, rfl, rfl, rfl⟩ rfl rfl rfl rfl rfl (by kernel_rfl) Try.func6 (by kernel_rfl)
    (of_decide_eq_true (by kernel_rfl)) (by unfold Func.isWrapper; first | (rw [if_pos (by decide +kernel)]; kernel_rfl) | (rw [if_neg (by decide +kernel)]; exact ⟨rfl, rfl⟩))
    (fun os started H enc _ => lifted os started H enc)



end Go.Proofs.Ytdnjpjiepnhhhab.lawIsDefined
