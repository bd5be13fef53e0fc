/- Validity of tables: both say the same; with the first macro twice a table is invalid, without it a valid one is valid. For every input. No conditions. -/
import Derived.Test.YtdnjpjiepnhhhabZPTableValid10
set_option linter.unusedVariables false
set_option linter.unusedSimpArgs false
namespace Go.Proofs.Ytdnjpjiepnhhhab.lawTableValid
open Go.ChangeShapes Go.WideShapes Go.ChangeAt Go.RowKit Go.ChangeMaps

set_option maxHeartbeats 2000000 in
theorem DrawTableValid (v : Value) (l : List UInt8) (fp : List Nat) (w : World) (H : (sSlice sByte).R w [v] l fp) :
    Calls Try.prog 13 #[v] w fun e w' => ∃ (v' : Value) (t : List DMacro) (fp' : List Nat), e = .returned v' ∧ (sSlice sMacro).R w' [v'] t fp' ∧ t.length ≤ 9 ∧ Below w.heap.size w w' := by
  go_enter Try.func13, Try.ntmps13
  go_wp2_with fail
  refine (l20Open _ l fp _ H).mono ?_
  rintro e w1 ⟨rb, rfl, hrb, hR, hB⟩
  go_wp2_with fail
  refine (l20Table rb 0 _ _ hR (by omega) (by omega) (by omega)).mono ?_
  rintro e w4 ⟨v', t, fp', q, rfl, hT, -, hl, -, -, hK⟩
  have HT := Lib.hid hT
  have HF := Lib.hid (kept_below hB hK hrb hB.size)
  clear hT hK
  go_wp2
  go_ret
  exact ⟨v', t, fp', rfl, HT.out, hl, HF.out⟩
theorem rowG_lit1 {α : Type} {S : Shape α} {e : TypeId} {w : World} (x : Elem α) (hl : x.cells.length = S.m) (hR : S.R w x.cells x.d x.fp) :
    RowG S w.heap.size e (.slice (some ⟨w.heap.size, 0, none⟩) 1 1) [x] (w.alloc (.cells x.cells.toArray e)) where
  row := by
    have h := World.ownsRow_lit (base := w.heap.size) (e := e) (size := S.m) w x.cells.toArray 1 (Nat.le_refl _) (by unfold maxLen; omega) (by simpa using hl)
    simpa using h
  len := fun y hy => by obtain rfl := List.mem_singleton.1 hy; exact hl
  el := fun y hy => by obtain rfl := List.mem_singleton.1 hy; exact S.below hR (alloc_below' _ _)
  hi := fun y hy => by obtain rfl := List.mem_singleton.1 hy; exact S.lt hR
theorem tab_tail {l : List DMacro} (h : tabOk l = true) : tabOk (l.drop 1) = true := by
  obtain ⟨h1, h2⟩ := tabOk_at h
  refine tabOk_yes (fun j hj => ?_) (by rw [List.length_drop]; omega)
  rw [List.length_drop] at hj
  have h3 := h2 (j + 1) (by omega)
  unfold tabAt at h3 ⊢
  rw [dif_pos (by omega)] at h3
  rw [dif_pos (by rw [List.length_drop]; omega)]
  obtain ⟨h4, h5⟩ := Bool.and_eq_true_iff.1 h3
  rw [Bool.and_eq_true_iff]
  refine ⟨by rw [List.getElem_drop]; simpa [Nat.add_comm] using h4, ?_⟩
  by_cases h0 : j = 0
  · rw [decide_eq_true h0]; rfl
  · have h6 : sLess (l[j]'(by omega)).name (l[j + 1]'(by omega)).name = true := by simpa using h5
    rw [List.getElem_drop, List.getElem_drop]
    have e1 : 1 + (j - 1) = j := by omega
    have e2 : 1 + j = j + 1 := by omega
    simp only [e1, e2, h6, Bool.or_true]
theorem tab_twice {l : List DMacro} (h : 0 < l.length) : tabOk (l[0] :: l) = false := by
  refine tabOk_no (k := 1) (by simp; omega) (tabAt_less (by simp; omega) (by omega) ?_)
  have e : ((l[0] :: l)[1]'(by simp; omega)) = l[0] := by simp
  rw [e]
  exact sLess_irrefl _

set_option maxHeartbeats 8000000 in
set_option maxRecDepth 100000 in
theorem walk (v0 : Value) (x0 : List UInt8) (fp0 : List Nat) (w : World) (H0 : (sSlice sByte).R w [v0] x0 fp0) :
    Calls Try.prog 4 #[v0] w fun e w' => e = .returned (.bool true) ∧ Below w.heap.size w w' := by
  have HH := Lib.hid H0
  obtain ⟨a, cap, hv, hc, hm, h⟩ := H0
  obtain rfl : v0 = .slice a x0.length cap := by simpa using hv
  unfold maxLen at hm
  clear h hv
  go_enter Try.func4, Try.ntmps4
  by_cases hbig : 1048576 < x0.length
  · go_wp2
    go_ret
    exact ⟨rfl, Below.refl _ _⟩
  go_wp2_with fail
  refine (DrawTableValid _ x0 fp0 _ HH.out).mono ?_
  rintro e w1 ⟨v1, t, fp, rfl, hR, hl9, hB⟩
  obtain ⟨a1, cap1, rfl, hc1, hm1, -⟩ := open_rows hR
  unfold maxLen at hm1
  go_wp2_with fail
  refine (impl_TableValid _ t fp _ hR).mono ?_
  rintro e w2 ⟨rfl, hb2⟩
  replace hR := (sSlice sMacro).below hR hb2
  replace hB := hB.trans (hb2.mono hB.size)
  have hbb : ∀ b : Bool, (b != b) = false := by intro b; simp
  have hbb' := hbb (tabOk t)
  clear hb2
  go_wp2_with fail
  refine (spec_TableValid _ t fp _ hR).mono ?_
  rintro e w3 ⟨rfl, hb3⟩
  replace hR := (sSlice sMacro).below hR hb3
  replace hB := hB.trans (hb3.mono hB.size)
  clear hb3
  by_cases ht : tabOk t = true
  rotate_left
  · rw [Bool.eq_false_iff.2 ht] at hbb' ⊢
    clear ht
    go_wp2_with (go_at_call 14; refine (alive _).mono ?_; rintro e w' ⟨rfl, rfl⟩)
    go_ret
    exact ⟨rfl, hB⟩
  have HTK := Lib.hid ht
  rw [ht] at hbb' ⊢
  clear ht
  by_cases h0 : 0 < t.length
  rotate_left
  · obtain rfl : t = [] := List.length_eq_zero_iff.1 (by omega)
    clear h0
    go_wp2_with (go_at_call 14; refine (alive _).mono ?_; rintro e w' ⟨rfl, rfl⟩)
    go_ret
    exact ⟨rfl, hB⟩
  have h00 : ((t.length : Int) == 0) = false := beq_eq_false_iff_ne.2 (by omega)
  obtain ⟨aq, capq, hvq, -, -, hrow⟩ := open_rows hR
  simp only [Value.slice.injEq, true_and] at hvq
  obtain ⟨rfl, rfl⟩ := hvq
  obtain ⟨b1, off1, fps1, rfl, hb1, hfp1, he1⟩ := hrow h0
  have HTW := Lib.hid (tab_twice h0)
  -- without the first one
  have HC : Hid (∃ A : Addr, (if cap1 = 1 then some (⟨b1, off1, none⟩ : Addr) else some ⟨b1, off1 + 4, none⟩) = some A ∧ Calls Try.prog 11 #[.slice (some A) (t.length - 1) (cap1 - 1)] w3 (Says true w3)) := by
    show ∃ A : Addr, _ ∧ _
    obtain ⟨fpd, HD, -⟩ := slice_drop 1 (by omega) hR
    by_cases hcc : cap1 = 1
    · rw [if_pos hcc] at HD
      refine ⟨_, by rw [if_pos hcc], ?_⟩
      have := impl_TableValid _ _ _ _ HD
      rwa [tab_tail HTK.out] at this
    · rw [if_neg hcc, Option.map_some, Addr.add_lit] at HD
      refine ⟨_, by rw [if_neg hcc], ?_⟩
      have := impl_TableValid _ _ _ _ (show (sSlice sMacro).R w3 [.slice (some ⟨b1, off1 + 4, none⟩) (t.length - 1) (cap1 - 1)] (t.drop 1) fpd from HD)
      rwa [tab_tail HTK.out] at this
  obtain ⟨A, hA, hC⟩ := HC.out
  have HC2 := Lib.hid hC
  have h1c : 1 ≤ cap1 := by omega
  have h1l : (1 : Int) ≤ (t.length : Int) := by omega
  obtain ⟨es, hE, hRE⟩ := he1 0 h0
  have HR3 := Lib.hid hR
  have HFP : Hid (∀ b ∈ fp, b < w3.heap.size) := (sSlice sMacro).lt hR
  clear hC HC hR he1 hrow hfp1 HTK
  go_wp2_with fail
  refine HC2.out.mono ?_
  rintro e w4 ⟨rfl, hb4⟩
  have hs4 := hb4.size
  have hB4 := hB.trans (hb4.mono hB.size)
  have HR4 := Lib.hid ((sSlice sMacro).below HR3.out hb4)
  have hRE4 := sMacro.below hRE hb4
  have HRE := Lib.hid hRE4
  obtain ⟨u2, u3, r2, r3, rfl, _, K2, K3, _⟩ := hRE
  obtain ⟨e2, g2, rfl, -⟩ := open_strs K2
  obtain ⟨e3, g3, rfl, -⟩ := open_rows K3
  clear K2 K3 hRE4
  replace hE := hE.frame (hb4.block b1 hb1)
  have c10 : w4.cell? ⟨b1, off1, none⟩ = some (.string t[0].name) := by have := elem_cell0 hE (by decide) rfl; simpa using this
  have c11 : w4.cell? ⟨b1, off1 + 1, none⟩ = some (.bool t[0].function) := by have := elem_cell (j := 1) hE (by decide) rfl; simpa using this
  have c12 : w4.cell? ⟨b1, off1 + 2, none⟩ = some (.slice e2 t[0].params.length g2) := by have := elem_cell (j := 2) hE (by decide) rfl; simpa using this
  have c13 : w4.cell? ⟨b1, off1 + 3, none⟩ = some (.slice e3 t[0].body.length g3) := by have := elem_cell (j := 3) hE (by decide) rfl; simpa using this
  have hlit : Hid (RowG sMacro w4.heap.size 35 (.slice (some ⟨w4.heap.size, 0, none⟩) 1 1) [(⟨[.string t[0].name, .bool t[0].function, .slice e2 t[0].params.length g2, .slice e3 t[0].body.length g3], t[0], _⟩ : Elem DMacro)] (w4.alloc (.cells #[.string t[0].name, .bool t[0].function, .slice e2 t[0].params.length g2, .slice e3 t[0].body.length g3] 35))) := rowG_lit1 _ rfl HRE.out
  have hba := alloc_below' w4 (.cells #[.string t[0].name, .bool t[0].function, .slice e2 t[0].params.length g2, .slice e3 t[0].body.length g3] 35)
  have HR5 := Lib.hid ((sSlice sMacro).below HR4.out hba)
  have HBA := Lib.hid hba.size
  have HB5 := Lib.hid (hB4.trans (hba.mono hB4.size))
  have hB4s := Lib.hid hB4.size
  clear hE hba HR3 HR4 HRE hb4 hB hB4
  go_wp2_with (at_builtin; refine wpList_guarded (by rfl) ?_; refine wp_append_anyG ti_mac rfl (by decide) mac_one _ rfl (.tmp 31) (.tmp 32) rfl w4.heap.size (.slice (some ⟨w4.heap.size, 0, none⟩) 1 1) (.slice (some ⟨b1, off1, none⟩) t.length cap1) t fp rfl hlit.out rfl HR5.out (fun b hb => by have := HFP.out b hb; omega) (by simp [maxLen]; omega) (by simp; omega) HBA.out ?_; intro v6 X w6 hXd hXf hG hgr; have HB6 := Lib.hid (HB5.out.grown hgr HB5.out.size (fun b hb => Nat.le_trans hB4s.out (hlit.out.mine b hb))); have HG6 := Lib.hid hG; have HXD := Lib.hid hXd; obtain ⟨av, cv, rfl, hq⟩ := hG.val; clear hq hG hgr hXd hXf)
  obtain ⟨fpr, hRR, -, -⟩ := HG6.out.read
  have HC9 := Lib.hid (impl_TableValid _ _ fpr w6 hRR)
  rw [List.map_append, HXD.out, show ([(⟨[.string t[0].name, .bool t[0].function, .slice e2 t[0].params.length g2, .slice e3 t[0].body.length g3], t[0], _⟩ : Elem DMacro)].map (·.d)) ++ t = t[0] :: t from rfl, HTW.out] at HC9
  go_wp2_with fail
  refine HC9.out.mono ?_
  rintro e w7 ⟨rfl, hb7⟩
  go_wp2
  go_ret
  exact ⟨rfl, HB6.out.trans (hb7.mono HB6.out.size)⟩

theorem own : ownKnob Try.prog.godebug = none := by kernel_rfl
theorem laidOut : laidOutB Try.prog = true := by kernel_rfl
theorem readable : ∀ t ∈ Try.f4.params.toList, Try.prog.readableRec t = true ∧ t < Try.prog.types.size := by
  rw [Try.params4]
  simp only [List.mem_cons, List.not_mem_nil, or_false]
  rintro t rfl
  exact ⟨by kernel_rfl, of_decide_eq_true (by kernel_rfl)⟩

set_option maxRecDepth 100000 in
theorem lifted (os : Os) (started : os.Started) (H : Type) (enc : TypeId × Value → H) :
    ReturnsInHanded {} Try.checked os 4 .any (Rows.fnTableValidSpec.pre6 enc Try.prog Try.f4 Rows.fnTableValidRow.domain false) (Rows.fnTableValidSpec.post enc Try.prog Try.f4 false true false false) := by
  refine returnsInHanded_of_change (C := Try.checked) own started (by kernel_rfl) Try.func4
    (ChangeSpec.witness6 (enc := enc) (C := Try.checked) false ⟨#[], #[.slice none 0 0], []⟩ 8 (by kernel_rfl) (by kernel_rfl) (by kernel_rfl) (by kernel_rfl)) ?_
  intro W base args ds gs before hval0 hW hcnd _
  have hval : ∀ (j : Nat) t v, Try.f4.params[j]? = some t → args[j]? = some v → Value.okWide Try.prog W .any base t v := hval0
  have hW' := hW
  obtain ⟨p, q, hA0, hV, rfl, hfz, hnd⟩ := hW
  have hA : DataW.TrodAll enc Try.prog W 0 (fun _ => true) true Try.f4.params.toList args.toList ds p := hA0
  rw [Try.params4] at hA hval
  obtain ⟨v0, vs0, d0, ds0, p0, q0, hargs0, rfl, rfl, h0, r0⟩ := trodAll_cons hA
  obtain ⟨rfl, rfl, rfl⟩ := trodAll_nil r0
  obtain rfl : args = #[v0] := by cases args; simp_all
  obtain ⟨rfl, rfl⟩ := trodVars_none hV
  obtain ⟨a0, len0, cap0, rfl⟩ := okWide_slice Try.underlying29 (hval 0 29 v0 rfl rfl)
  obtain ⟨x0, fp0, H0⟩ := open_arg (opens_slice Try.underlying29 (by kernel_rfl) (by decide) (opens_byte Try.underlying5)) h0
  refine (walk _ x0 fp0 W H0).mono fun e W' ⟨he, hw⟩ => ?_
  subst he
  exact ⟨_, rfl, law_done laidOut readable rfl rfl Try.underlying4 hW' rfl rfl rfl hw⟩

theorem holds : Rows.FnTableValidSaid :=
  OpenClaim.holds_of_wide 4 Try.f4 rfl rfl rfl rfl rfl rfl rfl ⟨rfl, rfl, rfl, rfl, rfl⟩ rfl rfl rfl rfl rfl (by kernel_rfl) Try.func4 (by kernel_rfl)
    (of_decide_eq_true (by kernel_rfl)) (by unfold Func.isWrapper; first | (rw [if_pos (by decide +kernel)]; kernel_rfl) | (rw [if_neg (by decide +kernel)]; exact ⟨rfl, rfl⟩))
    (fun os started H enc _ => lifted os started H enc)



end Go.Proofs.Ytdnjpjiepnhhhab.lawTableValid
