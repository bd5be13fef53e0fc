/- Quotients and rests belong together; comparing in the other direction is the same; and the value is in range: for every input. No conditions. -/
import Derived.Test.YtiaiggjfepoahaaZU13
set_option linter.unusedVariables false
set_option linter.unusedSimpArgs false
namespace Go.Proofs.Ytiaiggjfepoahaa.lawApplyMark
open Go.ChangeShapes Go.WideShapes Go.ChangeAt Go.RowKit Go.ChangeMaps

theorem app_parts {s : List UInt8} {a b : Int} (h : (applyM s a b).2 ≠ 1) : inR a = true ∧ inR b = true := by
  unfold applyM at h
  split at h
  · simp at h
  · rename_i h1
    constructor
    · cases ha : inR a
      · exact absurd (.inr (.inl ha)) h1
      · rfl
    · cases hb : inR b
      · exact absurd (.inr (.inr hb)) h1
      · rfl
theorem app_syn {s : List UInt8} {a b : Int} (h : (applyM s a b).2 = 1) : (applyM s a b).1 = 0 := by
  unfold applyM at h ⊢
  split at h
  · rename_i h1; rw [if_pos h1]
  · rename_i h1
    rw [if_neg h1]
    split at h
    · simp at h
    · split at h
      · simp at h
      · simp at h
theorem div_mod (a b : Int) : b * a.tdiv b + a.tmod b = a := Int.mul_tdiv_add_tmod a b

set_option maxHeartbeats 8000000 in
set_option maxRecDepth 100000 in
theorem walk (v0 : Value) (x0 : List UInt8) (fp0 : List Nat) (w : World) (H0 : (sSlice sByte).R w [v0] x0 fp0) :
    Calls Try.prog 3 #[v0] w fun e w' => e = .returned (.bool true) ∧ Below w.heap.size w w' := by
  have HH := Lib.hid H0
  obtain ⟨a, cap, hv, hc, hm, h⟩ := H0
  obtain rfl : v0 = .slice a x0.length cap := by simpa using hv
  unfold maxLen at hm
  clear h hv
  go_enter Try.func3, Try.ntmps3
  by_cases hbig : 1048576 < x0.length
  · go_wp2
    go_ret
    exact ⟨rfl, Below.refl _ _⟩
  go_wp2_with fail
  refine (DrawApplyMark _ x0 fp0 _ HH.out).mono ?_
  rintro e w1 ⟨s, a1, b1, rfl, hs, ha, hb, hB⟩
  have oka : okInt a1 := by have h1 := ha.1; have h2 := ha.2; exact ⟨by omega, by omega⟩
  have okb : okInt b1 := by have h1 := hb.1; have h2 := hb.2; exact ⟨by omega, by omega⟩
  have HI := Lib.hid (fun (Q : World) => impl_ApplyMark s a1 b1 Q (small_ok (by omega)) oka okb)
  have HS := Lib.hid (fun (Q : World) => spec_ApplyMark s a1 b1 Q (small_ok (by omega)) oka okb)
  have HQ := Lib.hid (fun (Q : World) => impl_ApplyMark ⟨#[47]⟩ a1 b1 Q (small_ok (by decide)) oka okb)
  have HR := Lib.hid (fun (Q : World) => impl_ApplyMark ⟨#[37]⟩ a1 b1 Q (small_ok (by decide)) oka okb)
  have HL := Lib.hid (fun (Q : World) => impl_ApplyMark ⟨#[60]⟩ a1 b1 Q (small_ok (by decide)) oka okb)
  have HG := Lib.hid (fun (Q : World) => impl_ApplyMark ⟨#[62]⟩ b1 a1 Q (small_ok (by decide)) okb oka)
  rw [show (⟨#[47]⟩ : ByteArray).toList = [47] by rw [ByteArray.toList_eq]] at HQ
  rw [show (⟨#[37]⟩ : ByteArray).toList = [37] by rw [ByteArray.toList_eq]] at HR
  rw [show (⟨#[60]⟩ : ByteArray).toList = [60] by rw [ByteArray.toList_eq]] at HL
  rw [show (⟨#[62]⟩ : ByteArray).toList = [62] by rw [ByteArray.toList_eq]] at HG
  unfold AppOf at HI HS HQ HR HL HG
  have HIN := Lib.hid (applyM_in s.toList a1 b1)
  have HP : Hid ((applyM s.toList a1 b1).2 ≠ 1 → inR a1 = true ∧ inR b1 = true) := app_parts
  have HSY : Hid ((applyM s.toList a1 b1).2 = 1 → (applyM s.toList a1 b1).1 = 0) := app_syn
  rcases hx : applyM s.toList a1 b1 with ⟨n, f⟩
  rw [hx] at HI HS HIN HP HSY
  try dsimp only at HI HS HIN HP HSY
  have hnn : (n != n) = false := by simp
  have hff : (f != f) = false := by simp
  clear hx ha hb oka okb hs
  go_wp2_with fail
  refine (HI.out _).mono ?_
  rintro e w2 ⟨rfl, hb2⟩
  go_wp2_with fail
  refine (HS.out _).mono ?_
  rintro e w3 ⟨rfl, hb3⟩
  have hB3 := (hB.trans (hb2.mono hB.size)).trans (hb3.mono (hB.trans (hb2.mono hB.size)).size)
  clear HI HS
  by_cases hf : f = 1
  · have hn := HSY.out hf
    subst hn
    have g1 : (f == 1) = true := by simp [hf]
    clear hf HQ HR HL HG HP HSY
    go_wp2_with (go_at_call 9; refine (alive _).mono ?_; rintro e w' ⟨rfl, rfl⟩)
    go_ret
    exact ⟨rfl, hB3⟩
  obtain ⟨hia, hib⟩ := HP.out hf
  have g1 : (f == 1) = false := by simp [hf]
  have hai := inR_iff.1 hia
  have hbi := inR_iff.1 hib
  have hni := inR_iff.1 HIN.out.1
  rw [app7 hia hib] at HL
  rw [app8 hib hia] at HG
  rw [if_pos (bit1_in _)] at HL HG
  try dsimp only at HL HG
  obtain ⟨lt, HLT⟩ : ∃ lt : Int, Hid (lt = bit1 (decide (a1 < b1))) := ⟨_, Lib.hid rfl⟩
  rw [show bit1 (decide (a1 < b1)) = lt from HLT.out.symm] at HL HG
  have hll : (lt == lt) = true := by simp
  have k1 : -1000000 ≤ n := hni.1
  have k2 : n ≤ 1000000 := hni.2
  clear hf HP HSY HIN hni
  by_cases h0 : b1 = 0
  · rw [app3z hia hib h0] at HQ
    rw [app4z hia hib h0] at HR
    try dsimp only at HQ HR
    have g2 : (b1 == 0) = true := by simp [h0]
    clear h0
    go_wp2_with fail
    refine (HQ.out _).mono ?_
    rintro e w4 ⟨rfl, hb4⟩
    have hB4 := hB3.trans (hb4.mono hB3.size)
    go_wp2_with fail
    refine (HR.out _).mono ?_
    rintro e w5 ⟨rfl, hb5⟩
    have hB5 := hB4.trans (hb5.mono hB4.size)
    go_wp2_with fail
    refine (HL.out _).mono ?_
    rintro e w6 ⟨rfl, hb6⟩
    have hB6 := hB5.trans (hb6.mono hB5.size)
    go_wp2_with fail
    refine (HG.out _).mono ?_
    rintro e w7 ⟨rfl, hb7⟩
    have hB7 := hB6.trans (hb7.mono hB6.size)
    clear HQ HR HL HG
    go_wp2
    go_ret
    exact ⟨rfl, hB7⟩
  have hq := quo_small hai hbi h0
  have hr := rem_small hai hbi h0
  rw [app3 hia hib h0, if_pos (inR_iff.2 hq)] at HQ
  rw [app4 hia hib h0, if_pos (inR_iff.2 hr)] at HR
  try dsimp only at HQ HR
  have g2 : (b1 == 0) = false := by simp [h0]
  have hdm := div_mod a1 b1
  obtain ⟨q, HQQ⟩ : ∃ q : Int, Hid (q = a1.tdiv b1) := ⟨_, Lib.hid rfl⟩
  obtain ⟨r, HRR⟩ : ∃ r : Int, Hid (r = a1.tmod b1) := ⟨_, Lib.hid rfl⟩
  rw [show a1.tdiv b1 = q from HQQ.out.symm] at HQ hq hdm
  rw [show a1.tmod b1 = r from HRR.out.symm] at HR hr hdm
  obtain ⟨pq, HPQ⟩ : ∃ pq : Int, Hid (pq = b1 * q) := ⟨_, Lib.hid rfl⟩
  have hpq : b1 * q = pq := HPQ.out.symm
  rw [hpq] at hdm
  have hw1 : IntKind.i64.wrap (b1 * q) = b1 * q := IntWalk.i64_in _ (by rw [hpq]; omega)
  have hw2 : IntKind.i64.wrap (b1 * q + r) = b1 * q + r := IntWalk.i64_in _ (by rw [hpq]; omega)
  have g3 : (a1 == b1 * q + r) = true := by rw [hpq, hdm]; simp
  have g4 : b1 * q + r = a1 := by rw [hpq]; exact hdm
  clear h0 hpq hdm
  go_wp2_with fail
  refine (HQ.out _).mono ?_
  rintro e w4 ⟨rfl, hb4⟩
  have hB4 := hB3.trans (hb4.mono hB3.size)
  go_wp2_with fail
  refine (HR.out _).mono ?_
  rintro e w5 ⟨rfl, hb5⟩
  have hB5 := hB4.trans (hb5.mono hB4.size)
  go_wp2_with fail
  refine (HL.out _).mono ?_
  rintro e w6 ⟨rfl, hb6⟩
  have hB6 := hB5.trans (hb6.mono hB5.size)
  go_wp2_with fail
  refine (HG.out _).mono ?_
  rintro e w7 ⟨rfl, hb7⟩
  have hB7 := hB6.trans (hb7.mono hB6.size)
  clear HQ HR HL HG
  go_wp2
  go_ret
  exact ⟨rfl, hB7⟩

theorem own : ownKnob Try.prog.godebug = none := by kernel_rfl
theorem laidOut : laidOutB Try.prog = true := by kernel_rfl
theorem readable : ∀ t ∈ Try.f3.params.toList, Try.prog.readableRec t = true ∧ t < Try.prog.types.size := by
  rw [Try.params3]
  simp only [List.mem_cons, List.not_mem_nil, or_false]
  rintro t rfl
  exact ⟨by kernel_rfl, of_decide_eq_true (by kernel_rfl)⟩

set_option maxRecDepth 100000 in
theorem lifted (os : Os) (started : os.Started) (H : Type) (enc : TypeId × Value → H) :
    ReturnsInHanded {} Try.checked os 3 .any (Rows.fnApplyMarkSpec.pre6 enc Try.prog Try.f3 Rows.fnApplyMarkRow.domain false) (Rows.fnApplyMarkSpec.post enc Try.prog Try.f3 false true false false) := by
  refine returnsInHanded_of_change (C := Try.checked) own started (by kernel_rfl) Try.func3
    (ChangeSpec.witness6 (enc := enc) (C := Try.checked) false ⟨#[], #[.slice none 0 0], []⟩ 8 (by kernel_rfl) (by kernel_rfl) (by kernel_rfl) (by kernel_rfl)) ?_
  intro W base args ds gs before hval0 hW hcnd _
  have hval : ∀ (j : Nat) t v, Try.f3.params[j]? = some t → args[j]? = some v → Value.okWide Try.prog W .any base t v := hval0
  have hW' := hW
  obtain ⟨p, q, hA0, hV, rfl, hfz, hnd⟩ := hW
  have hA : DataW.TrodAll enc Try.prog W 0 (fun _ => true) true Try.f3.params.toList args.toList ds p := hA0
  rw [Try.params3] at hA hval
  obtain ⟨v0, vs0, d0, ds0, p0, q0, hargs0, rfl, rfl, h0, r0⟩ := trodAll_cons hA
  obtain ⟨rfl, rfl, rfl⟩ := trodAll_nil r0
  obtain rfl : args = #[v0] := by cases args; simp_all
  obtain ⟨rfl, rfl⟩ := trodVars_none hV
  obtain ⟨a0, len0, cap0, rfl⟩ := okWide_slice Try.underlying22 (hval 0 22 v0 rfl rfl)
  obtain ⟨x0, fp0, H0⟩ := open_arg (opens_slice Try.underlying22 (by kernel_rfl) (by decide) (opens_byte Try.underlying5)) h0
  refine (walk _ x0 fp0 W H0).mono fun e W' ⟨he, hw⟩ => ?_
  subst he
  exact ⟨_, rfl, law_done laidOut readable rfl rfl Try.underlying4 hW' rfl rfl rfl hw⟩

theorem holds : Rows.FnApplyMarkSaid :=
  OpenClaim.holds_of_wide 3 Try.f3 rfl rfl rfl rfl rfl rfl rfl ⟨rfl, rfl, rfl, rfl, rfl⟩ rfl rfl rfl rfl rfl (by kernel_rfl) Try.func3 (by kernel_rfl)
    (of_decide_eq_true (by kernel_rfl)) (by unfold Func.isWrapper; first | (rw [if_pos (by decide +kernel)]; kernel_rfl) | (rw [if_neg (by decide +kernel)]; exact ⟨rfl, rfl⟩))
    (fun os started H enc _ => lifted os started H enc)


end Go.Proofs.Ytiaiggjfepoahaa.lawApplyMark
