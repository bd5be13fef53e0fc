/- Texts that the proof of U stands on, in one file. -/
import Derived.Test.YtiaiggjfepoahabZU12
import Derived.Test.YtiaiggjfepoahabZU10
import Derived.Test.YtiaiggjfepoahabZU8
import Derived.Test.YtiaiggjfepoahabZU3
import Derived.IntWalk
import Derived.Test.YtiaiggjfepoahabZU6
import Derived.Test.YtiaiggjfepoahabZU9
set_option linter.unusedVariables false
set_option linter.unusedSimpArgs false
/- Of the program: one value, values with marks between, choices. -/
namespace Go.Proofs.Ytiaiggjfepoahab
open Go.RowKit

def placeAt (rb : Nat) (w : World) : Nat :=
  match w.heap[rb]? with
  | some (.cells cs _ _) => (intOf (cs.getD 1 undef)).toNat
  | _ => 0
theorem RB.place {rb : Nat} {vL : Value} {k : Nat} {w : World} (h : RB rb vL k w) : placeAt rb w = k := by
  unfold placeAt
  rw [show w.heap[rb]? = some (.cells #[vL, .int .i64 (k : Nat)] 62 (0, 0)) from h]
  simp [intOf]
/-- The three functions of the reader are walked, with so much fuel. -/
structure PC (l : List Tok) (d : Nat) : Prop where
  one : ∀ (k : Nat) (r : VRes), k ≤ l.length → pv l d (.one k) = some r → ∀ (rb : Nat) (vL : Value) (fp : List Nat) (w : World), RB rb vL k w → (sSlice sTok).R w [vL] l fp → rb ∉ fp → Calls Try.prog 76 #[.pointer (some ⟨rb, 0, none⟩)] w (VEnd rb vL l r w)
  marks : ∀ (k rank : Nat) (r : VRes), k ≤ l.length → 1 ≤ rank → rank ≤ 7 → pv l d (.marks k rank) = some r → ∀ (rb : Nat) (vL : Value) (fp : List Nat) (w : World), RB rb vL k w → (sSlice sTok).R w [vL] l fp → rb ∉ fp → Calls Try.prog 62 #[.pointer (some ⟨rb, 0, none⟩), .int .i64 rank] w (VEnd rb vL l r w)
  choice : ∀ (k : Nat) (r : VRes), k ≤ l.length → pv l d (.choice k) = some r → ∀ (rb : Nat) (vL : Value) (fp : List Nat) (w : World), RB rb vL k w → (sSlice sTok).R w [vL] l fp → rb ∉ fp → Calls Try.prog 39 #[.pointer (some ⟨rb, 0, none⟩)] w (VEnd rb vL l r w)
theorem list_kept {l : List Tok} {vL : Value} {fp : List Nat} {rb : Nat} {w : World} (H : (sSlice sTok).R w [vL] l fp) (hn : rb ∉ fp) {Q : World} (hQ : Kept [rb] w Q) : (sSlice sTok).R Q [vL] l fp :=
  (sSlice sTok).kept H (fun b hb => by simp only [List.mem_singleton]; rintro rfl; exact hn hb) hQ
theorem pv_one_out {l : List Tok} {d k : Nat} {r : VRes} (h : pv l (d + 1) (.one k) = some r) (hk : ¬ k < l.length) : r = (0, k, 1) := by
  unfold pv at h
  rw [dif_neg hk] at h
  simpa using h.symm
theorem pv_one_not {l : List Tok} {d k : Nat} {r : VRes} (h : pv l (d + 1) (.one k) = some r) (hm : mkAt l k [33] = true) : ∃ a, pv l d (.one (k + 1)) = some a ∧ r = (bit1 (decide (a.1 = 0)), a.2.1, a.2.2) ∧ k < l.length := by
  obtain ⟨hk, hm⟩ := mkAt_lt hm
  unfold pv at h
  rw [dif_pos hk, if_pos hm] at h
  obtain ⟨a, h1, h2⟩ := bind_some h
  exact ⟨a, h1, by simpa using h2.symm, hk⟩
theorem pv_one_neg {l : List Tok} {d k : Nat} {r : VRes} (h : pv l (d + 1) (.one k) = some r) (h1 : mkAt l k [33] = false) (hm : mkAt l k [45] = true) : ∃ a, pv l d (.one (k + 1)) = some a ∧ r = (-a.1, a.2.1, a.2.2) ∧ k < l.length := by
  obtain ⟨hk, hm⟩ := mkAt_lt hm
  rw [mkAt_in hk] at h1
  unfold pv at h
  rw [dif_pos hk, if_neg (by rw [h1]; simp), if_pos hm] at h
  obtain ⟨a, h1, h2⟩ := bind_some h
  exact ⟨a, h1, by simpa using h2.symm, hk⟩
theorem pv_one_par {l : List Tok} {d k : Nat} {r : VRes} (h : pv l (d + 1) (.one k) = some r) (h1 : mkAt l k [33] = false) (h2 : mkAt l k [45] = false) (hm : mkAt l k [40] = true) : ∃ a, pv l d (.choice (k + 1)) = some a ∧ r = (a.1, a.2.1 + 1, if a.2.2 = 0 ∧ mkAt l a.2.1 [41] = false then 1 else a.2.2) ∧ k < l.length := by
  obtain ⟨hk, hm⟩ := mkAt_lt hm
  rw [mkAt_in hk] at h1 h2
  unfold pv at h
  rw [dif_pos hk, if_neg (by rw [h1]; simp), if_neg (by rw [h2]; simp), if_pos hm] at h
  obtain ⟨a, h1, h2⟩ := bind_some h
  exact ⟨a, h1, (Option.some.inj h2).symm, hk⟩
theorem pv_one_word {l : List Tok} {d k : Nat} {r : VRes} (h : pv l (d + 1) (.one k) = some r) (h1 : mkAt l k [33] = false) (h2 : mkAt l k [45] = false) (h3 : mkAt l k [40] = false) : r = wordR l k := by
  by_cases hk : k < l.length
  · rw [mkAt_in hk] at h1 h2 h3
    unfold pv at h
    rw [dif_pos hk, if_neg (by rw [h1]; simp), if_neg (by rw [h2]; simp), if_neg (by rw [h3]; simp)] at h
    unfold wordR
    rw [dif_pos hk]
    split at h
    · rename_i h4; rw [if_pos h4]; exact (Option.some.inj h).symm
    · rename_i h4
      rw [if_neg h4]
      split at h
      · rename_i h5; rw [if_pos h5]; exact (Option.some.inj h).symm
      · rename_i h5; rw [if_neg h5]; exact (Option.some.inj h).symm
  · rw [pv_one_out h hk]
    unfold wordR
    rw [dif_neg hk]

set_option maxHeartbeats 16000000 in
set_option maxRecDepth 100000 in
theorem single_walk {l : List Tok} {d : Nat} (hl : l.length ≤ 60) (ht : ∀ t ∈ l, tokOk t = true) (IH : ∀ d', d' < d → PC l d') (k : Nat) (r : VRes) (hk : k ≤ l.length) (h : pv l d (.one k) = some r) (rb : Nat) (vL : Value) (fp : List Nat) (w : World) (HB : RB rb vL k w) (H : (sSlice sTok).R w [vL] l fp) (hnr : rb ∉ fp) :
    Calls Try.prog 76 #[.pointer (some ⟨rb, 0, none⟩)] w (VEnd rb vL l r w) := by
  have HL := Lib.hid (fun (Q : World) (hQ : Kept [rb] w Q) => list_kept H hnr hQ)
  have HTO := Lib.hid ht
  have HB0 := Lib.hid HB
  clear H HB ht
  cases d with
  | zero => simp [pv] at h
  | succ d =>
  have HH := Lib.hid h
  clear h
  have HSK : Hid (∀ (c : UInt8) (j : Nat) (Q : World), cutKind c = 4 → j ≤ l.length → RB rb vL j Q → Kept [rb] w Q → Calls Try.prog 63 #[.pointer (some ⟨rb, 0, none⟩), .string ⟨#[c]⟩] Q fun e w' => e = .returned (.bool (mkAt l j [c])) ∧ RB rb vL (if mkAt l j [c] = true then j + 1 else j) w' ∧ Kept [rb] Q w') :=
    fun c j Q hc hj hB hQ => impl_skip rb vL l fp j c Q hl HTO.out hc hj hB (HL.out Q hQ)
  have HWD : Hid (∀ (Q : World), RB rb vL k Q → Kept [rb] w Q → Calls Try.prog 86 #[.pointer (some ⟨rb, 0, none⟩)] Q (VEnd rb vL l (wordR l k) Q)) := fun Q hB hQ => impl_word rb vL l fp k Q hl HTO.out hk hB (HL.out Q hQ)
  go_enter Try.func76, Try.ntmps76
  have S1 := Lib.hid (HSK.out 33 k w (by decide) hk HB0.out (Kept.refl _ _))
  cases h1 : mkAt l k [33]
  rotate_left
  · obtain ⟨a, ha, hr, hlt⟩ := pv_one_not HH.out h1
    have HR := Lib.hid hr
    have HC : Hid (∀ Q : World, RB rb vL (k + 1) Q → Kept [rb] w Q → Calls Try.prog 76 #[.pointer (some ⟨rb, 0, none⟩)] Q (VEnd rb vL l a Q)) := fun Q hB hQ => (IH d (by omega)).one (k + 1) a hlt ha rb vL fp Q hB (HL.out Q hQ) hnr
    rw [h1] at S1
    clear h1 ha hr HH
    go_wp2_with fail
    refine S1.out.mono ?_
    rintro e w2 ⟨rfl, hB2, hK2⟩
    replace hB2 : RB rb vL (k + 1) w2 := hB2
    have C2 := Lib.hid (HC.out w2 hB2 hK2)
    have K2 := Lib.hid hK2
    clear hB2 hK2 S1
    go_wp2_with fail
    refine C2.out.mono ?_
    rintro e w3 ⟨n, k3, rfl, hv, hn, hk3, hB3, hK3⟩
    have HV := Lib.hid hv
    have B3 := Lib.hid hB3
    have K3 := Lib.hid (K2.out.trans hK3)
    clear hv hB3 hK3 C2
    obtain ⟨a1, a2, f⟩ := a
    by_cases h0 : n = 0
    · have e0 : (n == 0) = true := by simp [h0]
      have HE : Hid (f = 0 → bit1 true = r.1 ∧ k3 = r.2.1) := fun hf => by rw [HR.out]; have := HV.out hf; refine ⟨?_, this.2⟩; show bit1 true = bit1 (decide (a1 = 0)); rw [← (show n = a1 from this.1), h0]; rfl
      go_wp2_with fail
      refine (impl_truth true _).mono ?_
      rintro e w4 ⟨rfl, rfl⟩
      go_wp2
      go_ret2
      exact vend (by rw [HR.out]) HE.out (by decide) hk3 B3.out K3.out
    · have e0 : (n == 0) = false := by simp [h0]
      have HE : Hid (f = 0 → bit1 false = r.1 ∧ k3 = r.2.1) := fun hf => by rw [HR.out]; have := HV.out hf; refine ⟨?_, this.2⟩; show bit1 false = bit1 (decide (a1 = 0)); rw [← (show n = a1 from this.1), decide_eq_false h0]
      go_wp2_with fail
      refine (impl_truth false _).mono ?_
      rintro e w4 ⟨rfl, rfl⟩
      go_wp2
      go_ret2
      exact vend (by rw [HR.out]) HE.out (by decide) hk3 B3.out K3.out
  have H1 := Lib.hid h1
  rw [h1] at S1
  clear h1
  go_wp2_with fail
  refine S1.out.mono ?_
  rintro e w2 ⟨rfl, hB2, hK2⟩
  replace hB2 : RB rb vL k w2 := hB2
  have B2 := Lib.hid hB2
  have K2 := Lib.hid hK2
  clear hB2 hK2 S1
  have S2 := Lib.hid (HSK.out 45 k w2 (by decide) hk B2.out K2.out)
  cases h2 : mkAt l k [45]
  rotate_left
  · obtain ⟨a, ha, hr, hlt⟩ := pv_one_neg HH.out H1.out h2
    have HR := Lib.hid hr
    have HC : Hid (∀ Q : World, RB rb vL (k + 1) Q → Kept [rb] w Q → Calls Try.prog 76 #[.pointer (some ⟨rb, 0, none⟩)] Q (VEnd rb vL l a Q)) := fun Q hB hQ => (IH d (by omega)).one (k + 1) a hlt ha rb vL fp Q hB (HL.out Q hQ) hnr
    rw [h2] at S2
    clear h2 ha hr HH
    go_wp2_with fail
    refine S2.out.mono ?_
    rintro e w3 ⟨rfl, hB3, hK3⟩
    replace hB3 : RB rb vL (k + 1) w3 := hB3
    have K3 := Lib.hid (K2.out.trans hK3)
    have C3 := Lib.hid (HC.out w3 hB3 K3.out)
    clear hB3 hK3 S2
    go_wp2_with fail
    refine C3.out.mono ?_
    rintro e w4 ⟨n, k3, rfl, hv, hn, hk3, hB3, hK3⟩
    have HV := Lib.hid hv
    have B3 := Lib.hid hB3
    have K4 := Lib.hid (K3.out.trans hK3)
    clear hv hB3 hK3 C3
    obtain ⟨a1, a2, f⟩ := a
    have hni := inR_iff.1 hn
    have HN := Lib.hid (inR_neg hn)
    have HE : Hid (f = 0 → -n = r.1 ∧ k3 = r.2.1) := fun hf => by rw [HR.out]; have := HV.out hf; refine ⟨?_, this.2⟩; show -n = -a1; rw [← (show n = a1 from this.1)]
    have hwn : IntKind.i64.wrap (-n) = -n := IntWalk.i64_in _ (by omega)
    clear hn
    go_wp2
    go_ret2
    exact vend (by rw [HR.out]) HE.out HN.out hk3 B3.out K4.out
  have H2 := Lib.hid h2
  rw [h2] at S2
  clear h2
  go_wp2_with fail
  refine S2.out.mono ?_
  rintro e w3 ⟨rfl, hB3, hK3⟩
  replace hB3 : RB rb vL k w3 := hB3
  have B3 := Lib.hid hB3
  have K3 := Lib.hid (K2.out.trans hK3)
  clear hB3 hK3 S2
  have S3 := Lib.hid (HSK.out 40 k w3 (by decide) hk B3.out K3.out)
  cases h3 : mkAt l k [40]
  rotate_left
  · obtain ⟨a, ha, hr, hlt⟩ := pv_one_par HH.out H1.out H2.out h3
    have HR := Lib.hid hr
    have HC : Hid (∀ Q : World, RB rb vL (k + 1) Q → Kept [rb] w Q → Calls Try.prog 39 #[.pointer (some ⟨rb, 0, none⟩)] Q (VEnd rb vL l a Q)) := fun Q hB hQ => (IH d (by omega)).choice (k + 1) a hlt ha rb vL fp Q hB (HL.out Q hQ) hnr
    rw [h3] at S3
    clear h3 ha hr HH
    go_wp2_with fail
    refine S3.out.mono ?_
    rintro e w4 ⟨rfl, hB4, hK4⟩
    replace hB4 : RB rb vL (k + 1) w4 := hB4
    have K4 := Lib.hid (K3.out.trans hK4)
    have C4 := Lib.hid (HC.out w4 hB4 K4.out)
    clear hB4 hK4 S3
    go_wp2_with fail
    refine C4.out.mono ?_
    rintro e w5 ⟨n, k5, rfl, hv, hn, hk5, hB5, hK5⟩
    have HV := Lib.hid hv
    have B5 := Lib.hid hB5
    have K5 := Lib.hid (K4.out.trans hK5)
    have HN := Lib.hid hn
    clear hv hB5 hK5 C4 hn
    obtain ⟨a1, a2, f⟩ := a
    by_cases hf : f = 0
    rotate_left
    · have HE : Hid (r.2.2 = f) := by show _ = _; rw [HR.out]; show (if f = 0 ∧ _ then _ else _) = _; rw [if_neg (fun h => hf h.1)]
      have HNF := Lib.hid hf
      have e0 : (f == 0) = false := by simp [hf]
      clear hf
      go_wp2
      go_ret2
      exact vend HE.out (fun h => absurd h HNF.out) HN.out hk5 B5.out K5.out
    subst hf
    obtain ⟨hv1, hv2⟩ := HV.out rfl
    have S5 := Lib.hid (HSK.out 41 k5 w5 (by decide) hk5 B5.out K5.out)
    have HV1 := Lib.hid hv1
    have HV2 := Lib.hid hv2
    clear hv1 hv2 HV
    cases h4 : mkAt l k5 [41]
    · have HE : Hid (r.2.2 = 1) := by show _ = _; rw [HR.out]; show (if (0 : Int) = 0 ∧ mkAt l a2 [41] = false then _ else _) = _; rw [← (show k5 = a2 from HV2.out), if_pos ⟨rfl, h4⟩]
      rw [h4] at S5
      clear h4
      go_wp2_with fail
      refine S5.out.mono ?_
      rintro e w6 ⟨rfl, hB6, hK6⟩
      replace hB6 : RB rb vL k5 w6 := hB6
      have B6 := Lib.hid hB6
      have K6 := Lib.hid (K5.out.trans hK6)
      clear hB6 hK6
      go_wp2
      go_ret2
      exact vend HE.out (fun h => absurd h (by decide)) HN.out hk5 B6.out K6.out
    · have HE : Hid (r = (n, k5 + 1, 0)) := by show _ = _; rw [HR.out]; show (a1, a2 + 1, if (0 : Int) = 0 ∧ mkAt l a2 [41] = false then _ else _) = _; rw [← (show k5 = a2 from HV2.out), if_neg (by rw [h4]; simp), ← (show n = a1 from HV1.out)]
      obtain ⟨hk6, -⟩ := mkAt_lt h4
      rw [h4] at S5
      clear h4
      go_wp2_with fail
      refine S5.out.mono ?_
      rintro e w6 ⟨rfl, hB6, hK6⟩
      replace hB6 : RB rb vL (k5 + 1) w6 := hB6
      have B6 := Lib.hid hB6
      have K6 := Lib.hid (K5.out.trans hK6)
      clear hB6 hK6
      go_wp2
      go_ret2
      exact vend (by rw [HE.out]) (fun _ => by rw [HE.out]; exact ⟨rfl, rfl⟩) HN.out hk6 B6.out K6.out
  have HR := Lib.hid (pv_one_word HH.out H1.out H2.out h3)
  rw [h3] at S3
  clear h3
  go_wp2_with fail
  refine S3.out.mono ?_
  rintro e w4 ⟨rfl, hB4, hK4⟩
  replace hB4 : RB rb vL k w4 := hB4
  have K4 := Lib.hid (K3.out.trans hK4)
  have W4 := Lib.hid (HWD.out w4 hB4 K4.out)
  rw [← HR.out] at W4
  clear hB4 hK4 S3
  go_wp2_with fail
  refine W4.out.mono ?_
  rintro e w5 ⟨n, k5, rfl, hv, hn, hk5, hB5, hK5⟩
  have HV := Lib.hid hv
  have B5 := Lib.hid hB5
  have K5 := Lib.hid (K4.out.trans hK5)
  have HN := Lib.hid hn
  clear hv hB5 hK5 W4 hn
  go_wp2
  go_ret2
  exact vend rfl HV.out HN.out hk5 B5.out K5.out

end Go.Proofs.Ytiaiggjfepoahab

/- Of the program: values with marks between. -/
namespace Go.Proofs.Ytiaiggjfepoahab
open Go.RowKit

theorem next_ok {l : List Tok} {k : Nat} {v : Value} {fp : List Nat} {w : World} (H : (sSlice sTok).R w [v] l fp) : okStr (nextT l k) := by
  by_cases h : k < l.length
  · rw [next_in h]
    obtain ⟨al, cl, rfl, hcl, hml, hrow⟩ := open_rows H
    obtain ⟨b1, o1, -, rfl, -, -, -⟩ := hrow (by omega)
    obtain ⟨xa, xc, xf, x0, x1, x2, x3, xR, -, -⟩ := tok_at H h
    exact xR.choose_spec.2.2.1
  · rw [next_out h]
    exact Nat.zero_le _
theorem more_stop {l : List Tok} {d rank e : Nat} {n : Int} {r : VRes} (h : pv l d (.more rank n e 0) = some r) (he : e ≤ l.length) (ht : ∀ t ∈ l, tokOk t = true) (hr : rankT (nextT l e).toList < rank) : r = (n, e, 0) := by
  by_cases hlt : e < l.length
  · cases d with
    | zero => simp [pv] at h
    | succ d =>
      unfold pv at h
      rw [dif_pos ⟨rfl, hlt⟩, if_pos (by rw [rankM_eq (ht _ (List.getElem_mem hlt)), ← next_in hlt]; exact hr)] at h
      exact (Option.some.inj h).symm
  · exact more_end h (fun h => hlt h.2)
theorem more_go {l : List Tok} {d rank e : Nat} {n : Int} {r : VRes} (h : pv l (d + 1) (.more rank n e 0) = some r) (ht : ∀ t ∈ l, tokOk t = true) (h1 : 1 ≤ rank) (hr : ¬ rankT (nextT l e).toList < rank) :
    e < l.length ∧ ∃ a, pv l d (.marks (e + 1) (rankT (nextT l e).toList + 1)) = some a ∧ (a.2.2 ≠ 0 → r = (0, a.2.1, a.2.2)) ∧ (a.2.2 = 0 → pv l d (.more rank (applyM (nextT l e).toList n a.1).1 a.2.1 (applyM (nextT l e).toList n a.1).2) = some r) := by
  have hlt : e < l.length := by
    refine Nat.lt_of_not_le fun h' => hr ?_
    rw [next_out (by omega), ByteArray.toList_eq]
    exact h1
  refine ⟨hlt, ?_⟩
  have hk : rankM l[e] = rankT (nextT l e).toList := by rw [rankM_eq (ht _ (List.getElem_mem hlt)), ← next_in hlt]
  have hx : l[e].text = nextT l e := (next_in hlt).symm
  unfold pv at h
  rw [dif_pos ⟨rfl, hlt⟩, if_neg (by rw [hk]; exact hr), hk, hx] at h
  obtain ⟨a, h2, h3⟩ := bind_some h
  refine ⟨a, h2, fun hf => ?_, fun hf => ?_⟩
  · simp only [if_pos hf] at h3
    exact (Option.some.inj h3).symm
  · simp only [hf, ne_eq, not_true_eq_false, if_false] at h3
    exact h3
theorem rankT_le (s : List UInt8) : rankT s ≤ 6 := by
  unfold rankT
  repeat' split
  all_goals omega

set_option maxHeartbeats 16000000 in
set_option maxRecDepth 100000 in
theorem row_walk {l : List Tok} {d : Nat} (hl : l.length ≤ 60) (ht : ∀ t ∈ l, tokOk t = true) (IH : ∀ d', d' < d → PC l d') (k rank : Nat) (r : VRes) (hk : k ≤ l.length) (h1 : 1 ≤ rank) (h7 : rank ≤ 7) (h : pv l d (.marks k rank) = some r) (rb : Nat) (vL : Value) (fp : List Nat) (w : World) (HB : RB rb vL k w) (H : (sSlice sTok).R w [vL] l fp) (hnr : rb ∉ fp) :
    Calls Try.prog 62 #[.pointer (some ⟨rb, 0, none⟩), .int .i64 rank] w (VEnd rb vL l r w) := by
  have HL := Lib.hid (fun (Q : World) (hQ : Kept [rb] w Q) => list_kept H hnr hQ)
  have HTO := Lib.hid ht
  have HB0 := Lib.hid HB
  clear H HB ht
  cases d with
  | zero => simp [pv] at h
  | succ d =>
  unfold pv at h
  obtain ⟨a, ha1, ha2⟩ := bind_some h
  have C0 := Lib.hid ((IH d (by omega)).one k a hk ha1 rb vL fp w HB0.out (HL.out w (Kept.refl _ _)) hnr)
  have HM := Lib.hid ha2
  clear h ha1 ha2
  go_enter Try.func62, Try.ntmps62
  go_wp2_with fail
  refine C0.out.mono ?_
  rintro e w1 ⟨n0, k0, rfl, hv, hn0, hk0, hB1, hK1⟩
  have HI : Hid ((a.2.2 = 0 → pv l d (.more rank n0 k0 0) = some r) ∧ (a.2.2 ≠ 0 → r.2.2 = a.2.2)) := ⟨fun hf => by
      have h9 := HM.out
      rw [hf, ← (hv hf).1, ← (hv hf).2] at h9
      exact h9, fun hf => by rw [more_bad HM.out hf]⟩
  have HB1 := Lib.hid hB1
  have HK1 := Lib.hid hK1
  obtain ⟨f0, HF0⟩ : ∃ f0 : Int, Hid (f0 = a.2.2) := ⟨_, Lib.hid rfl⟩
  rw [show a.2.2 = f0 from HF0.out.symm] at HI ⊢
  clear hv hB1 hK1 C0 HM
  go_wp2
  go_loopw [6, 7] (fun vn vf wr => ∃ (d' e : Nat) (n f : Int), d' ≤ d ∧ e ≤ l.length ∧ inR n = true ∧ vn = .int .i64 n ∧ vf = .int .i64 f ∧ Hid ((f = 0 → pv l d' (.more rank n e 0) = some r) ∧ (f ≠ 0 → r.2.2 = f)) ∧ Hid (RB rb vL e wr) ∧ Hid (Kept [rb] w wr)) (fun _ vf wr => if intOf vf = 0 then l.length - placeAt rb wr + 1 else 0)
  case atStart => exact ⟨d, k0, n0, f0, Nat.le_refl _, hk0, hn0, rfl, rfl, HI, HB1, HK1⟩
  case round =>
    clear HI HB1 HK1 hk0 hn0 HF0
    obtain ⟨d', e, n, f, hd', he, hn, rfl, rfl, HI, HB, HK⟩ := hrel
    by_cases hf : f = 0
    rotate_left
    · have HE := Lib.hid (HI.out.2 hf)
      have HNF := Lib.hid hf
      have g1 : (f == 0) = false := by simp [hf]
      clear hf
      go_wp2
      go_ret2
      exact vend HE.out (fun h => absurd h HNF.out) (by decide) he HB.out HK.out
    subst hf
    have HP := Lib.hid (HI.out.1 rfl)
    have HIN := Lib.hid hn
    clear HI hn
    have HNX := Lib.hid (impl_next rb vL l fp e wr he HB.out (HL.out wr HK.out))
    have HOK := Lib.hid (next_ok (k := e) (HL.out wr HK.out))
    obtain ⟨tx, HTX⟩ : ∃ tx : ByteArray, Hid (tx = nextT l e) := ⟨_, Lib.hid rfl⟩
    rw [show nextT l e = tx from HTX.out.symm] at HNX HOK
    have hr6 := rankT_le tx.toList
    have HRK : Hid (∀ Q, Calls Try.prog 29 #[.string tx] Q fun e w' => e = .returned (.int .i64 (rankT tx.toList : Nat)) ∧ w' = Q) := fun Q => impl_strengthOf tx Q
    obtain ⟨rk, HKK⟩ : ∃ rk : Nat, Hid (rk = rankT tx.toList) := ⟨_, Lib.hid rfl⟩
    rw [show rankT tx.toList = rk from HKK.out.symm] at HRK hr6
    go_wp2_with fail
    refine HNX.out.mono ?_
    rintro ee w2 ⟨rfl, hb2⟩
    go_wp2_with fail
    refine (HRK.out _).mono ?_
    rintro ee w3 ⟨rfl, rfl⟩
    have HB3 := Lib.hid (HB.out.below hb2)
    have HK3 := Lib.hid (HK.out.trans (Kept.of_below hb2))
    clear HNX HRK hb2 HK
    by_cases hlr : rk < rank
    · have HE := Lib.hid (more_stop HP.out he HTO.out (by rw [← HTX.out, ← HKK.out]; exact hlr))
      have g1 : (rk : Int) < (rank : Int) := by omega
      clear hlr
      go_wp2
      go_ret2
      exact vend (by rw [HE.out]) (fun _ => by rw [HE.out]; exact ⟨rfl, rfl⟩) HIN.out he HB3.out HK3.out
    have g1 : ¬ (rk : Int) < (rank : Int) := by omega
    cases d' with
    | zero => have := HP.out; simp [pv] at this
    | succ d' =>
    obtain ⟨hlt, a, ha1, hbad, hgo⟩ := more_go HP.out HTO.out h1 (by rw [← HTX.out, ← HKK.out]; exact hlr)
    rw [← HTX.out] at ha1 hgo
    rw [← HKK.out] at ha1
    have HFN := pv_fine l d' _ _ (show okQ l (.marks (e + 1) (rk + 1)) from hlt) ha1
    obtain ⟨-, -, f3, -, -⟩ := HFN
    have HNX : Hid (a.2.2 = 0 → a.2.1 ≤ l.length ∧ e + 1 < a.2.1) := fun h => ⟨(f3 h).1, ((f3 h).2.2).resolve_left (fun h => h)⟩
    have HC : Hid (∀ Q : World, RB rb vL (e + 1) Q → Kept [rb] w Q → Calls Try.prog 62 #[.pointer (some ⟨rb, 0, none⟩), .int .i64 (rk + 1 : Nat)] Q (VEnd rb vL l a Q)) := fun Q hB hQ => (IH d' (by omega)).marks (e + 1) (rk + 1) a hlt (by omega) (by omega) ha1 rb vL fp Q hB (HL.out Q hQ) hnr
    have HBAD := Lib.hid hbad
    have HGO := Lib.hid hgo
    clear ha1 hbad hgo f3 HP hlr
    have p1 := cell_of_row w3 rb 1 _ _ _ HB3.out
    have fz : w3.frozen? ⟨rb, 1, none⟩ = false := frozen_of_row _ _ 1 _ _ HB3.out
    have hwr : IntKind.i64.wrap ((e : Int) + 1) = (e : Int) + 1 := IntWalk.i64_in _ (by omega)
    have hwk : IntKind.i64.wrap ((rk : Int) + 1) = ((rk + 1 : Nat) : Int) := by rw [IntWalk.i64_in _ (by omega)]; omega
    have HB4 : Hid (RB rb vL (e + 1) (w3.setCell ⟨rb, 1, none⟩ (.int .i64 ((e : Int) + 1)))) := blk_set HB3.out 1 (.int .i64 ((e : Int) + 1))
    have HK4 : Hid (Kept [rb] w (w3.setCell ⟨rb, 1, none⟩ (.int .i64 ((e : Int) + 1)))) := HK3.out.setCell (p := ⟨rb, 1, none⟩) (by simp) _
    have HPL := Lib.hid HB.out.place
    go_upto_region 8 with fail
    clear p1 fz hwr HB3 HK3
    generalize (w3.setCell ⟨rb, 1, none⟩ (.int .i64 ((e : Int) + 1))) = w4 at *
    have C4 := Lib.hid (HC.out w4 HB4.out HK4.out)
    go_wp2_with fail
    refine C4.out.mono ?_
    rintro ee w5 ⟨m, k5, rfl, hv, hm, hk5, hB5, hK5⟩
    have HV := Lib.hid hv
    have B5 := Lib.hid hB5
    have K5 := Lib.hid (HK4.out.trans hK5)
    clear hv hB5 hK5 C4 HC hwk
    obtain ⟨a1, a2, o⟩ := a
    try dsimp only at HBAD HGO HNX HV
    by_cases ho : o = 0
    rotate_left
    · have HE : Hid ((o = 0 → pv l d' (.more rank n k5 0) = some r) ∧ (o ≠ 0 → r.2.2 = o)) := ⟨fun h => absurd h ho, fun h => by rw [HBAD.out h]⟩
      have g2 : (o == 0) = false := by simp [ho]
      have HNO := Lib.hid ho
      clear ho
      go_wp2
      go_roundw
      case rel => exact ⟨d', k5, n, o, by omega, hk5, HIN.out, rfl, rfl, HE, B5, K5⟩
      case measure => rw [HPL.out]; simp [intOf, HNO.out]
    subst ho
    obtain ⟨hv1, hv2⟩ := HV.out rfl
    obtain ⟨hn1, hn2⟩ := HNX.out rfl
    have HP2 := Lib.hid (HGO.out rfl)
    rw [← hv1, ← hv2] at HP2
    rw [← hv2] at hn1 hn2
    have HAP := Lib.hid (apply_any tx n m w5)
    have HAI := Lib.hid (applyM_in tx.toList n m)
    unfold AppOf at HAP
    rcases hap : applyM tx.toList n m with ⟨x, wf⟩
    rw [hap] at HAP HP2 HAI
    try dsimp only at HAP HP2 HAI
    clear hap HV HNX HGO HBAD hv1 hv2
    go_wp2_with fail
    refine HAP.out.mono ?_
    rintro ee w6 ⟨rfl, hb6⟩
    have HE : Hid ((wf = 0 → pv l d' (.more rank x k5 0) = some r) ∧ (wf ≠ 0 → r.2.2 = wf)) := ⟨fun h => by have h9 := HP2.out; rw [h] at h9; exact h9, fun h => by rw [more_bad HP2.out h]⟩
    have B6 := Lib.hid (B5.out.below hb6)
    have K6 := Lib.hid (K5.out.trans (Kept.of_below hb6))
    have HP6 := Lib.hid B6.out.place
    clear HAP HP2 hb6 B5 K5
    go_wp2
    go_roundw
    case rel => exact ⟨d', k5, x, wf, by omega, hk5, HAI.out.1, rfl, rfl, HE, B6, K6⟩
    case measure =>
      rw [HPL.out, HP6.out]
      by_cases hz : wf = 0
      · simp [intOf, hz]; omega
      · simp [intOf, hz]

end Go.Proofs.Ytiaiggjfepoahab

/- Of the program: choices, ValueOf. -/
namespace Go.Proofs.Ytiaiggjfepoahab
open Go.RowKit

theorem impl_ApplyMark (s : ByteArray) (a b : Int) (w : World) (_ : s.size ≤ maxLen) (_ : okInt a) (_ : okInt b) : Calls Try.prog 9 #[.string s, .int .i64 a, .int .i64 b] w (AppOf s.toList a b w) := apply_any s a b w
theorem impl_NumberOf (s : ByteArray) (w : World) (hs : s.size ≤ maxLen) : Calls Try.prog 11 #[.string s] w fun e w' => e = .returned (.int .i64 (numRes s.toList)) ∧ Below w.heap.size w w' := (number_same s w hs).mono (by rintro e w' ⟨h1, rfl⟩; exact ⟨h1, Below.refl _ _⟩)
theorem choice_plain {l : List Tok} {d k : Nat} {r a : VRes} (h : pv l (d + 1) (.choice k) = some r) (ha : pv l d (.marks k 1) = some a) (hn : ¬ (a.2.2 = 0 ∧ mkAt l a.2.1 [63] = true)) : r = a := by
  unfold pv at h
  rw [ha, Option.bind_some, if_neg hn] at h
  exact (Option.some.inj h).symm
theorem choice_more {l : List Tok} {d k : Nat} {r a : VRes} (h : pv l (d + 1) (.choice k) = some r) (ha : pv l d (.marks k 1) = some a) (hy : a.2.2 = 0 ∧ mkAt l a.2.1 [63] = true) :
    ∃ b, pv l d (.choice (a.2.1 + 1)) = some b ∧ (b.2.2 ≠ 0 → r = (0, b.2.1, b.2.2)) ∧ (b.2.2 = 0 → mkAt l b.2.1 [58] = false → r = (0, b.2.1, 1)) ∧ (b.2.2 = 0 → mkAt l b.2.1 [58] = true → ∃ c, pv l d (.choice (b.2.1 + 1)) = some c ∧ r = (if a.1 ≠ 0 then b.1 else c.1, c.2.1, c.2.2)) := by
  unfold pv at h
  rw [ha, Option.bind_some, if_pos hy] at h
  obtain ⟨b, h2, h3⟩ := bind_some h
  refine ⟨b, h2, fun hf => ?_, fun hf hm => ?_, fun hf hm => ?_⟩
  · rw [if_pos hf] at h3; exact (Option.some.inj h3).symm
  · rw [if_neg (by simp [hf]), if_neg (by rw [hm]; simp)] at h3; exact (Option.some.inj h3).symm
  · rw [if_neg (by simp [hf]), if_pos hm] at h3
    obtain ⟨c, h4, h5⟩ := bind_some h3
    exact ⟨c, h4, (Option.some.inj h5).symm⟩

set_option maxHeartbeats 16000000 in
set_option maxRecDepth 100000 in
theorem choice_walkP {l : List Tok} {d : Nat} (hl : l.length ≤ 60) (ht : ∀ t ∈ l, tokOk t = true) (IH : ∀ d', d' < d → PC l d') (k : Nat) (r : VRes) (hk : k ≤ l.length) (h : pv l d (.choice k) = some r) (rb : Nat) (vL : Value) (fp : List Nat) (w : World) (HB : RB rb vL k w) (H : (sSlice sTok).R w [vL] l fp) (hnr : rb ∉ fp) :
    Calls Try.prog 39 #[.pointer (some ⟨rb, 0, none⟩)] w (VEnd rb vL l r w) := by
  have HL := Lib.hid (fun (Q : World) (hQ : Kept [rb] w Q) => list_kept H hnr hQ)
  have HTO := Lib.hid ht
  have HB0 := Lib.hid HB
  clear H HB ht
  cases d with
  | zero => simp [pv] at h
  | succ d =>
  have HH := Lib.hid h
  unfold pv at h
  obtain ⟨a, ha1, -⟩ := bind_some h
  have HA := Lib.hid ha1
  have HSK : Hid (∀ (c : UInt8) (j : Nat) (Q : World), cutKind c = 4 → j ≤ l.length → RB rb vL j Q → Kept [rb] w Q → Calls Try.prog 63 #[.pointer (some ⟨rb, 0, none⟩), .string ⟨#[c]⟩] Q fun e w' => e = .returned (.bool (mkAt l j [c])) ∧ RB rb vL (if mkAt l j [c] = true then j + 1 else j) w' ∧ Kept [rb] Q w') :=
    fun c j Q hc hj hB hQ => impl_skip rb vL l fp j c Q hl HTO.out hc hj hB (HL.out Q hQ)
  have HCH : Hid (∀ (j : Nat) (b : VRes) (Q : World), j ≤ l.length → pv l d (.choice j) = some b → RB rb vL j Q → Kept [rb] w Q → Calls Try.prog 39 #[.pointer (some ⟨rb, 0, none⟩)] Q (VEnd rb vL l b Q)) := fun j b Q hj hb hB hQ => (IH d (by omega)).choice j b hj hb rb vL fp Q hB (HL.out Q hQ) hnr
  have C0 := Lib.hid ((IH d (by omega)).marks k 1 a hk (by omega) (by omega) ha1 rb vL fp w HB0.out (HL.out w (Kept.refl _ _)) hnr)
  rw [show ((1 : Nat) : Int) = 1 from rfl] at C0
  clear h ha1
  go_enter Try.func39, Try.ntmps39
  go_wp2_with fail
  refine C0.out.mono ?_
  rintro e w1 ⟨n, k1, rfl, hv, hn, hk1, hB1, hK1⟩
  have HV := Lib.hid hv
  have B1 := Lib.hid hB1
  have K1 := Lib.hid hK1
  have HN := Lib.hid hn
  clear hv hB1 hK1 C0 hn
  obtain ⟨a1, a2, f⟩ := a
  try dsimp only at HV
  by_cases hf : f = 0
  rotate_left
  · have HE := Lib.hid (choice_plain HH.out HA.out (fun h => hf h.1))
    have HNF := Lib.hid hf
    have g1 : (f != 0) = true := by simp [hf]
    clear hf
    go_wp2
    go_ret2
    exact vend (by rw [HE.out]) (fun h => absurd h HNF.out) HN.out hk1 B1.out K1.out
  subst hf
  obtain ⟨hv1, hv2⟩ := HV.out rfl
  subst hv1 hv2
  have S1 := Lib.hid (HSK.out 63 k1 w1 (by decide) hk1 B1.out K1.out)
  cases hq : mkAt l k1 [63]
  · have HE := Lib.hid (choice_plain HH.out HA.out (fun h => by rw [show mkAt l k1 [63] = false from hq] at h; exact absurd h.2 (by simp)))
    rw [hq] at S1
    clear hq
    go_wp2_with fail
    refine S1.out.mono ?_
    rintro e w2 ⟨rfl, hB2, hK2⟩
    replace hB2 : RB rb vL k1 w2 := hB2
    have B2 := Lib.hid hB2
    have K2 := Lib.hid (K1.out.trans hK2)
    clear hB2 hK2 S1
    go_wp2
    go_ret2
    exact vend (by rw [HE.out]) (fun _ => by rw [HE.out]; exact ⟨rfl, rfl⟩) HN.out hk1 B2.out K2.out
  obtain ⟨b, hb1, hbad, hno, hyes⟩ := choice_more HH.out HA.out ⟨rfl, hq⟩
  obtain ⟨hlt, -⟩ := mkAt_lt hq
  have HB1' := Lib.hid hb1
  have HBAD := Lib.hid hbad
  have HNO := Lib.hid hno
  have HYES := Lib.hid hyes
  rw [hq] at S1
  clear hq hb1 hbad hno hyes
  go_wp2_with fail
  refine S1.out.mono ?_
  rintro e w2 ⟨rfl, hB2, hK2⟩
  replace hB2 : RB rb vL (k1 + 1) w2 := hB2
  have K2 := Lib.hid (K1.out.trans hK2)
  have C2 := Lib.hid (HCH.out (k1 + 1) b w2 hlt HB1'.out hB2 K2.out)
  clear hB2 hK2 S1
  go_wp2_with fail
  refine C2.out.mono ?_
  rintro e w3 ⟨m, k3, rfl, hv, hm, hk3, hB3, hK3⟩
  have HV2 := Lib.hid hv
  have B3 := Lib.hid hB3
  have K3 := Lib.hid (K2.out.trans hK3)
  have HM := Lib.hid hm
  clear hv hB3 hK3 C2 hm HB1'
  obtain ⟨b1, b2, f⟩ := b
  try dsimp only at HV2 HBAD HNO HYES
  by_cases hf : f = 0
  rotate_left
  · have HE := Lib.hid (HBAD.out hf)
    have HNF := Lib.hid hf
    have g1 : (f != 0) = true := by simp [hf]
    clear hf
    go_wp2
    go_ret2
    exact vend (by rw [HE.out]) (fun h => absurd h HNF.out) (by decide) hk3 B3.out K3.out
  subst hf
  obtain ⟨hv1, hv2⟩ := HV2.out rfl
  subst hv1 hv2
  have S3 := Lib.hid (HSK.out 58 k3 w3 (by decide) hk3 B3.out K3.out)
  cases hq : mkAt l k3 [58]
  · have HE := Lib.hid (HNO.out rfl hq)
    rw [hq] at S3
    clear hq
    go_wp2_with fail
    refine S3.out.mono ?_
    rintro e w4 ⟨rfl, hB4, hK4⟩
    replace hB4 : RB rb vL k3 w4 := hB4
    have B4 := Lib.hid hB4
    have K4 := Lib.hid (K3.out.trans hK4)
    clear hB4 hK4 S3
    go_wp2
    go_ret2
    exact vend (by rw [HE.out]) (fun h => absurd h (by decide)) (by decide) hk3 B4.out K4.out
  obtain ⟨c, hc1, hr⟩ := HYES.out rfl hq
  obtain ⟨hlt3, -⟩ := mkAt_lt hq
  have HC1 := Lib.hid hc1
  have HR := Lib.hid hr
  rw [hq] at S3
  clear hq hc1 hr HYES HNO HBAD HV HV2
  go_wp2_with fail
  refine S3.out.mono ?_
  rintro e w4 ⟨rfl, hB4, hK4⟩
  replace hB4 : RB rb vL (k3 + 1) w4 := hB4
  have K4 := Lib.hid (K3.out.trans hK4)
  have C4 := Lib.hid (HCH.out (k3 + 1) c w4 hlt3 HC1.out hB4 K4.out)
  clear hB4 hK4 S3
  go_wp2_with fail
  refine C4.out.mono ?_
  rintro e w5 ⟨q, k5, rfl, hv, hq, hk5, hB5, hK5⟩
  have HV := Lib.hid hv
  have B5 := Lib.hid hB5
  have K5 := Lib.hid (K4.out.trans hK5)
  have HQ := Lib.hid hq
  clear hv hB5 hK5 C4 hq HC1
  obtain ⟨c1, c2, f⟩ := c
  try dsimp only at HV HR
  by_cases h0 : n = 0
  · have HE : Hid (r = (c1, c2, f)) := by show _ = _; rw [HR.out, if_neg (by simp [h0])]
    have g1 : (n != 0) = false := by simp [h0]
    clear h0
    go_wp2
    go_ret2
    exact vend (by rw [HE.out]) (fun h => by rw [HE.out]; exact HV.out h) HQ.out hk5 B5.out K5.out
  · have HE : Hid (r = (m, c2, f)) := by show _ = _; rw [HR.out, if_pos h0]
    have g1 : (n != 0) = true := by simp [h0]
    clear h0
    go_wp2
    go_ret2
    exact vend (by rw [HE.out]) (fun h => by rw [HE.out]; exact ⟨rfl, (HV.out h).2⟩) HM.out hk5 B5.out K5.out

theorem impl_PC {l : List Tok} (hl : l.length ≤ 60) (ht : ∀ t ∈ l, tokOk t = true) : ∀ d, PC l d := by
  intro d
  induction d using Nat.strongRecOn with
  | ind d ih => exact ⟨fun k r hk h rb vL fp w HB H hn => single_walk hl ht ih k r hk h rb vL fp w HB H hn, fun k rank r hk h1 h7 h rb vL fp w HB H hn => row_walk hl ht ih k rank r hk h1 h7 h rb vL fp w HB H hn, fun k r hk h rb vL fp w HB H hn => choice_walkP hl ht ih k r hk h rb vL fp w HB H hn⟩

set_option maxHeartbeats 16000000 in
set_option maxRecDepth 100000 in
theorem impl_ValueOf (v : Value) (l : List Tok) (fp : List Nat) (w : World) (H : (sSlice sTok).R w [v] l fp) : Calls Try.prog 15 #[v] w (ValOf (valRes l) w) := by
  have H0 := Lib.hid H
  have HV := Lib.hid (impl_TokensValid v l fp w H)
  obtain ⟨al, cl, rfl, hcl, hml, -⟩ := open_rows H
  unfold maxLen at hml
  clear H
  go_enter Try.func15, Try.ntmps15
  cases hv : toksOk l
  · have HF := Lib.hid (val_bad hv)
    rw [hv] at HV
    clear hv
    go_wp2_with fail
    refine HV.out.mono ?_
    rintro e w2 ⟨rfl, hb2⟩
    go_wp2
    go_ret2
    exact val_ret HF.out hb2
  have hl60 := (toksOk_facts hv).1
  have HTO : Hid (∀ t ∈ l, tokOk t = true) := fun t ht => by obtain ⟨k, hk, rfl⟩ := List.getElem_of_mem ht; exact (toksOk_facts hv).2 k hk
  obtain ⟨⟨n, e, f⟩, hp⟩ := pv_total l (4 * l.length + 4) (.choice 0) (Nat.zero_le _) (by show 4 * (l.length - 0) + 4 ≤ _; omega)
  have HGO := Lib.hid (val_go hv hp)
  have HLT := Lib.hid ((sSlice sTok).lt H0.out)
  have HC : Hid (∀ (rb : Nat) (Q : World), Below w.heap.size w Q → w.heap.size ≤ rb → RB rb (.slice al l.length cl) 0 Q → Calls Try.prog 39 #[.pointer (some ⟨rb, 0, none⟩)] Q (VEnd rb (.slice al l.length cl) l (n, e, f) Q)) := fun rb Q hQ hge hB => (impl_PC hl60 HTO.out (4 * l.length + 4)).choice 0 _ (Nat.zero_le _) hp rb _ fp Q hB ((sSlice sTok).below H0.out hQ) (fun h => by have := HLT.out _ h; omega)
  rw [hv] at HV
  clear hv hp
  go_wp2_with fail
  refine HV.out.mono ?_
  rintro ee w2 ⟨rfl, hb2⟩
  have ba := alloc_below' w2 (.cells #[.slice al l.length cl, .int .i64 0] 62)
  have HX : Hid (RB w2.heap.size (.slice al l.length cl) 0 (w2.alloc (.cells #[.slice al l.length cl, .int .i64 0] 62))) := heap_alloc_new w2 (.cells #[.slice al l.length cl, .int .i64 0] 62)
  have hb3 := hb2.trans (ba.mono hb2.size)
  have hge := hb2.size
  go_upto_region 4 with fail
  generalize (w2.alloc (.cells #[.slice al l.length cl, .int .i64 0] 62)) = w3 at *
  obtain ⟨rb, HRB⟩ : ∃ rb : Nat, Hid (rb = w2.heap.size) := ⟨_, Lib.hid rfl⟩
  rw [show w2.heap.size = rb from HRB.out.symm] at HX hge ⊢
  have C3 := Lib.hid (HC.out rb w3 hb3 hge HX.out)
  clear HV HC ba
  go_wp2_with fail
  refine C3.out.mono ?_
  rintro ee w4 ⟨m, k, rfl, hv, hm, hk, hB, hK⟩
  have hB4 : Below w.heap.size w w4 := hb3.trans (hK.below (fun b hb => by obtain rfl := List.mem_singleton.1 hb; exact hge) hb3.size)
  have p1 := cell_of_row w4 rb 1 _ _ _ hB
  clear C3 hB hK
  try dsimp only at hv
  by_cases hf : f = 0
  rotate_left
  · have HF : Hid (valRes l = (0, f)) := by show _ = _; rw [HGO.out, if_pos hf]
    have g1 : (f == 0) = false := by simp [hf]
    have g2 : (f != 0) = true := by simp [hf]
    clear hf
    go_wp2
    go_ret2
    exact val_ret HF.out hB4
  subst hf
  obtain ⟨rfl, rfl⟩ := hv rfl
  by_cases he : k = l.length
  · have HF : Hid (valRes l = (m, 0)) := by show _ = _; rw [HGO.out, if_neg (by simp), if_neg (by simp [he])]
    have g0 : ¬ (k : Int) < (l.length : Int) := by omega
    have g1 : ¬ k < l.length := by omega
    have g2 : decide (k < l.length) = false := decide_eq_false g1
    clear he
    go_wp2
    go_ret2
    exact val_ret HF.out hB4
  · have HF : Hid (valRes l = (0, 1)) := by show _ = _; rw [HGO.out, if_neg (by simp), if_pos he]
    have g0 : (k : Int) < (l.length : Int) := by omega
    have g1 : k < l.length := by omega
    have g2 : decide (k < l.length) = true := decide_eq_true g1
    clear he
    go_wp2
    go_ret2
    exact val_ret HF.out hB4

end Go.Proofs.Ytiaiggjfepoahab

/- Of the program: brackets, the closing place, a token's copy. -/
namespace Go.Proofs.Ytiaiggjfepoahab
open Go.RowKit

set_option maxHeartbeats 2000000 in
theorem impl_opening (cs : List Value) (x : Tok) (fp : List Nat) (w : World) (H : sTok.R w cs x fp) :
    Calls Try.prog 78 #[.agg cs.toArray] w fun e w' => e = .returned (.int .i64 (opn x)) ∧ Below w.heap.size w w' := by
  obtain ⟨h, rfl, hk, hok, K⟩ := H
  obtain ⟨a0, cap0, rfl, -⟩ := open_strs K
  have hb := alloc_below' w (.cells #[.int .i64 x.kind, .string x.text, .bool x.spaced, .slice a0 x.hidden.length cap0] 47)
  clear K
  go_enter Try.func78, Try.ntmps78
  cases h1 : isOpen x
  · have e1 : (x.text.toList == [40]) = false := h1
    cases h2 : isShut x
    · have e2 : (x.text.toList == [41]) = false := h2
      have HF := Lib.hid (opn_else h1 h2)
      clear h1 h2
      go_wp2
      go_ret
      exact ⟨by rw [HF.out]; rfl, hb⟩
    · have e2 : (x.text.toList == [41]) = true := h2
      have HF := Lib.hid (opn_shut h1 h2)
      clear h1 h2
      go_wp2
      go_ret
      exact ⟨by rw [HF.out]; rfl, hb⟩
  · have e1 : (x.text.toList == [40]) = true := h1
    have HF := Lib.hid (opn_open h1)
    clear h1
    go_wp2
    go_ret
    exact ⟨by rw [HF.out]; rfl, hb⟩

theorem clGo_step {l : List Tok} {k : Nat} (hk : k < l.length) (d : Int) : clGo (l.drop k) d k = if d + opn l[k] = 0 then some k else clGo (l.drop (k + 1)) (d + opn l[k]) (k + 1) := by
  rw [List.drop_eq_getElem_cons hk]; rfl
theorem clGo_end {l : List Tok} {k : Nat} (hk : l.length ≤ k) (d : Int) : clGo (l.drop k) d k = none := by rw [List.drop_of_length_le hk]; rfl
def clRes (o : Option Nat) : Int := match o with | some e => (e : Int) | none => -1

set_option maxHeartbeats 4000000 in
set_option maxRecDepth 100000 in
theorem impl_closingPlace (v : Value) (l : List Tok) (fp : List Nat) (n : Nat) (w : World) (hl : l.length ≤ 60) (hn : n ≤ l.length) (H : (sSlice sTok).R w [v] l fp) :
    Calls Try.prog 66 #[v, .int .i64 n] w fun e w' => e = .returned (.int .i64 (clRes (clGo (l.drop n) 0 n))) ∧ Below w.heap.size w w' := by
  obtain ⟨a, cap, rfl, hc, hm, hrow⟩ := open_rows H
  unfold maxLen at hm
  clear H
  obtain ⟨r, HR⟩ : ∃ r, Hid (r = clGo (l.drop n) 0 n) := ⟨_, rfl⟩
  rw [← HR.out]
  go_enter Try.func66, Try.ntmps66
  go_wp2
  go_loopw [5, 6] (fun d i wr => ∃ (k : Nat) (dd : Int), n ≤ k ∧ k ≤ l.length ∧ i = .int .i64 k ∧ d = .int .i64 dd ∧ -(k : Int) ≤ dd ∧ dd ≤ k ∧ Hid (clGo (l.drop k) dd k = r) ∧ Below w.heap.size w wr) (fun _ i _ => l.length - (intOf i).toNat)
  case atStart => exact ⟨n, 0, Nat.le_refl _, hn, rfl, rfl, by omega, by omega, HR.out.symm, Below.refl _ _⟩
  case round =>
    obtain ⟨k, dd, hnk, hk, rfl, rfl, hd1, hd2, HI, hb⟩ := hrel
    by_cases hlt : k < l.length
    · obtain ⟨b1, off1, fps1, rfl, hb1, -, he1⟩ := hrow (by omega)
      obtain ⟨es1, hE1, hR1⟩ := he1 k hlt
      clear hrow he1
      have hR2 := sTok.below hR1 hb
      obtain ⟨h1', rfl, _, _, _⟩ := hR1
      have HC := Lib.hid (impl_opening _ _ _ wr hR2)
      clear hR2
      replace hE1 := hE1.frame (hb.block b1 hb1)
      have c10 : wr.cell? ⟨b1, off1 + k * 4, none⟩ = some _ := elem_cell0 hE1 (by decide) rfl
      have c11 : wr.cell? ⟨b1, off1 + k * 4 + 1, none⟩ = some _ := elem_cell (j := 1) hE1 (by decide) rfl
      have c12 : wr.cell? ⟨b1, off1 + k * 4 + 2, none⟩ = some _ := elem_cell (j := 2) hE1 (by decide) rfl
      have c13 : wr.cell? ⟨b1, off1 + k * 4 + 3, none⟩ = some _ := elem_cell (j := 3) hE1 (by decide) rfl
      clear hE1
      have hst := HI.out
      rw [clGo_step hlt] at hst
      have ho := opn_ge l[k]
      have hwr : IntKind.i64.wrap (dd + opn l[k]) = dd + opn l[k] := IntWalk.i64_in _ (by omega)
      generalize hon : opn l[k] = on at *
      go_wp2_with fail
      refine HC.out.mono ?_
      rintro e w2 ⟨rfl, hb2⟩
      clear c10 c11 c12 c13 HC
      have hb' := hb.trans (hb2.mono hb.size)
      by_cases h0 : dd + on = 0
      · rw [if_pos h0] at hst
        have e0 : ((dd + on : Int) == 0) = true := by simpa using h0
        have HF := Lib.hid hst
        clear hst h0 hon
        go_wp2
        go_ret
        exact ⟨by rw [← HF.out]; rfl, hb'⟩
      · rw [if_neg h0] at hst
        have e0 : ((dd + on : Int) == 0) = false := by simpa using h0
        have HF := Lib.hid hst
        clear hst h0 hon
        go_wp2
        go_roundw
        case rel => exact ⟨k + 1, dd + on, by omega, by omega, by go_num, rfl, by omega, by omega, HF, hb'⟩
        case measure => simp [intOf]; omega
    · have HF := Lib.hid ((clGo_end (by omega : l.length ≤ k) dd).symm.trans HI.out)
      clear HI
      go_wp2
      go_ret
      exact ⟨by rw [← HF.out]; rfl, hb⟩

/-- A token's copy in memory of the call's own. -/
def CopyTok (x : Tok) (w : World) (e : Ending) (w' : World) : Prop :=
  ∃ (ao : Option Addr) (c : Nat) (fp : List Nat), e = .returned (.agg #[.int .i64 x.kind, .string x.text, .bool x.spaced, .slice ao x.hidden.length c]) ∧ sTok.R w' [.int .i64 x.kind, .string x.text, .bool x.spaced, .slice ao x.hidden.length c] x fp ∧
    Own w' w.heap.size fp ∧ (∀ b ∈ fp, ∃ cur t fr, w'.heap[b]? = some (.cells cur t fr) ∧ t = 9) ∧ Below w.heap.size w w'

set_option maxHeartbeats 4000000 in
set_option maxRecDepth 100000 in
theorem impl_copyToken (cs : List Value) (x : Tok) (fp : List Nat) (w : World) (hx : x.hidden.length ≤ 2000000) (H : sTok.R w cs x fp) : Calls Try.prog 79 #[.agg cs.toArray] w (CopyTok x w) := by
  obtain ⟨h, rfl, hk, hok, K⟩ := H
  obtain ⟨a0, cap0, rfl, -, -, -, hsz⟩ := open_strs K
  have b0 := alloc_below' w (.cells #[.int .i64 x.kind, .string x.text, .bool x.spaced, .slice a0 x.hidden.length cap0] 47)
  have hb2 := b0.trans ((alloc_below' (w.alloc (.cells #[.int .i64 x.kind, .string x.text, .bool x.spaced, .slice a0 x.hidden.length cap0] 47)) (.cells #[.int .i64 0, .string ⟨#[]⟩, .bool false, .slice none 0 0] 47)).mono b0.size)
  obtain ⟨g0, g1⟩ := alloc2_blk w #[.int .i64 x.kind, .string x.text, .bool x.spaced, .slice a0 x.hidden.length cap0] #[.int .i64 0, .string ⟨#[]⟩, .bool false, .slice none 0 0] 47 47
  have hs2 : ((w.alloc (.cells #[.int .i64 x.kind, .string x.text, .bool x.spaced, .slice a0 x.hidden.length cap0] 47)).alloc (.cells #[.int .i64 0, .string ⟨#[]⟩, .bool false, .slice none 0 0] 47)).heap.size = w.heap.size + 2 := by
    show ((w.heap.push _).push _).size = _
    simp
  have HK := Lib.hid ((sSlice sStr).below K hb2)
  have HSZ := Lib.hid hsz
  clear K hsz b0
  obtain ⟨hv, HV⟩ : ∃ hv : Value, Hid (hv = Value.slice a0 x.hidden.length cap0) := ⟨_, rfl⟩
  go_enter Try.func79, Try.ntmps79
  go_upto_region 2 with fail
  generalize ((w.alloc (.cells #[.int .i64 x.kind, .string x.text, .bool x.spaced, .slice a0 x.hidden.length cap0] 47)).alloc (.cells #[.int .i64 0, .string ⟨#[]⟩, .bool false, .slice none 0 0] 47)) = W3 at *
  have c03 : W3.cell? ⟨w.heap.size, 3, none⟩ = some hv := by
    rw [HV.out]
    exact cell_of_row _ _ 3 _ _ _ g0
  have HKV : Hid ((sSlice sStr).R W3 [hv] x.hidden fp) := by show (sSlice sStr).R _ _ _ _; rw [HV.out]; exact HK.out
  have HG := Lib.hid (And.intro g0 (And.intro g1 hs2))
  have hb4 := Lib.hid hb2
  clear g0 g1 hs2 HK hb2
  go_wp2_with (
    at_builtin
    refine wp_append_strsR rfl (.tmp 4) (.tmp 6) rfl W3.heap.size (.slice none 0 0) hv [] x.hidden _ rfl (World.ownsRow_nil _ _ _ _) rfl HKV.out (by simp; omega) (Nat.le_refl _) ?_
    intro v5 w1 hown hgrow
    rw [List.nil_append] at hown
    obtain ⟨fp1, R1, O1, hfp⟩ := own_flat (ok := okStr) hown HSZ.out
    have hs3 := HG.out.2.2
    have hblk : ∀ k, k < W3.heap.size → w1.heap[k]? = W3.heap[k]? := fun k hk => hgrow.block k hk (by simp [Value.ownBlock])
    have HG1 : Hid (w1.heap[w.heap.size]? = some (.cells #[.int .i64 x.kind, .string x.text, .bool x.spaced, .slice a0 x.hidden.length cap0] 47 (0, 0)) ∧ w1.heap[w.heap.size + 1]? = some (.cells #[.int .i64 0, .string ⟨#[]⟩, .bool false, .slice none 0 0] 47 (0, 0))) :=
      ⟨(hblk _ (by omega)).trans HG.out.1, (hblk _ (by omega)).trans HG.out.2.1⟩
    have hb : Below w.heap.size w w1 := hb4.out.grown hgrow (by omega) (fun b hb => by simp [Value.ownBlock] at hb)
    have hty : ∀ b ∈ fp1, ∃ cur t fr, w1.heap[b]? = some (.cells cur t fr) ∧ t = 9 := fun b hb' => by
      have hv := hfp b hb'
      rcases hown.2 with ⟨rfl, _⟩ | ⟨g, cap, cur, rfl, _, hg, _⟩
      · simp [Value.ownBlock] at hv
      · simp only [Value.ownBlock, Option.some.injEq] at hv
        subst hv
        exact ⟨_, _, _, hg, rfl⟩
    have hlo : ∀ b ∈ fp1, w.heap.size + 2 ≤ b := fun b hb => by have := (O1.2 b hb).1; omega
    have HOW : Hid (Own w1 w.heap.size fp1) := O1.lower (by omega)
    clear HG hblk hgrow hown hfp O1 c03 hb4 HKV hs3
    obtain ⟨a1, cap1, rfl, hq⟩ := open_rows R1
    clear hq
    have c10 : w1.cell? ⟨w.heap.size + 1, 0, none⟩ = some (.int .i64 0) := cell_of_row w1 (w.heap.size + 1) 0 _ _ _ HG1.out.2
    have c11 : w1.cell? ⟨w.heap.size + 1, 1, none⟩ = some (.string ⟨#[]⟩) := cell_of_row w1 (w.heap.size + 1) 1 _ _ _ HG1.out.2
    have c12 : w1.cell? ⟨w.heap.size + 1, 2, none⟩ = some (.bool false) := cell_of_row w1 (w.heap.size + 1) 2 _ _ _ HG1.out.2
    have c13 : w1.cell? ⟨w.heap.size + 1, 3, none⟩ = some (.slice none 0 0) := cell_of_row w1 (w.heap.size + 1) 3 _ _ _ HG1.out.2
    have c20 : w1.cell? ⟨w.heap.size, 0, none⟩ = some (.int .i64 x.kind) := cell_of_row w1 (w.heap.size) 0 _ _ _ HG1.out.1
    have c21 : w1.cell? ⟨w.heap.size, 1, none⟩ = some (.string x.text) := cell_of_row w1 (w.heap.size) 1 _ _ _ HG1.out.1
    have c22 : w1.cell? ⟨w.heap.size, 2, none⟩ = some (.bool x.spaced) := cell_of_row w1 (w.heap.size) 2 _ _ _ HG1.out.1
    have c23 : w1.cell? ⟨w.heap.size, 3, none⟩ = some (.slice a0 x.hidden.length cap0) := cell_of_row w1 (w.heap.size) 3 _ _ _ HG1.out.1
    have f10 : w1.frozen? ⟨w.heap.size + 1, 0, none⟩ = false := frozen_of_row w1 (w.heap.size + 1) 0 _ _ HG1.out.2
    have f11 : w1.frozen? ⟨w.heap.size + 1, 1, none⟩ = false := frozen_of_row w1 (w.heap.size + 1) 1 _ _ HG1.out.2
    have f12 : w1.frozen? ⟨w.heap.size + 1, 2, none⟩ = false := frozen_of_row w1 (w.heap.size + 1) 2 _ _ HG1.out.2
    have f13 : w1.frozen? ⟨w.heap.size + 1, 3, none⟩ = false := frozen_of_row w1 (w.heap.size + 1) 3 _ _ HG1.out.2
    have f23 : w1.frozen? ⟨w.heap.size, 3, none⟩ = false := frozen_of_row w1 (w.heap.size) 3 _ _ HG1.out.1
    have hn1 : w.heap.size + 1 ∉ fp1 := fun hx => by have := hlo _ hx; omega
    have hn2 : w.heap.size ∉ fp1 := fun hx => by have := hlo _ hx; omega
    have HR := Lib.hid ((sSlice sStr).setB ((sSlice sStr).setB ((sSlice sStr).setB ((sSlice sStr).setB ((sSlice sStr).setB R1 hn2 3 (.slice a1 x.hidden.length cap1)) hn1 0 (.int .i64 x.kind)) hn1 1 (.string x.text)) hn1 2 (.bool x.spaced)) hn1 3 (.slice a1 x.hidden.length cap1))
    have HOF := Lib.hid (((((HOW.out.setCell ⟨w.heap.size, 3, none⟩ (.slice a1 x.hidden.length cap1)).setCell ⟨w.heap.size + 1, 0, none⟩ (.int .i64 x.kind)).setCell ⟨w.heap.size + 1, 1, none⟩ (.string x.text)).setCell ⟨w.heap.size + 1, 2, none⟩ (.bool x.spaced)).setCell ⟨w.heap.size + 1, 3, none⟩ (.slice a1 x.hidden.length cap1))
    have HT : Hid (∀ b ∈ fp1, ∃ cur t fr, (((((w1.setCell ⟨w.heap.size, 3, none⟩ (.slice a1 x.hidden.length cap1)).setCell ⟨w.heap.size + 1, 0, none⟩ (.int .i64 x.kind)).setCell ⟨w.heap.size + 1, 1, none⟩ (.string x.text)).setCell ⟨w.heap.size + 1, 2, none⟩ (.bool x.spaced)).setCell ⟨w.heap.size + 1, 3, none⟩ (.slice a1 x.hidden.length cap1)).heap[b]? = some (.cells cur t fr) ∧ t = 9) := fun b hb => by
      obtain ⟨cur, t, fr, q1, q2⟩ := hty b hb
      have e1 : b ≠ w.heap.size + 1 := fun e => hn1 (e ▸ hb)
      have e2 : b ≠ w.heap.size := fun e => hn2 (e ▸ hb)
      exact ⟨cur, t, fr, blk_other (blk_other (blk_other (blk_other (blk_other q1 e2 _ _) e1 _ _) e1 _ _) e1 _ _) e1 _ _, q2⟩
    have HB := Lib.hid (((((hb.setCell (p := ⟨w.heap.size, 3, none⟩) (by simp) (.slice a1 x.hidden.length cap1)).setCell (p := ⟨w.heap.size + 1, 0, none⟩) (by simp) (.int .i64 x.kind)).setCell (p := ⟨w.heap.size + 1, 1, none⟩) (by simp) (.string x.text)).setCell (p := ⟨w.heap.size + 1, 2, none⟩) (by simp) (.bool x.spaced)).setCell (p := ⟨w.heap.size + 1, 3, none⟩) (by simp) (.slice a1 x.hidden.length cap1))
    have HS := Lib.hid (blk_set (blk_set (blk_set (blk_set (blk_other HG1.out.2 (by omega : w.heap.size + 1 ≠ w.heap.size) 3 (.slice a1 x.hidden.length cap1)) 0 (.int .i64 x.kind)) 1 (.string x.text)) 2 (.bool x.spaced)) 3 (.slice a1 x.hidden.length cap1))
    clear HG1 hty hlo HOW)
  refine bodyPost_ret (results_cell_row rfl _ _ (w.heap.size + 1) _ _ _ _ rfl HS.out Try.underlying47 rfl (by kernel_rfl)) rfl ?_
  exact ⟨a1, cap1, fp1, rfl, ⟨_, rfl, hk, hok, HR.out⟩, HOF.out, HT.out, HB.out⟩

end Go.Proofs.Ytiaiggjfepoahab

/- Validity of tables, of both. (Made by gen_tab2.py.) -/
namespace Go.Proofs.Ytiaiggjfepoahab
open Go.RowKit

section
variable {P : Program} {ops : Array Oper} {Q : Exit → Act → World → Prop} {md : Region.Mode} {S : World → Prop}
/-- An operation of a drawn region is taken first; its slot is written out. -/
theorem takeH (i d : Nat) {oi : Oper} {v : Value} {fuel : Nat} {listed : Array Bool} {a : Act} {w : World} (hi : ops[i]? = some oi) (hd : oi.dst = some d)
    (hs : Region.noSelect ops = true) (hf : Region.free md ops listed i = true) (hr : (Region.ready md ops listed).contains i = true)
    (hQ : ∀ c a w, Q (.panic c) (a.put (some d) v) w → Q (.panic c) a w) (hw : Region.wanted oi (yielded ops a.tmps) = true) (hS : S w)
    (hy : ∀ w, S w → (execOp a.eval oi).run P w = .ok (.value v) w)
    (h : wpAnyH P md ops Q S fuel (listed.setIfInBounds i true) (a.put (some d) v) w) : wpAnyH P md ops Q S (fuel + 1) listed a w :=
  wpAnyH_take hi hs hf hr (by rw [hd]; exact hQ) (.inl ⟨hw, hy⟩) hS (by rw [hd]; exact h)
end
end Go.Proofs.Ytiaiggjfepoahab

/- divideArguments and SplitArguments of the program. (Made by gen_spld.py.) -/
namespace Go.Proofs.Ytiaiggjfepoahab
open Go.RowKit

/-- append at an operation of a drawn region, behind a row of the call's own. -/
theorem step_append_rowE {α : Type} {S : Shape α} {P : Program} {t e : TypeId} {z : Value} {bytes : Nat} (ti : TI P t e z S.m bytes) (hzs : z.cells.size = S.m) (h0 : 0 < S.m) (w : World) {L X : List (Elem α)} {ops : Array Oper} {o : Oper} {a : Act} {K : Act → World → Prop} {Q : Exit → Act → World → Prop} {E : Prop}
    (d : Nat) (hdst : o.dst = some d) (hg : o.guard = none) (s y : Operand) (ho : o.op = .call { callee := .builtin .append, args := #[s, y], argTypes := #[t, t] })
    (base : Nat) (v : Value) (hs : a.eval s = v) (hown : RowE S base e v L w) (g m c : Nat) (hy : a.eval y = .slice (some ⟨g, 0, none⟩) m c) (hm : X.length = m)
    (hlen : ∀ x ∈ X, x.cells.length = S.m) (h1 : ∀ x ∈ X, ∀ u ∈ x.cells, u.oneCell' = true) (hcell : ∀ j u, (X.flatMap (·.cells))[j]? = some u → w.cell? ⟨g, j, none⟩ = some u)
    (hR : ∀ x ∈ X, S.R w x.cells x.d x.fp) (hlo : ∀ x ∈ X, ∀ b ∈ x.fp, base ≤ b) (hty : ∀ x ∈ X, ∀ b ∈ x.fp, ∃ cur t fr, w.heap[b]? = some (.cells cur t fr) ∧ t ≠ e)
    (h63 : L.length + m ≤ maxLen) (hbytes : (L.length + m) * bytes ≤ 140737488355328) (hbase : base ≤ w.heap.size)
    (h : ∀ v' w', RowE S base e v' (L ++ X) w' → w.grownBy w' v.ownBlock → K (a.put (some d) v') w') : if Region.wanted o (yielded ops a.tmps) = true then Oper.wp P o a w K Q else E := by
  rw [← hdst] at h
  have hwt : Region.wanted o (yielded ops a.tmps) = true := by simp [Region.wanted, hg]
  obtain ⟨i, hi, hz0, hz1, hz2⟩ := info_parts ti.2
  subst hm
  rw [if_pos hwt]
  refine wp_append_own w s y t ho base e i z S.m bytes ti.1 hi hz0 hz1 hz2 hzs h0 v L.length _ hs hown.row ⟨g, 0, none⟩ X.length c (X.flatMap (·.cells)) hy (flatMap_len hlen) ?_ ?_ h63 hbytes hbase fun v' w' r1 r2 _ => h v' w' ?_ r2
  · intro j u hj
    rw [addr_add, Nat.zero_add]
    exact hcell j u hj
  · intro u hu
    obtain ⟨x, hx, hu⟩ := List.mem_flatMap.1 hu
    exact h1 x hx u hu
  · refine hown.appended ?_ r2 hlen hR hlo hty
    rw [List.length_append, List.flatMap_append]
    exact r1

/-- What divideArguments has made: the arguments done, the one under way. -/
structure DivSt (B : Nat) (va u : Value) (A : List (Elem (List Tok))) (M : List (Elem Tok)) (w : World) : Prop where
  row : w.ownsRow B 30 1 va (A.length + 1) (A.flatMap (·.cells) ++ [u])
  len : ∀ x ∈ A, x.cells.length = 1
  el : ∀ x ∈ A, sToks.R w x.cells x.d x.fp
  inn : ∃ top, RowE sTok top 47 u M w ∧ B ≤ top ∧ top ≤ w.heap.size ∧ ∀ x ∈ A, ∀ b ∈ x.fp, b < top
  ownA : Own w B (A.flatMap (·.fp))
  ownM : Own w B (M.flatMap (·.fp))
  tyA : TokTy w (A.flatMap (·.fp))
  tyM : TokTy w (M.flatMap (·.fp))
section
variable {B : Nat} {va u : Value} {A : List (Elem (List Tok))} {M : List (Elem Tok)} {w w' : World}
theorem DivSt.same (h : DivSt B va u A M w) (hs : w.heap.size ≤ w'.heap.size) (hr : ∀ g, va.ownBlock = some g → w'.heap[g]? = w.heap[g]?) (hu : ∀ g, u.ownBlock = some g → w'.heap[g]? = w.heap[g]?) (hA : ∀ b ∈ A.flatMap (·.fp), w'.heap[b]? = w.heap[b]?) (hM : ∀ b ∈ M.flatMap (·.fp), w'.heap[b]? = w.heap[b]?) : DivSt B va u A M w' := by
  obtain ⟨top, g1, g2, g3, g4⟩ := h.inn
  have mA : ∀ x ∈ A, ∀ b ∈ x.fp, w'.heap[b]? = w.heap[b]? := fun x hx b hb => hA b (List.mem_flatMap.2 ⟨x, hx, hb⟩)
  have mM : ∀ x ∈ M, ∀ b ∈ x.fp, w'.heap[b]? = w.heap[b]? := fun x hx b hb => hM b (List.mem_flatMap.2 ⟨x, hx, hb⟩)
  refine ⟨ownsRow_same h.row hr, h.len, fun x hx => sToks.frame (mA x hx) (h.el x hx), ⟨top, g1.same2 hu mM, g2, Nat.le_trans g3 hs, g4⟩, ⟨h.ownA.1, fun b hb => ?_⟩, ⟨h.ownM.1, fun b hb => ?_⟩, h.tyA.same fun b hb _ => hA b hb, h.tyM.same fun b hb _ => hM b hb⟩
  · obtain ⟨q1, cur, e, q2⟩ := h.ownA.2 b hb
    exact ⟨q1, cur, e, (hA b hb).trans q2⟩
  · obtain ⟨q1, cur, e, q2⟩ := h.ownM.2 b hb
    exact ⟨q1, cur, e, (hM b hb).trans q2⟩
theorem DivSt.ult (h : DivSt B va u A M w) : ∀ g, u.ownBlock = some g → g < w.heap.size := fun g hg => by
  obtain ⟨top, g1, -⟩ := h.inn
  exact (g1.row.lt g hg).2
theorem DivSt.umine (h : DivSt B va u A M w) : ∀ g, u.ownBlock = some g → B ≤ g := fun g hg => by
  obtain ⟨top, g1, g2, -⟩ := h.inn
  have := (g1.row.lt g hg).1
  omega
theorem DivSt.below (h : DivSt B va u A M w) (hb : Below w.heap.size w w') : DivSt B va u A M w' :=
  h.same hb.size (fun g hg => hb.block g (h.row.lt g hg).2) (fun g hg => hb.block g (h.ult g hg)) (fun b hb' => hb.block b (h.ownA.lt b hb')) (fun b hb' => hb.block b (h.ownM.lt b hb'))
theorem DivSt.val (h : DivSt B va u A M w) : ∃ g cap, va = .slice (some ⟨g, 0, none⟩) (A.length + 1) cap ∧ B ≤ g ∧ g < w.heap.size ∧ A.length + 1 ≤ cap ∧ cap ≤ maxLen := by
  rcases h.row.2 with ⟨_, h0⟩ | ⟨g, cap, cur, rfl, hb, hg, hn, hc, _⟩
  · omega
  · exact ⟨g, cap, rfl, hb, (Array.getElem?_eq_some_iff.1 hg).1, hn, hc⟩
theorem DivSt.uval (h : DivSt B va u A M w) : ∃ a c, u = .slice a M.length c := by
  obtain ⟨top, g1, -⟩ := h.inn
  obtain ⟨a, c, h1, -⟩ := g1.val
  exact ⟨a, c, h1⟩
theorem DivSt.flen (h : DivSt B va u A M w) : (A.flatMap (·.cells)).length = A.length := by
  have := flatMap_len (f := Elem.cells) h.len
  rwa [Nat.mul_one] at this
theorem DivSt.cell {g n cap : Nat} (h : DivSt B (.slice (some ⟨g, 0, none⟩) n cap) u A M w) : w.cell? ⟨g, A.length, none⟩ = some u := by
  have hn : A.length + 1 = n := by
    rcases h.row.2 with ⟨h', _⟩ | ⟨g', cap', cur, h', _⟩
    · cases h'
    · simp only [Value.slice.injEq] at h'; exact h'.2.1.symm
  have hrow := h.row
  rw [hn] at hrow
  rw [hrow.cellAt A.length (by omega), List.getElem?_append_right (by rw [h.flen]; omega), h.flen, Nat.sub_self]; rfl
theorem DivSt.frozen {g n cap : Nat} (h : DivSt B (.slice (some ⟨g, 0, none⟩) n cap) u A M w) (o : Nat) : w.frozen? ⟨g, o, none⟩ = false := by
  rcases h.row.2 with ⟨h', _⟩ | ⟨g', cap', cur, h', _, hg, _⟩
  · cases h'
  · simp only [Value.slice.injEq, Option.some.injEq, Addr.mk.injEq, and_true] at h'
    obtain ⟨rfl, _⟩ := h'
    exact frozen_of_row w g o cur _ hg
/-- The row's block holds lists: nothing else of it does. -/
theorem DivSt.rowne (h : DivSt B va u A M w) {fp : List Nat} (ht : TokTy w fp) : ∀ b ∈ fp, some b ≠ va.ownBlock := fun b hb e => by
  obtain ⟨cur, t, fr, h1, h2⟩ := ht b hb
  rcases h.row.2 with ⟨h', _⟩ | ⟨g, cap, cur', h', _, hg, _⟩
  · rw [h'] at e; simp [Value.ownBlock] at e
  · rw [h'] at e
    simp only [Value.ownBlock, Option.some.injEq] at e
    subst e
    rw [h1] at hg
    simp only [Option.some.injEq, Obj.cells.injEq] at hg
    have := hg.2.1
    rcases h2 with rfl | rfl <;> exact absurd this (by decide)
/-- The argument under way as a list that can be read. -/
theorem DivSt.arg (h : DivSt B va u A M w) : ∃ fp, sToks.R w [u] (M.map (·.d)) fp ∧ Own w B fp ∧ TokTy w fp ∧ (∀ b ∈ fp, b ∉ A.flatMap (·.fp)) := by
  obtain ⟨top, g1, g2, g3, g4⟩ := h.inn
  obtain ⟨fp, h1, h2, h3⟩ := slice_of_row g1.row fun x hx => ⟨g1.len x hx, g1.el x hx⟩
  have hM : Own w top (M.flatMap (·.fp)) := ⟨h.ownM.1, fun b hb => by
    obtain ⟨x, hx, hb'⟩ := List.mem_flatMap.1 hb
    exact ⟨g1.lo x hx b hb', (h.ownM.2 b hb).2⟩⟩
  have hO := h3 hM fun g hg hm => by
    obtain ⟨x, hx, hb'⟩ := List.mem_flatMap.1 hm
    exact g1.ap hx hb' hg
  refine ⟨fp, h1, hO.lower g2, fun b hb => ?_, fun b hb hx => ?_⟩
  · rcases h2 b hb with h0 | h0
    · rcases g1.row.2 with ⟨h', _⟩ | ⟨g, cap, cur, q1, q2, q3, -⟩
      · rw [h'] at h0; simp [Value.ownBlock] at h0
      · rw [q1] at h0
        simp only [Value.ownBlock, Option.some.injEq] at h0
        subst h0
        exact ⟨_, _, _, q3, .inl rfl⟩
    · exact h.tyM b h0
  · obtain ⟨x, hx', hb'⟩ := List.mem_flatMap.1 hx
    have := g4 x hx' b hb'
    have := (hO.2 b hb).1
    omega
theorem TokTy.app {fp fp' : List Nat} (h : TokTy w fp) (h' : TokTy w fp') : TokTy w (fp ++ fp') := fun b hb => by
  rcases List.mem_append.1 hb with hb | hb
  · exact h b hb
  · exact h' b hb
theorem flat_app {α : Type} (A : List (Elem α)) (x : Elem α) : (A ++ [x]).flatMap (·.fp) = A.flatMap (·.fp) ++ x.fp := by rw [List.flatMap_append]; simp
/-- The argument is done: another begins. -/
theorem DivSt.next {va' : Value} (h : DivSt B va u A M w) {fp : List Nat} (h1 : sToks.R w [u] (M.map (·.d)) fp) (h2 : Own w B fp) (h3 : TokTy w fp) (h4 : ∀ b ∈ fp, b ∉ A.flatMap (·.fp)) (hB : B ≤ w.heap.size)
    (hrow : w'.ownsRow B 30 1 va' (A.length + 1 + 1) (A.flatMap (·.cells) ++ [u] ++ [.slice none 0 0])) (hg : w.grownBy w' va.ownBlock) : DivSt B va' (.slice none 0 0) (A ++ [⟨[u], M.map (·.d), fp⟩]) [] w' := by
  have hA : ∀ b ∈ A.flatMap (·.fp), w'.heap[b]? = w.heap[b]? := fun b hb => hg.block b (h.ownA.lt b hb) (h.rowne h.tyA b hb)
  have hF : ∀ b ∈ fp, w'.heap[b]? = w.heap[b]? := fun b hb => hg.block b (h2.lt b hb) (h.rowne h3 b hb)
  have hO : Own w B (A.flatMap (·.fp) ++ fp) := h.ownA.app h2 fun b hb hx => h4 b hx hb
  refine ⟨?_, fun x hx => ?_, fun x hx => ?_, ⟨w'.heap.size, RowE.nil _ _ _ _, Nat.le_trans hB hg.size, Nat.le_refl _, fun x hx b hb => ?_⟩, ⟨?_, fun b hb => ?_⟩, Own.nil _ _, ?_, (show TokTy w' [] from fun b hb => by simp at hb)⟩
  · rw [List.length_append, List.flatMap_append]
    simpa using hrow
  · rcases List.mem_append.1 hx with hx | hx
    · exact h.len x hx
    · obtain rfl := List.mem_singleton.1 hx; rfl
  · rcases List.mem_append.1 hx with hx | hx
    · exact sToks.frame (fun b hb => hA b (List.mem_flatMap.2 ⟨x, hx, hb⟩)) (h.el x hx)
    · obtain rfl := List.mem_singleton.1 hx; exact sToks.frame hF h1
  · have : b < w.heap.size := by
      rcases List.mem_append.1 hx with hx | hx
      · exact sToks.lt (h.el x hx) b hb
      · obtain rfl := List.mem_singleton.1 hx; exact sToks.lt h1 b hb
    exact Nat.lt_of_lt_of_le this hg.size
  · rw [flat_app]; exact hO.1
  · rw [flat_app] at hb
    obtain ⟨q1, cur, e, q2⟩ := hO.2 b hb
    refine ⟨q1, cur, e, ?_⟩
    rcases List.mem_append.1 hb with hb | hb
    · exact (hA b hb).trans q2
    · exact (hF b hb).trans q2
  · rw [flat_app]
    exact (h.tyA.app h3).same fun b hb _ => by
      rcases List.mem_append.1 hb with hb | hb
      · exact hA b hb
      · exact hF b hb
/-- A token more: the row under way has grown, ... -/
theorem DivSt.more {g n cap top : Nat} {u' : Value} {x : Elem Tok} (h : DivSt B (.slice (some ⟨g, 0, none⟩) n cap) u A M w) (g1 : RowE sTok top 47 u M w) (g2 : B ≤ top) (g3 : top ≤ w.heap.size) (g4 : ∀ x ∈ A, ∀ b ∈ x.fp, b < top)
    (hx1 : Own w top x.fp) (hx2 : ∀ b ∈ x.fp, ∃ cur t fr, w.heap[b]? = some (.cells cur t fr) ∧ t = 9) (hx3 : ∀ b ∈ x.fp, b ∉ M.flatMap (·.fp))
    (hG : RowE sTok top 47 u' (M ++ [x]) w') (hg : w.grownBy w' u.ownBlock) : DivSt B (.slice (some ⟨g, 0, none⟩) n cap) u' A (M ++ [x]) (w'.setCell ⟨g, A.length, none⟩ u') := by
  have hn : A.length + 1 = n := by
    rcases h.row.2 with ⟨h', _⟩ | ⟨g', cap', cur, h', _⟩
    · cases h'
    · simp only [Value.slice.injEq] at h'; exact h'.2.1.symm
  have hgl : g < w.heap.size := (h.row.lt g rfl).2
  have hgu : some g ≠ u.ownBlock := fun e => by
    rcases own_ne h.row g1.row (by decide) with h0 | h0
    · cases h0
    · exact h0 (by rw [← e]; rfl)
  have hA1 : ∀ b ∈ A.flatMap (·.fp), w'.heap[b]? = w.heap[b]? := fun b hb => hg.block b (h.ownA.lt b hb) fun e => by
    obtain ⟨y, hy, hb'⟩ := List.mem_flatMap.1 hb
    have := g4 y hy b hb'
    have := g1.mine b e.symm
    omega
  have hM1 : ∀ b ∈ M.flatMap (·.fp), w'.heap[b]? = w.heap[b]? := fun b hb => hg.block b (h.ownM.lt b hb) fun e => by
    obtain ⟨y, hy, hb'⟩ := List.mem_flatMap.1 hb
    exact g1.ap hy hb' e.symm
  have hX1 : ∀ b ∈ x.fp, w'.heap[b]? = w.heap[b]? := fun b hb => hg.block b (hx1.lt b hb) fun e => by
    obtain ⟨cur, t, fr, q1, q2⟩ := hx2 b hb
    rcases g1.row.2 with ⟨h', _⟩ | ⟨g', cap', cur', h', _, hg', _⟩
    · rw [h'] at e; simp [Value.ownBlock] at e
    · rw [h'] at e
      simp only [Value.ownBlock, Option.some.injEq] at e
      subst e
      rw [q1] at hg'
      simp only [Option.some.injEq, Obj.cells.injEq] at hg'
      exact absurd (q2.symm.trans hg'.2.1) (by decide)
  have hTX : TokTy w x.fp := fun b hb => by obtain ⟨cur, t, fr, q1, q2⟩ := hx2 b hb; exact ⟨cur, t, fr, q1, .inr q2⟩
  have hne : ∀ fp, TokTy w fp → ∀ b ∈ fp, b ≠ g := fun fp ht b hb e => h.rowne ht b hb (by rw [e]; rfl)
  have hfar : ∀ b, b ≠ g → (w'.setCell ⟨g, A.length, none⟩ u').heap[b]? = w'.heap[b]? := fun b hb => Below.heap_setCell _ _ _ _ hb
  have hgb : w'.heap[g]? = w.heap[g]? := hg.block g hgl hgu
  have hrow' : w'.ownsRow B 30 1 (.slice (some ⟨g, 0, none⟩) n cap) n (A.flatMap (·.cells) ++ [u]) := by
    have := ownsRow_same (w' := w') h.row fun g' hg' => by
      simp only [Value.ownBlock, Option.some.injEq] at hg'; subst hg'; exact hgb
    rwa [hn] at this
  have hOM : Own w B (M.flatMap (·.fp) ++ x.fp) := h.ownM.app (hx1.lower g2) fun b hb hx => hx3 b hx hb
  have hug : ∀ b, u'.ownBlock = some b → b ≠ g := fun b hb e => by
    subst e
    rcases own_ne hrow' hG.row (by decide) with h0 | h0
    · cases h0
    · exact h0 (by rw [hb]; rfl)
  refine ⟨?_, h.len, fun y hy => ?_, ⟨top, ?_, g2, by rw [size_setCell]; exact Nat.le_trans g3 hg.size, g4⟩, ⟨h.ownA.1, fun b hb => ?_⟩, ⟨by rw [flat_app]; exact hOM.1, fun b hb => ?_⟩, ?_, ?_⟩
  · have := (hrow'.stored A.length u').1
    rw [List.set_append_right _ _ (by rw [h.flen]; omega), h.flen, Nat.sub_self] at this
    rw [hn]
    exact this
  · refine sToks.frame (fun b hb => ?_) (h.el y hy)
    have hm : b ∈ A.flatMap (·.fp) := List.mem_flatMap.2 ⟨y, hy, hb⟩
    exact (hfar b (hne _ h.tyA b hm)).trans (hA1 b hm)
  · refine hG.same2 (fun b hb => hfar b (hug b hb)) (fun y hy b hb => hfar b ?_)
    rcases List.mem_append.1 hy with hy | hy
    · exact hne _ h.tyM b (List.mem_flatMap.2 ⟨y, hy, hb⟩)
    · obtain rfl := List.mem_singleton.1 hy; exact hne _ hTX b hb
  · obtain ⟨q1, cur, e, q2⟩ := h.ownA.2 b hb
    exact ⟨q1, cur, e, ((hfar b (hne _ h.tyA b hb)).trans (hA1 b hb)).trans q2⟩
  · rw [flat_app] at hb
    obtain ⟨q1, cur, e, q2⟩ := hOM.2 b hb
    refine ⟨q1, cur, e, ?_⟩
    rcases List.mem_append.1 hb with hb | hb
    · exact ((hfar b (hne _ h.tyM b hb)).trans (hM1 b hb)).trans q2
    · exact ((hfar b (hne _ hTX b hb)).trans (hX1 b hb)).trans q2
  · exact h.tyA.same fun b hb _ => (hfar b (hne _ h.tyA b hb)).trans (hA1 b hb)
  · rw [flat_app]
    exact (h.tyM.app hTX).same fun b hb _ => by
      rcases List.mem_append.1 hb with hb | hb
      · exact (hfar b (hne _ h.tyM b hb)).trans (hM1 b hb)
      · exact (hfar b (hne _ hTX b hb)).trans (hX1 b hb)
/-- In the end all arguments can be read, in memory of the call's own. -/
theorem DivSt.done (h : DivSt B va u A M w) : ∃ fp, (sSlice sToks).R w [va] (A.map (·.d) ++ [M.map (·.d)]) fp ∧ Own w B fp := by
  obtain ⟨fpu, h1, h2, h3, h4⟩ := h.arg
  have hO : Own w B ((A ++ [(⟨[u], M.map (·.d), fpu⟩ : Elem (List Tok))]).flatMap (·.fp)) := by rw [flat_app]; exact h.ownA.app h2 fun b hb hx => h4 b hx hb
  have hT : TokTy w ((A ++ [(⟨[u], M.map (·.d), fpu⟩ : Elem (List Tok))]).flatMap (·.fp)) := by rw [flat_app]; exact h.tyA.app h3
  obtain ⟨fp, r1, -, r3⟩ := slice_of_row (S := sToks) (w := w) (base := B) (e := 30) (v := va) (L := A ++ [⟨[u], M.map (·.d), fpu⟩]) (by
    rw [List.length_append, List.flatMap_append]
    change w.ownsRow B 30 1 va _ _
    simpa using h.row) (fun x hx => by
    rcases List.mem_append.1 hx with hx | hx
    · exact ⟨h.len x hx, h.el x hx⟩
    · obtain rfl := List.mem_singleton.1 hx; exact ⟨rfl, h1⟩)
  refine ⟨fp, by rw [List.map_append] at r1; exact r1, r3 hO fun g hg hm => ?_⟩
  exact h.rowne hT g hm hg.symm
end
theorem dvGo_step {l : List Tok} {k : Nat} (hk : k < l.length) (d : Int) (A : Args) (M : List Tok) :
    dvGo (l.drop k) d A M = if d = 0 ∧ isCom l[k] = true then dvGo (l.drop (k + 1)) d (A ++ [M]) [] else dvGo (l.drop (k + 1)) (d + opn l[k]) A (M ++ [l[k]]) := by
  rw [List.drop_eq_getElem_cons hk]; rfl
theorem dvGo_end {l : List Tok} {k : Nat} (hk : l.length ≤ k) (d : Int) (A : Args) (M : List Tok) : dvGo (l.drop k) d A M = A ++ [M] := by rw [List.drop_of_length_le hk]; rfl

set_option maxHeartbeats 16000000 in
set_option maxRecDepth 100000 in
theorem impl_divideArguments (v : Value) (l : List Tok) (fp : List Nat) (w : World) (hl : l.length ≤ 60) (hx : ∀ k, (hk : k < l.length) → l[k].hidden.length ≤ 2000000) (H : (sSlice sTok).R w [v] l fp) :
    Calls Try.prog 67 #[v] w fun e w' => ∃ v' fp', e = .returned v' ∧ (sSlice sToks).R w' [v'] (dvGo l 0 [] []) fp' ∧ Own w' w.heap.size fp' ∧ Below w.heap.size w w' := by
  obtain ⟨a, cap, rfl, hc, hm, hrow⟩ := open_rows H
  unfold maxLen at hm
  clear H
  have HX := Lib.hid hx
  clear hx
  obtain ⟨r, HR⟩ : ∃ r, Hid (r = dvGo l 0 [] []) := ⟨_, rfl⟩
  rw [← HR.out]
  go_enter Try.func67, Try.ntmps67
  go_wp2_with (at_make; refine wp_make_full ti_toks _ rfl _ _ rfl w.heap.size 1 rfl rfl (by omega) (by unfold maxLen; omega) (Nat.le_refl _) ?_; intro w1 hown hgrow)
  have hbel := (Below.refl w.heap.size w).grown hgrow (Nat.le_refl _) (by simp)
  rw [show (madeCells (Value.slice none 0 0).cells (1 * 1)).toList = [.slice none 0 0] by kernel_rfl] at hown
  have HS0 : Hid (DivSt w.heap.size (.slice (some ⟨w.heap.size, 0, none⟩) 1 1) (.slice none 0 0) [] [] w1) :=
    ⟨hown, by simp, by simp, ⟨w1.heap.size, RowE.nil _ _ _ _, hgrow.size, Nat.le_refl _, by simp⟩, Own.nil _ _, Own.nil _ _, (show TokTy w1 [] from fun b hb => by simp at hb), (show TokTy w1 [] from fun b hb => by simp at hb)⟩
  clear hgrow hown
  go_loopw [3, 4, 11] (fun va d i wr => ∃ (k : Nat) (dd : Int) (u : Value) (A : List (Elem (List Tok))) (M : List (Elem Tok)), k ≤ l.length ∧ i = .int .i64 k ∧ d = .int .i64 dd ∧ -(k : Int) ≤ dd ∧ dd ≤ k ∧ A.length ≤ k ∧ M.length ≤ k ∧ Hid (DivSt w.heap.size va u A M wr) ∧ Hid (dvGo (l.drop k) dd (A.map (·.d)) (M.map (·.d)) = r) ∧ Below w.heap.size w wr) (fun _ _ i _ => l.length - (intOf i).toNat)
  case atStart => exact ⟨0, 0, _, [], [], by omega, rfl, rfl, by omega, by omega, by simp, by simp, HS0, HR.out.symm, hbel⟩
  case round =>
    clear HS0 hbel HR
    obtain ⟨k, dd, u, A, M, hk, rfl, rfl, hd1, hd2, hAk, hMk, HS, HI, hb⟩ := hrel
    obtain ⟨ga, ca, rfl, hga, hgs, hca, hcm⟩ := HS.out.val
    unfold maxLen at hcm
    obtain ⟨au, cu, rfl⟩ := HS.out.uval
    by_cases hlt : k < l.length
    · obtain ⟨b1, off1, fps1, rfl, hb1, -, he1⟩ := hrow (by omega)
      obtain ⟨es1, hE1, hR1⟩ := he1 k hlt
      clear hrow he1
      have hR2 := sTok.below hR1 hb
      obtain ⟨h1', rfl, _, _, hK1⟩ := hR1
      obtain ⟨ah, ch, rfl, -⟩ := open_strs hK1
      clear hK1
      replace hE1 := hE1.frame (hb.block b1 hb1)
      have c10 : wr.cell? ⟨b1, off1 + k * 4, none⟩ = some _ := elem_cell0 hE1 (by decide) rfl
      have c11 : wr.cell? ⟨b1, off1 + k * 4 + 1, none⟩ = some _ := elem_cell (j := 1) hE1 (by decide) rfl
      have c12 : wr.cell? ⟨b1, off1 + k * 4 + 2, none⟩ = some _ := elem_cell (j := 2) hE1 (by decide) rfl
      have c13 : wr.cell? ⟨b1, off1 + k * 4 + 3, none⟩ = some _ := elem_cell (j := 3) hE1 (by decide) rfl
      clear hE1
      have hbx := alloc_below' wr (.cells #[.int .i64 l[k].kind, .string l[k].text, .bool l[k].spaced, .slice ah l[k].hidden.length ch] 47)
      have HX0 := Lib.hid (heap_alloc_new wr (.cells #[.int .i64 l[k].kind, .string l[k].text, .bool l[k].spaced, .slice ah l[k].hidden.length ch] 47))
      have HS1 := Lib.hid (HS.out.below hbx)
      have HRT := Lib.hid hR2
      have hbw := hb.trans (hbx.mono hb.size)
      have hst := HI.out
      rw [dvGo_step hlt] at hst
      have hsz : (wr.alloc (.cells #[.int .i64 l[k].kind, .string l[k].text, .bool l[k].spaced, .slice ah l[k].hidden.length ch] 47)).heap.size = wr.heap.size + 1 := Array.size_push _
      have HUL := Lib.hid HS.out.ult
      have HML := Lib.hid HS.out.ownM.lt
      clear hR2 HI HS
      by_cases hcomma : dd = 0 ∧ isCom l[k] = true
      · -- another argument
        rw [if_pos hcomma] at hst
        obtain ⟨hd0, hcm2⟩ := hcomma
        have e0 : (dd == 0) = true := by simpa using hd0
        have e1 : (l[k].text.toList == [44]) = true := hcm2
        have HF := Lib.hid hst
        obtain ⟨fpu, q1, q2, q3, q4⟩ := HS1.out.arg
        have HQ := Lib.hid (And.intro q1 (And.intro q2 (And.intro q3 q4)))
        have hrow1 := Lib.hid HS1.out.row
        clear hst hcm2 q1 q2 q3 q4
        subst hd0
        go_wp2_with (at_builtin; refine wp_append_cells ti_toks rfl (by decide) _ (A.flatMap (·.cells) ++ [.slice au M.length cu]) [.slice none 0 0] rfl (by simp [Value.oneCell']) rfl (.tmp 22) (.tmp 23) rfl w.heap.size (.slice (some ⟨ga, 0, none⟩) (A.length + 1) ca) (A.length + 1) rfl hrow1.out (by rw [hsz]; rfl) (by unfold maxLen; omega) (by omega) hbw.size ?_; intro v3 w3 hown3 hg3; have hb3 := hbw.grown hg3 hbw.size (fun b hb => by simp only [Value.ownBlock, Option.some.injEq] at hb; omega); have HN := Lib.hid (HS1.out.next HQ.out.1 HQ.out.2.1 HQ.out.2.2.1 HQ.out.2.2.2 hbw.size hown3 hg3); clear hown3 hg3)
        go_roundw
        case rel => exact ⟨k + 1, 0, _, A ++ [(⟨[.slice au M.length cu], M.map (·.d), fpu⟩ : Elem (List Tok))], [], by omega, by go_num, rfl, by omega, by omega, by simp; omega, by simp, HN, by show _ = _; rw [← HF.out, List.map_append]; rfl, hb3⟩
        case measure => simp [intOf]; omega
      · rw [if_neg hcomma] at hst
        have HF := Lib.hid hst
        have ho := opn_ge l[k]
        have hwr : IntKind.i64.wrap (dd + opn l[k]) = dd + opn l[k] := IntWalk.i64_in _ (by omega)
        have hwl : IntKind.i64.wrap (((A.length + 1 : Nat) : Int) - 1) = (A.length : Int) := by rw [IntWalk.i64_in _ (by omega)]; omega
        have hwl2 : IntKind.i64.wrap ((A.length : Int) + 1 - 1) = (A.length : Int) := by rw [IntWalk.i64_in _ (by omega)]; omega
        have HOP := Lib.hid (fun W (hW : Below wr.heap.size wr W) => impl_opening _ l[k] _ W (sTok.below HRT.out hW))
        have HCP := Lib.hid (fun W (hW : Below wr.heap.size wr W) => impl_copyToken _ l[k] _ W (HX.out k hlt) (sTok.below HRT.out hW))
        clear hst HRT
        obtain ⟨cm, HCM⟩ : ∃ cm : Bool, Hid (cm = isCom l[k]) := ⟨isCom l[k], rfl⟩
        generalize hon : opn l[k] = on at *
        have hnc : ∀ b : Bool, b = (decide (dd = 0) && cm) → b = false := by
          rintro b rfl
          rw [Bool.and_eq_false_iff]
          by_cases h0 : dd = 0
          · right
            rw [HCM.out]
            cases e : isCom l[k]
            · rfl
            · exact absurd ⟨h0, e⟩ hcomma
          · left; exact decide_eq_false h0
        have HULT : Hid (∀ g, (Value.slice au M.length cu).ownBlock = some g → g < wr.heap.size) := HUL.out
        have HOLD : Hid (∀ b ∈ M.flatMap (·.fp), b < wr.heap.size) := HML.out
        by_cases h0 : dd = 0
        · have e0 : (dd == 0) = true := by simpa using h0
          have hcf : cm = false := hnc cm (by rw [decide_eq_true h0]; rfl)
          have e1 : (l[k].text.toList == [44]) = false := by rw [hcf] at HCM; exact HCM.out.symm
          clear hcomma hnc hcf HCM hsz HUL HML
          subst h0
          rw [Int.zero_add] at HF
          go_wp2_with fail
          refine (HOP.out _ hbx).mono ?_
          rintro e w2 ⟨rfl, g2⟩
          have hc2 := hbx.trans (g2.mono hbx.size)
          have HX2 := Lib.hid ((g2.block _ (Array.getElem?_eq_some_iff.1 HX0.out).1).trans HX0.out)
          have HS2 := Lib.hid (HS1.out.below g2)
          have hb2 := hbw.trans (g2.mono hbw.size)
          have hi1 : (0 : Int) ≤ (A.length : Int) := by omega
          have hi2 : (A.length : Int) < (A.length : Int) + 1 := by omega
          have hgs2 := hc2.size
          clear c10 c11 c12 c13 HOP HS1 HX0 hbw hbx g2 hb
          go_wp2_with fail
          refine wp_region_noPanic ?_
          refine wp_region_held_drew (S := fun w' => w'.heap[wr.heap.size]? = some (.cells #[.int .i64 l[k].kind, .string l[k].text, .bool l[k].spaced, .slice ah l[k].hidden.length ch] 47 (0, 0))) (by kernel_rfl) (by exact HX2.out) (fun hHeld => ?_)
          have hdr : Below w2.heap.size w2 w2.drew := belowN (Below.refl _ _) 1
          have HSd := Lib.hid (HS2.out.below hdr)
          have hbd := hb2.trans (hdr.mono hb2.size)
          have hcd := hc2.trans (hdr.mono hc2.size)
          have hwd := hcd.size
          obtain ⟨top, t1, t2, t3, t4⟩ := HSd.out.inn
          have HTD := Lib.hid t1
          have HTOP := Lib.hid t4
          clear t1 t4
          clear HS2 HX2 hdr
          generalize w2.drew = wd at *
          refine takeH 0 32 (v := ?_) rfl rfl (by kernel_rfl) (by kernel_rfl) (by kernel_rfl) (fun _ _ _ h => h) (by rfl) (by assumption) ?_ ?_
          rotate_left
          · intro w hSw; have s0 := cell_of_row _ _ 0 _ _ _ hSw; have s1 := cell_of_row _ _ 1 _ _ _ hSw; have s2 := cell_of_row _ _ 2 _ _ _ hSw; have s3 := cell_of_row _ _ 3 _ _ _ hSw; go_simp; (first | done | with_reducible rfl | rfl)
          try simp only [Act.put, List.setIfInBounds_toArray, List.set_cons_zero, List.set_cons_succ]
          refine takeH 1 33 (v := ?_) rfl rfl (by kernel_rfl) (by kernel_rfl) (by kernel_rfl) (fun _ _ _ h => h) (by rfl) (by assumption) ?_ ?_
          rotate_left
          · intro w hSw; have s0 := cell_of_row _ _ 0 _ _ _ hSw; have s1 := cell_of_row _ _ 1 _ _ _ hSw; have s2 := cell_of_row _ _ 2 _ _ _ hSw; have s3 := cell_of_row _ _ 3 _ _ _ hSw; go_simp; (first | done | with_reducible rfl | rfl)
          try simp only [Act.put, List.setIfInBounds_toArray, List.set_cons_zero, List.set_cons_succ]
          refine takeH 2 34 (v := ?_) rfl rfl (by kernel_rfl) (by kernel_rfl) (by kernel_rfl) (fun _ _ _ h => h) (by rfl) (by assumption) ?_ ?_
          rotate_left
          · intro w hSw; have s0 := cell_of_row _ _ 0 _ _ _ hSw; have s1 := cell_of_row _ _ 1 _ _ _ hSw; have s2 := cell_of_row _ _ 2 _ _ _ hSw; have s3 := cell_of_row _ _ 3 _ _ _ hSw; go_simp; (first | done | with_reducible rfl | rfl)
          try simp only [Act.put, List.setIfInBounds_toArray, List.set_cons_zero, List.set_cons_succ]
          refine takeH 3 35 (v := ?_) rfl rfl (by kernel_rfl) (by kernel_rfl) (by kernel_rfl) (fun _ _ _ h => h) (by rfl) (by assumption) ?_ ?_
          rotate_left
          · intro w hSw; have s0 := cell_of_row _ _ 0 _ _ _ hSw; have s1 := cell_of_row _ _ 1 _ _ _ hSw; have s2 := cell_of_row _ _ 2 _ _ _ hSw; have s3 := cell_of_row _ _ 3 _ _ _ hSw; go_simp; (first | done | with_reducible rfl | rfl)
          try simp only [Act.put, List.setIfInBounds_toArray, List.set_cons_zero, List.set_cons_succ]
          refine takeH 4 36 (v := ?_) rfl rfl (by kernel_rfl) (by kernel_rfl) (by kernel_rfl) (fun _ _ _ h => h) (by rfl) (by assumption) ?_ ?_
          rotate_left
          · intro w hSw; have s0 := cell_of_row _ _ 0 _ _ _ hSw; have s1 := cell_of_row _ _ 1 _ _ _ hSw; have s2 := cell_of_row _ _ 2 _ _ _ hSw; have s3 := cell_of_row _ _ 3 _ _ _ hSw; go_simp; (first | done | with_reducible rfl | rfl)
          try simp only [Act.put, List.setIfInBounds_toArray, List.set_cons_zero, List.set_cons_succ]
          refine takeH 6 38 (v := ?_) rfl rfl (by kernel_rfl) (by kernel_rfl) (by kernel_rfl) (fun _ _ _ h => h) (by rfl) (by assumption) ?_ ?_
          rotate_left
          · intro w hSw; have s0 := cell_of_row _ _ 0 _ _ _ hSw; have s1 := cell_of_row _ _ 1 _ _ _ hSw; have s2 := cell_of_row _ _ 2 _ _ _ hSw; have s3 := cell_of_row _ _ 3 _ _ _ hSw; go_simp; (first | done | with_reducible rfl | rfl)
          try simp only [Act.put, List.setIfInBounds_toArray, List.set_cons_zero, List.set_cons_succ]
          refine wpAnyH_ready (rs := [5, 7]) (by decide +kernel) (by simp) ?_
          refine AllReadyH.cons rfl (fun K hK => ?_) ?_
          · have hcell := HSd.out.cell
            go_simp
            refine hK.out _ _ hHeld (fun hHeld => ?_)
            clear hK K
            try simp only [Act.put, List.setIfInBounds_toArray, List.set_cons_zero, List.set_cons_succ]
            refine wpAnyH_ready (rs := [7]) (by decide +kernel) (by simp) ?_
            refine AllReadyH.cons rfl (fun K hK => ?_) AllReadyH.nil
            go_simp
            refine (HCP.out _ hcd).mono ?_
            rintro e w4 ⟨ao, c2, fp2, rfl, R2, O2, T2, hb4⟩
            have HS4 := Lib.hid (HSd.out.below hb4)
            have hb4t := hbd.trans (hb4.mono hbd.size)
            have hs4 := hb4.size
            have HTE := Lib.hid (HTD.out.below hb4)
            have HT4 := Lib.hid (And.intro R2 (And.intro O2 T2))
            clear R2 O2 T2
            refine hK.out _ _ ((hb4.block _ (Array.getElem?_eq_some_iff.1 hHeld).1).trans hHeld) (fun hHeld => ?_)
            clear hK K
            try simp only [Act.put, List.setIfInBounds_toArray, List.set_cons_zero, List.set_cons_succ]
            refine wpAnyH_ready (rs := [8]) (by decide +kernel) (by simp) ?_
            refine AllReadyH.cons rfl (fun K hK => ?_) AllReadyH.nil
            have bl := alloc_below' w4 (.cells #[.int .i64 l[k].kind, .string l[k].text, .bool l[k].spaced, .slice ao l[k].hidden.length c2] 47)
            have HL5 := Lib.hid (heap_alloc_new w4 (.cells #[.int .i64 l[k].kind, .string l[k].text, .bool l[k].spaced, .slice ao l[k].hidden.length c2] 47))
            have HS5 := Lib.hid (HS4.out.below bl)
            have HT1 := Lib.hid (HTE.out.below bl)
            have hb5t := hb4t.trans (bl.mono hb4t.size)
            have hs5 : (w4.alloc (.cells #[.int .i64 l[k].kind, .string l[k].text, .bool l[k].spaced, .slice ao l[k].hidden.length c2] 47)).heap.size = w4.heap.size + 1 := Array.size_push _
            have HT5 := Lib.hid (And.intro (sTok.below HT4.out.1 bl) (And.intro (HT4.out.2.1.grow bl) (show ∀ b ∈ fp2, ∃ cur t fr, (w4.alloc (.cells #[.int .i64 l[k].kind, .string l[k].text, .bool l[k].spaced, .slice ao l[k].hidden.length c2] 47)).heap[b]? = some (.cells cur t fr) ∧ t = 9 from fun b hb => by obtain ⟨cur, t, fr, z1, z2⟩ := HT4.out.2.2 b hb; exact ⟨cur, t, fr, (bl.block b (Array.getElem?_eq_some_iff.1 z1).1).trans z1, z2⟩)))
            have hH5 := (bl.block _ (Array.getElem?_eq_some_iff.1 hHeld).1).trans hHeld
            go_simp
            refine hK.out _ _ hH5 (fun hHeld => ?_)
            clear hK K bl
            try simp only [Act.put, List.setIfInBounds_toArray, List.set_cons_zero, List.set_cons_succ]
            generalize hw5 : (w4.alloc (.cells #[.int .i64 l[k].kind, .string l[k].text, .bool l[k].spaced, .slice ao l[k].hidden.length c2] 47)) = w5 at *
            clear hw5
            refine wpAnyH_ready (rs := [9]) (by decide +kernel) (by simp) ?_
            refine AllReadyH.cons rfl (fun K hK => ?_) AllReadyH.nil
            refine step_append_rowE (X := [(⟨[.int .i64 l[k].kind, .string l[k].text, .bool l[k].spaced, .slice ao l[k].hidden.length c2], l[k], fp2⟩ : Elem Tok)]) ti_tok rfl (by decide) _ 41 rfl rfl (.tmp 37) (.tmp 40) rfl top (.slice au M.length cu) rfl HT1.out w4.heap.size 1 1 rfl rfl (fun x hx => by obtain rfl := List.mem_singleton.1 hx; rfl) (fun x hx => by obtain rfl := List.mem_singleton.1 hx; simp [Value.oneCell']) (fun j u hj => by rw [cell_of_row _ _ _ _ _ _ HL5.out]; simpa using hj) (fun x hx => by obtain rfl := List.mem_singleton.1 hx; exact HT5.out.1) (fun x hx b hb => by obtain rfl := List.mem_singleton.1 hx; have := (HT5.out.2.1.2 b hb).1; omega) (fun x hx b hb => by obtain rfl := List.mem_singleton.1 hx; obtain ⟨cur, t, fr, z1, z2⟩ := HT5.out.2.2 b hb; exact ⟨cur, t, fr, z1, by rw [z2]; decide⟩) (by unfold maxLen; omega) (by omega) (by omega) ?_
            intro v6 w6 hG6 hg6
            have HN := Lib.hid (HS5.out.more (x := ⟨[.int .i64 l[k].kind, .string l[k].text, .bool l[k].spaced, .slice ao l[k].hidden.length c2], l[k], fp2⟩) HT1.out t2 (by omega) HTOP.out (HT5.out.2.1.lower (by omega)) HT5.out.2.2 (fun b hb hx => by have h1 := (HT5.out.2.1.2 b hb).1; have h2 := HOLD.out b hx; omega) hG6 hg6)
            have hb6 := hb5t.grown hg6 hb5t.size HS5.out.umine
            have hH6 := (hg6.block _ (Array.getElem?_eq_some_iff.1 hHeld).1 (fun e => by have := HULT.out _ e.symm; omega)).trans hHeld
            have hcell6 : w6.cell? ⟨ga, A.length, none⟩ = some (.slice au M.length cu) := (World.cell?_of_block (hg6.block ga (by have := hb5t.size; omega) (fun e => by rcases own_ne HS5.out.row HT1.out.row (by decide) with h0 | h0; cases h0; exact h0 (by rw [← e]; rfl)))).trans HS5.out.cell
            have hfr6 : w6.frozen? ⟨ga, A.length, none⟩ = false := (World.frozen?_of_block (hg6.block ga (by have := hb5t.size; omega) (fun e => by rcases own_ne HS5.out.row HT1.out.row (by decide) with h0 | h0; cases h0; exact h0 (by rw [← e]; rfl)))).trans (HS5.out.frozen _)
            obtain ⟨a6, c6, rfl, -⟩ := hG6.val
            clear hG6 hg6
            refine hK.out _ _ hH6 (fun hHeld => ?_)
            clear hK K
            try simp only [Act.put, List.setIfInBounds_toArray, List.set_cons_zero, List.set_cons_succ]
            refine takeH 10 42 (v := ?_) rfl rfl (by kernel_rfl) (by kernel_rfl) (by kernel_rfl) (fun _ _ _ h => h) (by rfl) (by assumption) ?_ ?_
            rotate_left
            · intro w hSw; have s0 := cell_of_row _ _ 0 _ _ _ hSw; have s1 := cell_of_row _ _ 1 _ _ _ hSw; have s2 := cell_of_row _ _ 2 _ _ _ hSw; have s3 := cell_of_row _ _ 3 _ _ _ hSw; go_simp; (first | done | with_reducible rfl | rfl)
            try simp only [Act.put, List.setIfInBounds_toArray, List.set_cons_zero, List.set_cons_succ]
            refine wpAnyH_ready (rs := [11]) (by decide +kernel) (by simp) ?_
            refine AllReadyH.cons rfl (fun K hK => ?_) AllReadyH.nil
            have hbne : wr.heap.size ≠ ga := by omega
            have hb7 := hb6.setCell (p := ⟨ga, A.length, none⟩) (by show w.heap.size ≤ ga; omega) (.slice a6 (M ++ [(⟨[.int .i64 l[k].kind, .string l[k].text, .bool l[k].spaced, .slice ao l[k].hidden.length c2], l[k], fp2⟩ : Elem Tok)]).length c6)
            have hH7 := blk_other hHeld hbne A.length (.slice a6 (M ++ [(⟨[.int .i64 l[k].kind, .string l[k].text, .bool l[k].spaced, .slice ao l[k].hidden.length c2], l[k], fp2⟩ : Elem Tok)]).length c6)
            simp only [List.length_append, List.length_cons, List.length_nil, Nat.zero_add] at hb7 hH7 HN ⊢
            go_simp
            refine hK.out _ _ hH7 (fun hHeld => ?_)
            clear hK K
            try simp only [Act.put, List.setIfInBounds_toArray, List.set_cons_zero, List.set_cons_succ]
            refine wpAnyH_done (by kernel_rfl) ?_ _
            refine NoPanic.normal ?_
            clear hHeld
            go_wp2
            go_roundw
            case rel => exact ⟨k + 1, _, _, A, M ++ [(⟨[.int .i64 l[k].kind, .string l[k].text, .bool l[k].spaced, .slice ao l[k].hidden.length c2], l[k], fp2⟩ : Elem Tok)], by omega, by go_num, rfl, by omega, by omega, by omega, by simp; omega, HN, by show _ = _; rw [← HF.out, List.map_append]; rfl, hb7⟩
            case measure => simp [intOf]; omega
          refine AllReadyH.cons rfl (fun K hK => ?_) AllReadyH.nil
          go_simp
          refine (HCP.out _ hcd).mono ?_
          rintro e w4 ⟨ao, c2, fp2, rfl, R2, O2, T2, hb4⟩
          have HS4 := Lib.hid (HSd.out.below hb4)
          have hb4t := hbd.trans (hb4.mono hbd.size)
          have hs4 := hb4.size
          have HTE := Lib.hid (HTD.out.below hb4)
          have HT4 := Lib.hid (And.intro R2 (And.intro O2 T2))
          clear R2 O2 T2
          refine hK.out _ _ ((hb4.block _ (Array.getElem?_eq_some_iff.1 hHeld).1).trans hHeld) (fun hHeld => ?_)
          clear hK K
          try simp only [Act.put, List.setIfInBounds_toArray, List.set_cons_zero, List.set_cons_succ]
          refine wpAnyH_ready (rs := [5, 8]) (by decide +kernel) (by simp) ?_
          refine AllReadyH.cons rfl (fun K hK => ?_) ?_
          · have hcell := HS4.out.cell
            go_simp
            refine hK.out _ _ hHeld (fun hHeld => ?_)
            clear hK K
            try simp only [Act.put, List.setIfInBounds_toArray, List.set_cons_zero, List.set_cons_succ]
            refine wpAnyH_ready (rs := [8]) (by decide +kernel) (by simp) ?_
            refine AllReadyH.cons rfl (fun K hK => ?_) AllReadyH.nil
            have bl := alloc_below' w4 (.cells #[.int .i64 l[k].kind, .string l[k].text, .bool l[k].spaced, .slice ao l[k].hidden.length c2] 47)
            have HL5 := Lib.hid (heap_alloc_new w4 (.cells #[.int .i64 l[k].kind, .string l[k].text, .bool l[k].spaced, .slice ao l[k].hidden.length c2] 47))
            have HS5 := Lib.hid (HS4.out.below bl)
            have HT1 := Lib.hid (HTE.out.below bl)
            have hb5t := hb4t.trans (bl.mono hb4t.size)
            have hs5 : (w4.alloc (.cells #[.int .i64 l[k].kind, .string l[k].text, .bool l[k].spaced, .slice ao l[k].hidden.length c2] 47)).heap.size = w4.heap.size + 1 := Array.size_push _
            have HT5 := Lib.hid (And.intro (sTok.below HT4.out.1 bl) (And.intro (HT4.out.2.1.grow bl) (show ∀ b ∈ fp2, ∃ cur t fr, (w4.alloc (.cells #[.int .i64 l[k].kind, .string l[k].text, .bool l[k].spaced, .slice ao l[k].hidden.length c2] 47)).heap[b]? = some (.cells cur t fr) ∧ t = 9 from fun b hb => by obtain ⟨cur, t, fr, z1, z2⟩ := HT4.out.2.2 b hb; exact ⟨cur, t, fr, (bl.block b (Array.getElem?_eq_some_iff.1 z1).1).trans z1, z2⟩)))
            have hH5 := (bl.block _ (Array.getElem?_eq_some_iff.1 hHeld).1).trans hHeld
            go_simp
            refine hK.out _ _ hH5 (fun hHeld => ?_)
            clear hK K bl
            try simp only [Act.put, List.setIfInBounds_toArray, List.set_cons_zero, List.set_cons_succ]
            generalize hw5 : (w4.alloc (.cells #[.int .i64 l[k].kind, .string l[k].text, .bool l[k].spaced, .slice ao l[k].hidden.length c2] 47)) = w5 at *
            clear hw5
            refine wpAnyH_ready (rs := [9]) (by decide +kernel) (by simp) ?_
            refine AllReadyH.cons rfl (fun K hK => ?_) AllReadyH.nil
            refine step_append_rowE (X := [(⟨[.int .i64 l[k].kind, .string l[k].text, .bool l[k].spaced, .slice ao l[k].hidden.length c2], l[k], fp2⟩ : Elem Tok)]) ti_tok rfl (by decide) _ 41 rfl rfl (.tmp 37) (.tmp 40) rfl top (.slice au M.length cu) rfl HT1.out w4.heap.size 1 1 rfl rfl (fun x hx => by obtain rfl := List.mem_singleton.1 hx; rfl) (fun x hx => by obtain rfl := List.mem_singleton.1 hx; simp [Value.oneCell']) (fun j u hj => by rw [cell_of_row _ _ _ _ _ _ HL5.out]; simpa using hj) (fun x hx => by obtain rfl := List.mem_singleton.1 hx; exact HT5.out.1) (fun x hx b hb => by obtain rfl := List.mem_singleton.1 hx; have := (HT5.out.2.1.2 b hb).1; omega) (fun x hx b hb => by obtain rfl := List.mem_singleton.1 hx; obtain ⟨cur, t, fr, z1, z2⟩ := HT5.out.2.2 b hb; exact ⟨cur, t, fr, z1, by rw [z2]; decide⟩) (by unfold maxLen; omega) (by omega) (by omega) ?_
            intro v6 w6 hG6 hg6
            have HN := Lib.hid (HS5.out.more (x := ⟨[.int .i64 l[k].kind, .string l[k].text, .bool l[k].spaced, .slice ao l[k].hidden.length c2], l[k], fp2⟩) HT1.out t2 (by omega) HTOP.out (HT5.out.2.1.lower (by omega)) HT5.out.2.2 (fun b hb hx => by have h1 := (HT5.out.2.1.2 b hb).1; have h2 := HOLD.out b hx; omega) hG6 hg6)
            have hb6 := hb5t.grown hg6 hb5t.size HS5.out.umine
            have hH6 := (hg6.block _ (Array.getElem?_eq_some_iff.1 hHeld).1 (fun e => by have := HULT.out _ e.symm; omega)).trans hHeld
            have hcell6 : w6.cell? ⟨ga, A.length, none⟩ = some (.slice au M.length cu) := (World.cell?_of_block (hg6.block ga (by have := hb5t.size; omega) (fun e => by rcases own_ne HS5.out.row HT1.out.row (by decide) with h0 | h0; cases h0; exact h0 (by rw [← e]; rfl)))).trans HS5.out.cell
            have hfr6 : w6.frozen? ⟨ga, A.length, none⟩ = false := (World.frozen?_of_block (hg6.block ga (by have := hb5t.size; omega) (fun e => by rcases own_ne HS5.out.row HT1.out.row (by decide) with h0 | h0; cases h0; exact h0 (by rw [← e]; rfl)))).trans (HS5.out.frozen _)
            obtain ⟨a6, c6, rfl, -⟩ := hG6.val
            clear hG6 hg6
            refine hK.out _ _ hH6 (fun hHeld => ?_)
            clear hK K
            try simp only [Act.put, List.setIfInBounds_toArray, List.set_cons_zero, List.set_cons_succ]
            refine takeH 10 42 (v := ?_) rfl rfl (by kernel_rfl) (by kernel_rfl) (by kernel_rfl) (fun _ _ _ h => h) (by rfl) (by assumption) ?_ ?_
            rotate_left
            · intro w hSw; have s0 := cell_of_row _ _ 0 _ _ _ hSw; have s1 := cell_of_row _ _ 1 _ _ _ hSw; have s2 := cell_of_row _ _ 2 _ _ _ hSw; have s3 := cell_of_row _ _ 3 _ _ _ hSw; go_simp; (first | done | with_reducible rfl | rfl)
            try simp only [Act.put, List.setIfInBounds_toArray, List.set_cons_zero, List.set_cons_succ]
            refine wpAnyH_ready (rs := [11]) (by decide +kernel) (by simp) ?_
            refine AllReadyH.cons rfl (fun K hK => ?_) AllReadyH.nil
            have hbne : wr.heap.size ≠ ga := by omega
            have hb7 := hb6.setCell (p := ⟨ga, A.length, none⟩) (by show w.heap.size ≤ ga; omega) (.slice a6 (M ++ [(⟨[.int .i64 l[k].kind, .string l[k].text, .bool l[k].spaced, .slice ao l[k].hidden.length c2], l[k], fp2⟩ : Elem Tok)]).length c6)
            have hH7 := blk_other hHeld hbne A.length (.slice a6 (M ++ [(⟨[.int .i64 l[k].kind, .string l[k].text, .bool l[k].spaced, .slice ao l[k].hidden.length c2], l[k], fp2⟩ : Elem Tok)]).length c6)
            simp only [List.length_append, List.length_cons, List.length_nil, Nat.zero_add] at hb7 hH7 HN ⊢
            go_simp
            refine hK.out _ _ hH7 (fun hHeld => ?_)
            clear hK K
            try simp only [Act.put, List.setIfInBounds_toArray, List.set_cons_zero, List.set_cons_succ]
            refine wpAnyH_done (by kernel_rfl) ?_ _
            refine NoPanic.normal ?_
            clear hHeld
            go_wp2
            go_roundw
            case rel => exact ⟨k + 1, _, _, A, M ++ [(⟨[.int .i64 l[k].kind, .string l[k].text, .bool l[k].spaced, .slice ao l[k].hidden.length c2], l[k], fp2⟩ : Elem Tok)], by omega, by go_num, rfl, by omega, by omega, by omega, by simp; omega, HN, by show _ = _; rw [← HF.out, List.map_append]; rfl, hb7⟩
            case measure => simp [intOf]; omega
          refine AllReadyH.cons rfl (fun K hK => ?_) AllReadyH.nil
          have bl := alloc_below' w4 (.cells #[.int .i64 l[k].kind, .string l[k].text, .bool l[k].spaced, .slice ao l[k].hidden.length c2] 47)
          have HL5 := Lib.hid (heap_alloc_new w4 (.cells #[.int .i64 l[k].kind, .string l[k].text, .bool l[k].spaced, .slice ao l[k].hidden.length c2] 47))
          have HS5 := Lib.hid (HS4.out.below bl)
          have HT1 := Lib.hid (HTE.out.below bl)
          have hb5t := hb4t.trans (bl.mono hb4t.size)
          have hs5 : (w4.alloc (.cells #[.int .i64 l[k].kind, .string l[k].text, .bool l[k].spaced, .slice ao l[k].hidden.length c2] 47)).heap.size = w4.heap.size + 1 := Array.size_push _
          have HT5 := Lib.hid (And.intro (sTok.below HT4.out.1 bl) (And.intro (HT4.out.2.1.grow bl) (show ∀ b ∈ fp2, ∃ cur t fr, (w4.alloc (.cells #[.int .i64 l[k].kind, .string l[k].text, .bool l[k].spaced, .slice ao l[k].hidden.length c2] 47)).heap[b]? = some (.cells cur t fr) ∧ t = 9 from fun b hb => by obtain ⟨cur, t, fr, z1, z2⟩ := HT4.out.2.2 b hb; exact ⟨cur, t, fr, (bl.block b (Array.getElem?_eq_some_iff.1 z1).1).trans z1, z2⟩)))
          have hH5 := (bl.block _ (Array.getElem?_eq_some_iff.1 hHeld).1).trans hHeld
          go_simp
          refine hK.out _ _ hH5 (fun hHeld => ?_)
          clear hK K bl
          try simp only [Act.put, List.setIfInBounds_toArray, List.set_cons_zero, List.set_cons_succ]
          generalize hw5 : (w4.alloc (.cells #[.int .i64 l[k].kind, .string l[k].text, .bool l[k].spaced, .slice ao l[k].hidden.length c2] 47)) = w5 at *
          clear hw5
          refine wpAnyH_ready (rs := [5]) (by decide +kernel) (by simp) ?_
          refine AllReadyH.cons rfl (fun K hK => ?_) AllReadyH.nil
          have hcell := HS5.out.cell
          go_simp
          refine hK.out _ _ hHeld (fun hHeld => ?_)
          clear hK K
          try simp only [Act.put, List.setIfInBounds_toArray, List.set_cons_zero, List.set_cons_succ]
          refine wpAnyH_ready (rs := [9]) (by decide +kernel) (by simp) ?_
          refine AllReadyH.cons rfl (fun K hK => ?_) AllReadyH.nil
          refine step_append_rowE (X := [(⟨[.int .i64 l[k].kind, .string l[k].text, .bool l[k].spaced, .slice ao l[k].hidden.length c2], l[k], fp2⟩ : Elem Tok)]) ti_tok rfl (by decide) _ 41 rfl rfl (.tmp 37) (.tmp 40) rfl top (.slice au M.length cu) rfl HT1.out w4.heap.size 1 1 rfl rfl (fun x hx => by obtain rfl := List.mem_singleton.1 hx; rfl) (fun x hx => by obtain rfl := List.mem_singleton.1 hx; simp [Value.oneCell']) (fun j u hj => by rw [cell_of_row _ _ _ _ _ _ HL5.out]; simpa using hj) (fun x hx => by obtain rfl := List.mem_singleton.1 hx; exact HT5.out.1) (fun x hx b hb => by obtain rfl := List.mem_singleton.1 hx; have := (HT5.out.2.1.2 b hb).1; omega) (fun x hx b hb => by obtain rfl := List.mem_singleton.1 hx; obtain ⟨cur, t, fr, z1, z2⟩ := HT5.out.2.2 b hb; exact ⟨cur, t, fr, z1, by rw [z2]; decide⟩) (by unfold maxLen; omega) (by omega) (by omega) ?_
          intro v6 w6 hG6 hg6
          have HN := Lib.hid (HS5.out.more (x := ⟨[.int .i64 l[k].kind, .string l[k].text, .bool l[k].spaced, .slice ao l[k].hidden.length c2], l[k], fp2⟩) HT1.out t2 (by omega) HTOP.out (HT5.out.2.1.lower (by omega)) HT5.out.2.2 (fun b hb hx => by have h1 := (HT5.out.2.1.2 b hb).1; have h2 := HOLD.out b hx; omega) hG6 hg6)
          have hb6 := hb5t.grown hg6 hb5t.size HS5.out.umine
          have hH6 := (hg6.block _ (Array.getElem?_eq_some_iff.1 hHeld).1 (fun e => by have := HULT.out _ e.symm; omega)).trans hHeld
          have hcell6 : w6.cell? ⟨ga, A.length, none⟩ = some (.slice au M.length cu) := (World.cell?_of_block (hg6.block ga (by have := hb5t.size; omega) (fun e => by rcases own_ne HS5.out.row HT1.out.row (by decide) with h0 | h0; cases h0; exact h0 (by rw [← e]; rfl)))).trans HS5.out.cell
          have hfr6 : w6.frozen? ⟨ga, A.length, none⟩ = false := (World.frozen?_of_block (hg6.block ga (by have := hb5t.size; omega) (fun e => by rcases own_ne HS5.out.row HT1.out.row (by decide) with h0 | h0; cases h0; exact h0 (by rw [← e]; rfl)))).trans (HS5.out.frozen _)
          obtain ⟨a6, c6, rfl, -⟩ := hG6.val
          clear hG6 hg6
          refine hK.out _ _ hH6 (fun hHeld => ?_)
          clear hK K
          try simp only [Act.put, List.setIfInBounds_toArray, List.set_cons_zero, List.set_cons_succ]
          refine takeH 10 42 (v := ?_) rfl rfl (by kernel_rfl) (by kernel_rfl) (by kernel_rfl) (fun _ _ _ h => h) (by rfl) (by assumption) ?_ ?_
          rotate_left
          · intro w hSw; have s0 := cell_of_row _ _ 0 _ _ _ hSw; have s1 := cell_of_row _ _ 1 _ _ _ hSw; have s2 := cell_of_row _ _ 2 _ _ _ hSw; have s3 := cell_of_row _ _ 3 _ _ _ hSw; go_simp; (first | done | with_reducible rfl | rfl)
          try simp only [Act.put, List.setIfInBounds_toArray, List.set_cons_zero, List.set_cons_succ]
          refine wpAnyH_ready (rs := [11]) (by decide +kernel) (by simp) ?_
          refine AllReadyH.cons rfl (fun K hK => ?_) AllReadyH.nil
          have hbne : wr.heap.size ≠ ga := by omega
          have hb7 := hb6.setCell (p := ⟨ga, A.length, none⟩) (by show w.heap.size ≤ ga; omega) (.slice a6 (M ++ [(⟨[.int .i64 l[k].kind, .string l[k].text, .bool l[k].spaced, .slice ao l[k].hidden.length c2], l[k], fp2⟩ : Elem Tok)]).length c6)
          have hH7 := blk_other hHeld hbne A.length (.slice a6 (M ++ [(⟨[.int .i64 l[k].kind, .string l[k].text, .bool l[k].spaced, .slice ao l[k].hidden.length c2], l[k], fp2⟩ : Elem Tok)]).length c6)
          simp only [List.length_append, List.length_cons, List.length_nil, Nat.zero_add] at hb7 hH7 HN ⊢
          go_simp
          refine hK.out _ _ hH7 (fun hHeld => ?_)
          clear hK K
          try simp only [Act.put, List.setIfInBounds_toArray, List.set_cons_zero, List.set_cons_succ]
          refine wpAnyH_done (by kernel_rfl) ?_ _
          refine NoPanic.normal ?_
          clear hHeld
          go_wp2
          go_roundw
          case rel => exact ⟨k + 1, _, _, A, M ++ [(⟨[.int .i64 l[k].kind, .string l[k].text, .bool l[k].spaced, .slice ao l[k].hidden.length c2], l[k], fp2⟩ : Elem Tok)], by omega, by go_num, rfl, by omega, by omega, by omega, by simp; omega, HN, by show _ = _; rw [← HF.out, List.map_append]; rfl, hb7⟩
          case measure => simp [intOf]; omega
        · have e0 : (dd == 0) = false := by simpa using h0
          clear hcomma hnc HCM hsz HUL HML
          go_wp2_with fail
          refine (HOP.out _ hbx).mono ?_
          rintro e w2 ⟨rfl, g2⟩
          have hc2 := hbx.trans (g2.mono hbx.size)
          have HX2 := Lib.hid ((g2.block _ (Array.getElem?_eq_some_iff.1 HX0.out).1).trans HX0.out)
          have HS2 := Lib.hid (HS1.out.below g2)
          have hb2 := hbw.trans (g2.mono hbw.size)
          have hi1 : (0 : Int) ≤ (A.length : Int) := by omega
          have hi2 : (A.length : Int) < (A.length : Int) + 1 := by omega
          have hgs2 := hc2.size
          clear c10 c11 c12 c13 HOP HS1 HX0 hbw hbx g2 hb
          go_wp2_with fail
          refine wp_region_noPanic ?_
          refine wp_region_held_drew (S := fun w' => w'.heap[wr.heap.size]? = some (.cells #[.int .i64 l[k].kind, .string l[k].text, .bool l[k].spaced, .slice ah l[k].hidden.length ch] 47 (0, 0))) (by kernel_rfl) (by exact HX2.out) (fun hHeld => ?_)
          have hdr : Below w2.heap.size w2 w2.drew := belowN (Below.refl _ _) 1
          have HSd := Lib.hid (HS2.out.below hdr)
          have hbd := hb2.trans (hdr.mono hb2.size)
          have hcd := hc2.trans (hdr.mono hc2.size)
          have hwd := hcd.size
          obtain ⟨top, t1, t2, t3, t4⟩ := HSd.out.inn
          have HTD := Lib.hid t1
          have HTOP := Lib.hid t4
          clear t1 t4
          clear HS2 HX2 hdr
          generalize w2.drew = wd at *
          refine takeH 0 32 (v := ?_) rfl rfl (by kernel_rfl) (by kernel_rfl) (by kernel_rfl) (fun _ _ _ h => h) (by rfl) (by assumption) ?_ ?_
          rotate_left
          · intro w hSw; have s0 := cell_of_row _ _ 0 _ _ _ hSw; have s1 := cell_of_row _ _ 1 _ _ _ hSw; have s2 := cell_of_row _ _ 2 _ _ _ hSw; have s3 := cell_of_row _ _ 3 _ _ _ hSw; go_simp; (first | done | with_reducible rfl | rfl)
          try simp only [Act.put, List.setIfInBounds_toArray, List.set_cons_zero, List.set_cons_succ]
          refine takeH 1 33 (v := ?_) rfl rfl (by kernel_rfl) (by kernel_rfl) (by kernel_rfl) (fun _ _ _ h => h) (by rfl) (by assumption) ?_ ?_
          rotate_left
          · intro w hSw; have s0 := cell_of_row _ _ 0 _ _ _ hSw; have s1 := cell_of_row _ _ 1 _ _ _ hSw; have s2 := cell_of_row _ _ 2 _ _ _ hSw; have s3 := cell_of_row _ _ 3 _ _ _ hSw; go_simp; (first | done | with_reducible rfl | rfl)
          try simp only [Act.put, List.setIfInBounds_toArray, List.set_cons_zero, List.set_cons_succ]
          refine takeH 2 34 (v := ?_) rfl rfl (by kernel_rfl) (by kernel_rfl) (by kernel_rfl) (fun _ _ _ h => h) (by rfl) (by assumption) ?_ ?_
          rotate_left
          · intro w hSw; have s0 := cell_of_row _ _ 0 _ _ _ hSw; have s1 := cell_of_row _ _ 1 _ _ _ hSw; have s2 := cell_of_row _ _ 2 _ _ _ hSw; have s3 := cell_of_row _ _ 3 _ _ _ hSw; go_simp; (first | done | with_reducible rfl | rfl)
          try simp only [Act.put, List.setIfInBounds_toArray, List.set_cons_zero, List.set_cons_succ]
          refine takeH 3 35 (v := ?_) rfl rfl (by kernel_rfl) (by kernel_rfl) (by kernel_rfl) (fun _ _ _ h => h) (by rfl) (by assumption) ?_ ?_
          rotate_left
          · intro w hSw; have s0 := cell_of_row _ _ 0 _ _ _ hSw; have s1 := cell_of_row _ _ 1 _ _ _ hSw; have s2 := cell_of_row _ _ 2 _ _ _ hSw; have s3 := cell_of_row _ _ 3 _ _ _ hSw; go_simp; (first | done | with_reducible rfl | rfl)
          try simp only [Act.put, List.setIfInBounds_toArray, List.set_cons_zero, List.set_cons_succ]
          refine takeH 4 36 (v := ?_) rfl rfl (by kernel_rfl) (by kernel_rfl) (by kernel_rfl) (fun _ _ _ h => h) (by rfl) (by assumption) ?_ ?_
          rotate_left
          · intro w hSw; have s0 := cell_of_row _ _ 0 _ _ _ hSw; have s1 := cell_of_row _ _ 1 _ _ _ hSw; have s2 := cell_of_row _ _ 2 _ _ _ hSw; have s3 := cell_of_row _ _ 3 _ _ _ hSw; go_simp; (first | done | with_reducible rfl | rfl)
          try simp only [Act.put, List.setIfInBounds_toArray, List.set_cons_zero, List.set_cons_succ]
          refine takeH 6 38 (v := ?_) rfl rfl (by kernel_rfl) (by kernel_rfl) (by kernel_rfl) (fun _ _ _ h => h) (by rfl) (by assumption) ?_ ?_
          rotate_left
          · intro w hSw; have s0 := cell_of_row _ _ 0 _ _ _ hSw; have s1 := cell_of_row _ _ 1 _ _ _ hSw; have s2 := cell_of_row _ _ 2 _ _ _ hSw; have s3 := cell_of_row _ _ 3 _ _ _ hSw; go_simp; (first | done | with_reducible rfl | rfl)
          try simp only [Act.put, List.setIfInBounds_toArray, List.set_cons_zero, List.set_cons_succ]
          refine wpAnyH_ready (rs := [5, 7]) (by decide +kernel) (by simp) ?_
          refine AllReadyH.cons rfl (fun K hK => ?_) ?_
          · have hcell := HSd.out.cell
            go_simp
            refine hK.out _ _ hHeld (fun hHeld => ?_)
            clear hK K
            try simp only [Act.put, List.setIfInBounds_toArray, List.set_cons_zero, List.set_cons_succ]
            refine wpAnyH_ready (rs := [7]) (by decide +kernel) (by simp) ?_
            refine AllReadyH.cons rfl (fun K hK => ?_) AllReadyH.nil
            go_simp
            refine (HCP.out _ hcd).mono ?_
            rintro e w4 ⟨ao, c2, fp2, rfl, R2, O2, T2, hb4⟩
            have HS4 := Lib.hid (HSd.out.below hb4)
            have hb4t := hbd.trans (hb4.mono hbd.size)
            have hs4 := hb4.size
            have HTE := Lib.hid (HTD.out.below hb4)
            have HT4 := Lib.hid (And.intro R2 (And.intro O2 T2))
            clear R2 O2 T2
            refine hK.out _ _ ((hb4.block _ (Array.getElem?_eq_some_iff.1 hHeld).1).trans hHeld) (fun hHeld => ?_)
            clear hK K
            try simp only [Act.put, List.setIfInBounds_toArray, List.set_cons_zero, List.set_cons_succ]
            refine wpAnyH_ready (rs := [8]) (by decide +kernel) (by simp) ?_
            refine AllReadyH.cons rfl (fun K hK => ?_) AllReadyH.nil
            have bl := alloc_below' w4 (.cells #[.int .i64 l[k].kind, .string l[k].text, .bool l[k].spaced, .slice ao l[k].hidden.length c2] 47)
            have HL5 := Lib.hid (heap_alloc_new w4 (.cells #[.int .i64 l[k].kind, .string l[k].text, .bool l[k].spaced, .slice ao l[k].hidden.length c2] 47))
            have HS5 := Lib.hid (HS4.out.below bl)
            have HT1 := Lib.hid (HTE.out.below bl)
            have hb5t := hb4t.trans (bl.mono hb4t.size)
            have hs5 : (w4.alloc (.cells #[.int .i64 l[k].kind, .string l[k].text, .bool l[k].spaced, .slice ao l[k].hidden.length c2] 47)).heap.size = w4.heap.size + 1 := Array.size_push _
            have HT5 := Lib.hid (And.intro (sTok.below HT4.out.1 bl) (And.intro (HT4.out.2.1.grow bl) (show ∀ b ∈ fp2, ∃ cur t fr, (w4.alloc (.cells #[.int .i64 l[k].kind, .string l[k].text, .bool l[k].spaced, .slice ao l[k].hidden.length c2] 47)).heap[b]? = some (.cells cur t fr) ∧ t = 9 from fun b hb => by obtain ⟨cur, t, fr, z1, z2⟩ := HT4.out.2.2 b hb; exact ⟨cur, t, fr, (bl.block b (Array.getElem?_eq_some_iff.1 z1).1).trans z1, z2⟩)))
            have hH5 := (bl.block _ (Array.getElem?_eq_some_iff.1 hHeld).1).trans hHeld
            go_simp
            refine hK.out _ _ hH5 (fun hHeld => ?_)
            clear hK K bl
            try simp only [Act.put, List.setIfInBounds_toArray, List.set_cons_zero, List.set_cons_succ]
            generalize hw5 : (w4.alloc (.cells #[.int .i64 l[k].kind, .string l[k].text, .bool l[k].spaced, .slice ao l[k].hidden.length c2] 47)) = w5 at *
            clear hw5
            refine wpAnyH_ready (rs := [9]) (by decide +kernel) (by simp) ?_
            refine AllReadyH.cons rfl (fun K hK => ?_) AllReadyH.nil
            refine step_append_rowE (X := [(⟨[.int .i64 l[k].kind, .string l[k].text, .bool l[k].spaced, .slice ao l[k].hidden.length c2], l[k], fp2⟩ : Elem Tok)]) ti_tok rfl (by decide) _ 41 rfl rfl (.tmp 37) (.tmp 40) rfl top (.slice au M.length cu) rfl HT1.out w4.heap.size 1 1 rfl rfl (fun x hx => by obtain rfl := List.mem_singleton.1 hx; rfl) (fun x hx => by obtain rfl := List.mem_singleton.1 hx; simp [Value.oneCell']) (fun j u hj => by rw [cell_of_row _ _ _ _ _ _ HL5.out]; simpa using hj) (fun x hx => by obtain rfl := List.mem_singleton.1 hx; exact HT5.out.1) (fun x hx b hb => by obtain rfl := List.mem_singleton.1 hx; have := (HT5.out.2.1.2 b hb).1; omega) (fun x hx b hb => by obtain rfl := List.mem_singleton.1 hx; obtain ⟨cur, t, fr, z1, z2⟩ := HT5.out.2.2 b hb; exact ⟨cur, t, fr, z1, by rw [z2]; decide⟩) (by unfold maxLen; omega) (by omega) (by omega) ?_
            intro v6 w6 hG6 hg6
            have HN := Lib.hid (HS5.out.more (x := ⟨[.int .i64 l[k].kind, .string l[k].text, .bool l[k].spaced, .slice ao l[k].hidden.length c2], l[k], fp2⟩) HT1.out t2 (by omega) HTOP.out (HT5.out.2.1.lower (by omega)) HT5.out.2.2 (fun b hb hx => by have h1 := (HT5.out.2.1.2 b hb).1; have h2 := HOLD.out b hx; omega) hG6 hg6)
            have hb6 := hb5t.grown hg6 hb5t.size HS5.out.umine
            have hH6 := (hg6.block _ (Array.getElem?_eq_some_iff.1 hHeld).1 (fun e => by have := HULT.out _ e.symm; omega)).trans hHeld
            have hcell6 : w6.cell? ⟨ga, A.length, none⟩ = some (.slice au M.length cu) := (World.cell?_of_block (hg6.block ga (by have := hb5t.size; omega) (fun e => by rcases own_ne HS5.out.row HT1.out.row (by decide) with h0 | h0; cases h0; exact h0 (by rw [← e]; rfl)))).trans HS5.out.cell
            have hfr6 : w6.frozen? ⟨ga, A.length, none⟩ = false := (World.frozen?_of_block (hg6.block ga (by have := hb5t.size; omega) (fun e => by rcases own_ne HS5.out.row HT1.out.row (by decide) with h0 | h0; cases h0; exact h0 (by rw [← e]; rfl)))).trans (HS5.out.frozen _)
            obtain ⟨a6, c6, rfl, -⟩ := hG6.val
            clear hG6 hg6
            refine hK.out _ _ hH6 (fun hHeld => ?_)
            clear hK K
            try simp only [Act.put, List.setIfInBounds_toArray, List.set_cons_zero, List.set_cons_succ]
            refine takeH 10 42 (v := ?_) rfl rfl (by kernel_rfl) (by kernel_rfl) (by kernel_rfl) (fun _ _ _ h => h) (by rfl) (by assumption) ?_ ?_
            rotate_left
            · intro w hSw; have s0 := cell_of_row _ _ 0 _ _ _ hSw; have s1 := cell_of_row _ _ 1 _ _ _ hSw; have s2 := cell_of_row _ _ 2 _ _ _ hSw; have s3 := cell_of_row _ _ 3 _ _ _ hSw; go_simp; (first | done | with_reducible rfl | rfl)
            try simp only [Act.put, List.setIfInBounds_toArray, List.set_cons_zero, List.set_cons_succ]
            refine wpAnyH_ready (rs := [11]) (by decide +kernel) (by simp) ?_
            refine AllReadyH.cons rfl (fun K hK => ?_) AllReadyH.nil
            have hbne : wr.heap.size ≠ ga := by omega
            have hb7 := hb6.setCell (p := ⟨ga, A.length, none⟩) (by show w.heap.size ≤ ga; omega) (.slice a6 (M ++ [(⟨[.int .i64 l[k].kind, .string l[k].text, .bool l[k].spaced, .slice ao l[k].hidden.length c2], l[k], fp2⟩ : Elem Tok)]).length c6)
            have hH7 := blk_other hHeld hbne A.length (.slice a6 (M ++ [(⟨[.int .i64 l[k].kind, .string l[k].text, .bool l[k].spaced, .slice ao l[k].hidden.length c2], l[k], fp2⟩ : Elem Tok)]).length c6)
            simp only [List.length_append, List.length_cons, List.length_nil, Nat.zero_add] at hb7 hH7 HN ⊢
            go_simp
            refine hK.out _ _ hH7 (fun hHeld => ?_)
            clear hK K
            try simp only [Act.put, List.setIfInBounds_toArray, List.set_cons_zero, List.set_cons_succ]
            refine wpAnyH_done (by kernel_rfl) ?_ _
            refine NoPanic.normal ?_
            clear hHeld
            go_wp2
            go_roundw
            case rel => exact ⟨k + 1, _, _, A, M ++ [(⟨[.int .i64 l[k].kind, .string l[k].text, .bool l[k].spaced, .slice ao l[k].hidden.length c2], l[k], fp2⟩ : Elem Tok)], by omega, by go_num, rfl, by omega, by omega, by omega, by simp; omega, HN, by show _ = _; rw [← HF.out, List.map_append]; rfl, hb7⟩
            case measure => simp [intOf]; omega
          refine AllReadyH.cons rfl (fun K hK => ?_) AllReadyH.nil
          go_simp
          refine (HCP.out _ hcd).mono ?_
          rintro e w4 ⟨ao, c2, fp2, rfl, R2, O2, T2, hb4⟩
          have HS4 := Lib.hid (HSd.out.below hb4)
          have hb4t := hbd.trans (hb4.mono hbd.size)
          have hs4 := hb4.size
          have HTE := Lib.hid (HTD.out.below hb4)
          have HT4 := Lib.hid (And.intro R2 (And.intro O2 T2))
          clear R2 O2 T2
          refine hK.out _ _ ((hb4.block _ (Array.getElem?_eq_some_iff.1 hHeld).1).trans hHeld) (fun hHeld => ?_)
          clear hK K
          try simp only [Act.put, List.setIfInBounds_toArray, List.set_cons_zero, List.set_cons_succ]
          refine wpAnyH_ready (rs := [5, 8]) (by decide +kernel) (by simp) ?_
          refine AllReadyH.cons rfl (fun K hK => ?_) ?_
          · have hcell := HS4.out.cell
            go_simp
            refine hK.out _ _ hHeld (fun hHeld => ?_)
            clear hK K
            try simp only [Act.put, List.setIfInBounds_toArray, List.set_cons_zero, List.set_cons_succ]
            refine wpAnyH_ready (rs := [8]) (by decide +kernel) (by simp) ?_
            refine AllReadyH.cons rfl (fun K hK => ?_) AllReadyH.nil
            have bl := alloc_below' w4 (.cells #[.int .i64 l[k].kind, .string l[k].text, .bool l[k].spaced, .slice ao l[k].hidden.length c2] 47)
            have HL5 := Lib.hid (heap_alloc_new w4 (.cells #[.int .i64 l[k].kind, .string l[k].text, .bool l[k].spaced, .slice ao l[k].hidden.length c2] 47))
            have HS5 := Lib.hid (HS4.out.below bl)
            have HT1 := Lib.hid (HTE.out.below bl)
            have hb5t := hb4t.trans (bl.mono hb4t.size)
            have hs5 : (w4.alloc (.cells #[.int .i64 l[k].kind, .string l[k].text, .bool l[k].spaced, .slice ao l[k].hidden.length c2] 47)).heap.size = w4.heap.size + 1 := Array.size_push _
            have HT5 := Lib.hid (And.intro (sTok.below HT4.out.1 bl) (And.intro (HT4.out.2.1.grow bl) (show ∀ b ∈ fp2, ∃ cur t fr, (w4.alloc (.cells #[.int .i64 l[k].kind, .string l[k].text, .bool l[k].spaced, .slice ao l[k].hidden.length c2] 47)).heap[b]? = some (.cells cur t fr) ∧ t = 9 from fun b hb => by obtain ⟨cur, t, fr, z1, z2⟩ := HT4.out.2.2 b hb; exact ⟨cur, t, fr, (bl.block b (Array.getElem?_eq_some_iff.1 z1).1).trans z1, z2⟩)))
            have hH5 := (bl.block _ (Array.getElem?_eq_some_iff.1 hHeld).1).trans hHeld
            go_simp
            refine hK.out _ _ hH5 (fun hHeld => ?_)
            clear hK K bl
            try simp only [Act.put, List.setIfInBounds_toArray, List.set_cons_zero, List.set_cons_succ]
            generalize hw5 : (w4.alloc (.cells #[.int .i64 l[k].kind, .string l[k].text, .bool l[k].spaced, .slice ao l[k].hidden.length c2] 47)) = w5 at *
            clear hw5
            refine wpAnyH_ready (rs := [9]) (by decide +kernel) (by simp) ?_
            refine AllReadyH.cons rfl (fun K hK => ?_) AllReadyH.nil
            refine step_append_rowE (X := [(⟨[.int .i64 l[k].kind, .string l[k].text, .bool l[k].spaced, .slice ao l[k].hidden.length c2], l[k], fp2⟩ : Elem Tok)]) ti_tok rfl (by decide) _ 41 rfl rfl (.tmp 37) (.tmp 40) rfl top (.slice au M.length cu) rfl HT1.out w4.heap.size 1 1 rfl rfl (fun x hx => by obtain rfl := List.mem_singleton.1 hx; rfl) (fun x hx => by obtain rfl := List.mem_singleton.1 hx; simp [Value.oneCell']) (fun j u hj => by rw [cell_of_row _ _ _ _ _ _ HL5.out]; simpa using hj) (fun x hx => by obtain rfl := List.mem_singleton.1 hx; exact HT5.out.1) (fun x hx b hb => by obtain rfl := List.mem_singleton.1 hx; have := (HT5.out.2.1.2 b hb).1; omega) (fun x hx b hb => by obtain rfl := List.mem_singleton.1 hx; obtain ⟨cur, t, fr, z1, z2⟩ := HT5.out.2.2 b hb; exact ⟨cur, t, fr, z1, by rw [z2]; decide⟩) (by unfold maxLen; omega) (by omega) (by omega) ?_
            intro v6 w6 hG6 hg6
            have HN := Lib.hid (HS5.out.more (x := ⟨[.int .i64 l[k].kind, .string l[k].text, .bool l[k].spaced, .slice ao l[k].hidden.length c2], l[k], fp2⟩) HT1.out t2 (by omega) HTOP.out (HT5.out.2.1.lower (by omega)) HT5.out.2.2 (fun b hb hx => by have h1 := (HT5.out.2.1.2 b hb).1; have h2 := HOLD.out b hx; omega) hG6 hg6)
            have hb6 := hb5t.grown hg6 hb5t.size HS5.out.umine
            have hH6 := (hg6.block _ (Array.getElem?_eq_some_iff.1 hHeld).1 (fun e => by have := HULT.out _ e.symm; omega)).trans hHeld
            have hcell6 : w6.cell? ⟨ga, A.length, none⟩ = some (.slice au M.length cu) := (World.cell?_of_block (hg6.block ga (by have := hb5t.size; omega) (fun e => by rcases own_ne HS5.out.row HT1.out.row (by decide) with h0 | h0; cases h0; exact h0 (by rw [← e]; rfl)))).trans HS5.out.cell
            have hfr6 : w6.frozen? ⟨ga, A.length, none⟩ = false := (World.frozen?_of_block (hg6.block ga (by have := hb5t.size; omega) (fun e => by rcases own_ne HS5.out.row HT1.out.row (by decide) with h0 | h0; cases h0; exact h0 (by rw [← e]; rfl)))).trans (HS5.out.frozen _)
            obtain ⟨a6, c6, rfl, -⟩ := hG6.val
            clear hG6 hg6
            refine hK.out _ _ hH6 (fun hHeld => ?_)
            clear hK K
            try simp only [Act.put, List.setIfInBounds_toArray, List.set_cons_zero, List.set_cons_succ]
            refine takeH 10 42 (v := ?_) rfl rfl (by kernel_rfl) (by kernel_rfl) (by kernel_rfl) (fun _ _ _ h => h) (by rfl) (by assumption) ?_ ?_
            rotate_left
            · intro w hSw; have s0 := cell_of_row _ _ 0 _ _ _ hSw; have s1 := cell_of_row _ _ 1 _ _ _ hSw; have s2 := cell_of_row _ _ 2 _ _ _ hSw; have s3 := cell_of_row _ _ 3 _ _ _ hSw; go_simp; (first | done | with_reducible rfl | rfl)
            try simp only [Act.put, List.setIfInBounds_toArray, List.set_cons_zero, List.set_cons_succ]
            refine wpAnyH_ready (rs := [11]) (by decide +kernel) (by simp) ?_
            refine AllReadyH.cons rfl (fun K hK => ?_) AllReadyH.nil
            have hbne : wr.heap.size ≠ ga := by omega
            have hb7 := hb6.setCell (p := ⟨ga, A.length, none⟩) (by show w.heap.size ≤ ga; omega) (.slice a6 (M ++ [(⟨[.int .i64 l[k].kind, .string l[k].text, .bool l[k].spaced, .slice ao l[k].hidden.length c2], l[k], fp2⟩ : Elem Tok)]).length c6)
            have hH7 := blk_other hHeld hbne A.length (.slice a6 (M ++ [(⟨[.int .i64 l[k].kind, .string l[k].text, .bool l[k].spaced, .slice ao l[k].hidden.length c2], l[k], fp2⟩ : Elem Tok)]).length c6)
            simp only [List.length_append, List.length_cons, List.length_nil, Nat.zero_add] at hb7 hH7 HN ⊢
            go_simp
            refine hK.out _ _ hH7 (fun hHeld => ?_)
            clear hK K
            try simp only [Act.put, List.setIfInBounds_toArray, List.set_cons_zero, List.set_cons_succ]
            refine wpAnyH_done (by kernel_rfl) ?_ _
            refine NoPanic.normal ?_
            clear hHeld
            go_wp2
            go_roundw
            case rel => exact ⟨k + 1, _, _, A, M ++ [(⟨[.int .i64 l[k].kind, .string l[k].text, .bool l[k].spaced, .slice ao l[k].hidden.length c2], l[k], fp2⟩ : Elem Tok)], by omega, by go_num, rfl, by omega, by omega, by omega, by simp; omega, HN, by show _ = _; rw [← HF.out, List.map_append]; rfl, hb7⟩
            case measure => simp [intOf]; omega
          refine AllReadyH.cons rfl (fun K hK => ?_) AllReadyH.nil
          have bl := alloc_below' w4 (.cells #[.int .i64 l[k].kind, .string l[k].text, .bool l[k].spaced, .slice ao l[k].hidden.length c2] 47)
          have HL5 := Lib.hid (heap_alloc_new w4 (.cells #[.int .i64 l[k].kind, .string l[k].text, .bool l[k].spaced, .slice ao l[k].hidden.length c2] 47))
          have HS5 := Lib.hid (HS4.out.below bl)
          have HT1 := Lib.hid (HTE.out.below bl)
          have hb5t := hb4t.trans (bl.mono hb4t.size)
          have hs5 : (w4.alloc (.cells #[.int .i64 l[k].kind, .string l[k].text, .bool l[k].spaced, .slice ao l[k].hidden.length c2] 47)).heap.size = w4.heap.size + 1 := Array.size_push _
          have HT5 := Lib.hid (And.intro (sTok.below HT4.out.1 bl) (And.intro (HT4.out.2.1.grow bl) (show ∀ b ∈ fp2, ∃ cur t fr, (w4.alloc (.cells #[.int .i64 l[k].kind, .string l[k].text, .bool l[k].spaced, .slice ao l[k].hidden.length c2] 47)).heap[b]? = some (.cells cur t fr) ∧ t = 9 from fun b hb => by obtain ⟨cur, t, fr, z1, z2⟩ := HT4.out.2.2 b hb; exact ⟨cur, t, fr, (bl.block b (Array.getElem?_eq_some_iff.1 z1).1).trans z1, z2⟩)))
          have hH5 := (bl.block _ (Array.getElem?_eq_some_iff.1 hHeld).1).trans hHeld
          go_simp
          refine hK.out _ _ hH5 (fun hHeld => ?_)
          clear hK K bl
          try simp only [Act.put, List.setIfInBounds_toArray, List.set_cons_zero, List.set_cons_succ]
          generalize hw5 : (w4.alloc (.cells #[.int .i64 l[k].kind, .string l[k].text, .bool l[k].spaced, .slice ao l[k].hidden.length c2] 47)) = w5 at *
          clear hw5
          refine wpAnyH_ready (rs := [5]) (by decide +kernel) (by simp) ?_
          refine AllReadyH.cons rfl (fun K hK => ?_) AllReadyH.nil
          have hcell := HS5.out.cell
          go_simp
          refine hK.out _ _ hHeld (fun hHeld => ?_)
          clear hK K
          try simp only [Act.put, List.setIfInBounds_toArray, List.set_cons_zero, List.set_cons_succ]
          refine wpAnyH_ready (rs := [9]) (by decide +kernel) (by simp) ?_
          refine AllReadyH.cons rfl (fun K hK => ?_) AllReadyH.nil
          refine step_append_rowE (X := [(⟨[.int .i64 l[k].kind, .string l[k].text, .bool l[k].spaced, .slice ao l[k].hidden.length c2], l[k], fp2⟩ : Elem Tok)]) ti_tok rfl (by decide) _ 41 rfl rfl (.tmp 37) (.tmp 40) rfl top (.slice au M.length cu) rfl HT1.out w4.heap.size 1 1 rfl rfl (fun x hx => by obtain rfl := List.mem_singleton.1 hx; rfl) (fun x hx => by obtain rfl := List.mem_singleton.1 hx; simp [Value.oneCell']) (fun j u hj => by rw [cell_of_row _ _ _ _ _ _ HL5.out]; simpa using hj) (fun x hx => by obtain rfl := List.mem_singleton.1 hx; exact HT5.out.1) (fun x hx b hb => by obtain rfl := List.mem_singleton.1 hx; have := (HT5.out.2.1.2 b hb).1; omega) (fun x hx b hb => by obtain rfl := List.mem_singleton.1 hx; obtain ⟨cur, t, fr, z1, z2⟩ := HT5.out.2.2 b hb; exact ⟨cur, t, fr, z1, by rw [z2]; decide⟩) (by unfold maxLen; omega) (by omega) (by omega) ?_
          intro v6 w6 hG6 hg6
          have HN := Lib.hid (HS5.out.more (x := ⟨[.int .i64 l[k].kind, .string l[k].text, .bool l[k].spaced, .slice ao l[k].hidden.length c2], l[k], fp2⟩) HT1.out t2 (by omega) HTOP.out (HT5.out.2.1.lower (by omega)) HT5.out.2.2 (fun b hb hx => by have h1 := (HT5.out.2.1.2 b hb).1; have h2 := HOLD.out b hx; omega) hG6 hg6)
          have hb6 := hb5t.grown hg6 hb5t.size HS5.out.umine
          have hH6 := (hg6.block _ (Array.getElem?_eq_some_iff.1 hHeld).1 (fun e => by have := HULT.out _ e.symm; omega)).trans hHeld
          have hcell6 : w6.cell? ⟨ga, A.length, none⟩ = some (.slice au M.length cu) := (World.cell?_of_block (hg6.block ga (by have := hb5t.size; omega) (fun e => by rcases own_ne HS5.out.row HT1.out.row (by decide) with h0 | h0; cases h0; exact h0 (by rw [← e]; rfl)))).trans HS5.out.cell
          have hfr6 : w6.frozen? ⟨ga, A.length, none⟩ = false := (World.frozen?_of_block (hg6.block ga (by have := hb5t.size; omega) (fun e => by rcases own_ne HS5.out.row HT1.out.row (by decide) with h0 | h0; cases h0; exact h0 (by rw [← e]; rfl)))).trans (HS5.out.frozen _)
          obtain ⟨a6, c6, rfl, -⟩ := hG6.val
          clear hG6 hg6
          refine hK.out _ _ hH6 (fun hHeld => ?_)
          clear hK K
          try simp only [Act.put, List.setIfInBounds_toArray, List.set_cons_zero, List.set_cons_succ]
          refine takeH 10 42 (v := ?_) rfl rfl (by kernel_rfl) (by kernel_rfl) (by kernel_rfl) (fun _ _ _ h => h) (by rfl) (by assumption) ?_ ?_
          rotate_left
          · intro w hSw; have s0 := cell_of_row _ _ 0 _ _ _ hSw; have s1 := cell_of_row _ _ 1 _ _ _ hSw; have s2 := cell_of_row _ _ 2 _ _ _ hSw; have s3 := cell_of_row _ _ 3 _ _ _ hSw; go_simp; (first | done | with_reducible rfl | rfl)
          try simp only [Act.put, List.setIfInBounds_toArray, List.set_cons_zero, List.set_cons_succ]
          refine wpAnyH_ready (rs := [11]) (by decide +kernel) (by simp) ?_
          refine AllReadyH.cons rfl (fun K hK => ?_) AllReadyH.nil
          have hbne : wr.heap.size ≠ ga := by omega
          have hb7 := hb6.setCell (p := ⟨ga, A.length, none⟩) (by show w.heap.size ≤ ga; omega) (.slice a6 (M ++ [(⟨[.int .i64 l[k].kind, .string l[k].text, .bool l[k].spaced, .slice ao l[k].hidden.length c2], l[k], fp2⟩ : Elem Tok)]).length c6)
          have hH7 := blk_other hHeld hbne A.length (.slice a6 (M ++ [(⟨[.int .i64 l[k].kind, .string l[k].text, .bool l[k].spaced, .slice ao l[k].hidden.length c2], l[k], fp2⟩ : Elem Tok)]).length c6)
          simp only [List.length_append, List.length_cons, List.length_nil, Nat.zero_add] at hb7 hH7 HN ⊢
          go_simp
          refine hK.out _ _ hH7 (fun hHeld => ?_)
          clear hK K
          try simp only [Act.put, List.setIfInBounds_toArray, List.set_cons_zero, List.set_cons_succ]
          refine wpAnyH_done (by kernel_rfl) ?_ _
          refine NoPanic.normal ?_
          clear hHeld
          go_wp2
          go_roundw
          case rel => exact ⟨k + 1, _, _, A, M ++ [(⟨[.int .i64 l[k].kind, .string l[k].text, .bool l[k].spaced, .slice ao l[k].hidden.length c2], l[k], fp2⟩ : Elem Tok)], by omega, by go_num, rfl, by omega, by omega, by omega, by simp; omega, HN, by show _ = _; rw [← HF.out, List.map_append]; rfl, hb7⟩
          case measure => simp [intOf]; omega
    · have HF := Lib.hid ((dvGo_end (by omega : l.length ≤ k) dd _ _).symm.trans HI.out)
      obtain ⟨fpr, hr, ho⟩ := HS.out.done
      have HRR := Lib.hid hr
      have HOO := Lib.hid ho
      clear HI hr ho
      go_wp2
      go_ret
      exact ⟨_, fpr, rfl, by rw [← HF.out]; exact HRR.out, HOO.out, hb⟩

/-- What SplitArguments of the program answers. -/
def MineArgs (r : Args × Int × Bool) (w : World) (e : Ending) (w' : World) : Prop :=
  ∃ (v : Value) (fp : List Nat), e = .returned (.tuple #[v, .int .i64 r.2.1, .bool r.2.2]) ∧ (sSlice sToks).R w' [v] r.1 fp ∧ Own w' w.heap.size fp ∧ Below w.heap.size w w'
theorem clGo_start {l : List Tok} {n : Nat} (hn : n < l.length) (h : isOpen l[n] = true) : clGo (l.drop n) 0 n = clGo (l.drop (n + 1)) 1 (n + 1) := by
  rw [clGo_step hn, opn_open h, if_neg (by omega)]; rfl

end Go.Proofs.Ytiaiggjfepoahab

/- Of the program: arguments at a place, SplitArguments. -/
namespace Go.Proofs.Ytiaiggjfepoahab
open Go.RowKit

/-- What argumentsAt answers. -/
def argsAt (l : List Tok) (n : Nat) : Args × Int × Bool :=
  match clGo (l.drop (n + 1)) 1 (n + 1) with
  | none => ([], 0, false)
  | some e => (dvGo ((l.drop (n + 1)).take (e - (n + 1))) 0 [] [], ((e + 1 : Nat) : Int), true)
theorem argsAt_none {l : List Tok} {n : Nat} (h : clGo (l.drop (n + 1)) 1 (n + 1) = none) : argsAt l n = ([], 0, false) := by unfold argsAt; rw [h]
theorem argsAt_some {l : List Tok} {n e : Nat} (h : clGo (l.drop (n + 1)) 1 (n + 1) = some e) : argsAt l n = (dvGo ((l.drop (n + 1)).take (e - (n + 1))) 0 [] [], ((e + 1 : Nat) : Int), true) := by unfold argsAt; rw [h]

set_option maxHeartbeats 8000000 in
set_option maxRecDepth 100000 in
theorem impl_argumentsAt (v : Value) (l : List Tok) (fp : List Nat) (n : Nat) (w : World) (hl60 : l.length ≤ 60) (hn : n < l.length) (ho : isOpen l[n] = true) (hx : ∀ k, (hk : k < l.length) → l[k].hidden.length ≤ 2000000) (H : (sSlice sTok).R w [v] l fp) :
    Calls Try.prog 44 #[v, .int .i64 n] w (MineArgs (argsAt l n) w) := by
  have HR1 := Lib.hid H
  obtain ⟨a1, c1, rfl, hc1, hm1, hrow⟩ := open_rows H
  unfold maxLen at hm1
  obtain ⟨b1, off1, fps1, rfl, hb1, -, he1⟩ := hrow (by omega)
  clear H hrow he1
  have hNo : ∀ (W : World), Below w.heap.size w W → argsAt l n = ([], 0, false) → MineArgs (argsAt l n) w (.returned (.tuple #[.slice none 0 0, .int .i64 0, .bool false])) W := fun W hW h => by
    rw [h]
    exact ⟨_, [], rfl, slice_empty sToks _ _ 0 (by simp), Own.nil _ _, hW⟩
  have HNO := Lib.hid hNo
  clear hNo
  go_enter Try.func44, Try.ntmps44
  have HCL := Lib.hid (impl_closingPlace _ l fp n w hl60 (by omega) HR1.out)
  rw [clGo_start hn ho] at HCL
  cases hcl : clGo (l.drop (n + 1)) 1 (n + 1) with
  | none =>
    have HF := Lib.hid (argsAt_none hcl)
    rw [hcl] at HCL
    clear hcl ho
    go_wp2_with fail
    refine HCL.out.mono ?_
    rintro e w3 ⟨rfl, hb3⟩
    unfold clRes
    go_wp2
    go_ret3
    exact HNO.out _ hb3 HF.out
  | some e =>
    have HF := Lib.hid (argsAt_some hcl)
    have hge := clGo_ge _ _ _ _ hcl
    rw [List.length_drop] at hge
    rw [hcl] at HCL
    clear hcl ho
    obtain ⟨hge1, hge2⟩ := hge
    have hel : e < l.length := by omega
    go_wp2_with fail
    refine HCL.out.mono ?_
    rintro ee w3 ⟨rfl, hb3⟩
    have hbx := hb3
    have hcr : clRes (some e) = (e : Int) := rfl
    rw [hcr]
    obtain ⟨ft, RT, -⟩ := slice_take e (by omega) HR1.out
    obtain ⟨fd, RD, -⟩ := slice_drop (n + 1) (by rw [List.length_take]; omega) RT
    rw [if_neg (by omega), Option.map_some, Addr.add_lit, List.drop_take] at RD
    have HLX : Hid (∀ k, (hk : k < ((l.drop (n + 1)).take (e - (n + 1))).length) → ((l.drop (n + 1)).take (e - (n + 1)))[k].hidden.length ≤ 2000000) := fun k hk => by
      rw [List.getElem_take, List.getElem_drop]
      exact hx _ _
    have HDV := Lib.hid (impl_divideArguments _ ((l.drop (n + 1)).take (e - (n + 1))) fd w3 (by rw [List.length_take, List.length_drop]; omega) HLX.out ((sSlice sTok).below RD hbx))
    have hwr : IntKind.i64.wrap ((n : Int) + 1) = (n : Int) + 1 := IntWalk.i64_in _ (by omega)
    have hwr2 : IntKind.i64.wrap ((e : Int) + 1) = (e : Int) + 1 := IntWalk.i64_in _ (by omega)
    have hne : ¬ c1 = n + 1 := by omega
    have hp0 : ¬ (e : Int) < 0 := by omega
    have hp1 : (0 : Int) ≤ (n : Int) + 1 := by omega
    have hp2 : (n : Int) + 1 ≤ (e : Int) := by omega
    have hp3 : (e : Int) ≤ (c1 : Int) := by omega
    have hp4 : n + 1 ≤ c1 := by omega
    have hp5 : ((n : Int) + 1).toNat = n + 1 := by omega
    have hm4 : sTok.m = 4 := rfl
    rw [hm4] at HDV
    clear RT RD HLX
    go_wp2_with fail
    refine HDV.out.mono ?_
    rintro ee w4 ⟨v4, fp4, rfl, hR4, hO4, hb4⟩
    have HRR := Lib.hid hR4
    have HOO := Lib.hid hO4
    have hb5 := hbx.trans (hb4.mono hbx.size)
    have hs5 := hbx.size
    clear hR4 hO4
    go_wp2
    go_ret3
    rw [HF.out]
    exact ⟨_, fp4, rfl, HRR.out, HOO.out.lower hs5, hb5⟩

set_option maxHeartbeats 8000000 in
set_option maxRecDepth 100000 in
theorem impl_SplitArguments (v : Value) (l : List Tok) (fp : List Nat) (i : Int) (w : World) (hx : ∀ k, (hk : k < l.length) → l[k].hidden.length ≤ 2000000) (H : (sSlice sTok).R w [v] l fp) :
    Calls Try.prog 18 #[v, .int .i64 i] w (MineArgs (splitA l i) w) := by
  have HV := Lib.hid (impl_TokensValid v l fp w H)
  have HR1 := Lib.hid H
  obtain ⟨a1, c1, rfl, hc1, hm1, hrow⟩ := open_rows H
  unfold maxLen at hm1
  clear H
  have hNo : ∀ (W : World), Below w.heap.size w W → splitA l i = ([], 0, false) → MineArgs (splitA l i) w (.returned (.tuple #[.slice none 0 0, .int .i64 0, .bool false])) W := fun W hW h => by
    rw [h]
    exact ⟨_, [], rfl, slice_empty sToks _ _ 0 (by simp), Own.nil _ _, hW⟩
  have HNO := Lib.hid hNo
  clear hNo
  go_enter Try.func18, Try.ntmps18
  cases hv : toksOk l
  · rw [hv] at HV
    have HF := Lib.hid (splitA_bad (a := i) hv)
    clear hv hrow
    go_wp2_with fail
    refine HV.out.mono ?_
    rintro e w2 ⟨rfl, hb2⟩
    go_wp2
    go_ret3
    exact HNO.out _ hb2 HF.out
  have hl60 : l.length ≤ 60 := (toksOk_facts hv).1
  rw [hv] at HV
  have HVV := Lib.hid hv
  clear hv
  go_wp2_with fail
  refine HV.out.mono ?_
  rintro e w2 ⟨rfl, hb2⟩
  by_cases h0 : i < 0
  · have HF := Lib.hid (splitA_out (l := l) (a := i) (by omega))
    have e0 : decide (i < 0) = true := decide_eq_true h0
    clear hrow
    go_wp2
    go_ret3
    exact HNO.out _ hb2 HF.out
  by_cases h1 : (l.length : Int) ≤ i
  · have HF := Lib.hid (splitA_out (l := l) (a := i) (by omega))
    have e0 : decide (i < 0) = false := decide_eq_false h0
    have e1 : decide ((l.length : Int) ≤ i) = true := decide_eq_true h1
    clear hrow
    go_wp2
    go_ret3
    exact HNO.out _ hb2 HF.out
  obtain ⟨n, rfl⟩ : ∃ n : Nat, i = (n : Int) := ⟨i.toNat, by omega⟩
  have hn : n < l.length := by omega
  have e0 : decide ((n : Int) < 0) = false := decide_eq_false h0
  have e1 : decide ((l.length : Int) ≤ (n : Int)) = false := decide_eq_false h1
  have e2 : decide (l.length ≤ n) = false := decide_eq_false (by omega)
  obtain ⟨b1, off1, fps1, rfl, hb1, -, he1⟩ := hrow (by omega)
  obtain ⟨es1, hE1, hR1⟩ := he1 n hn
  clear hrow he1
  obtain ⟨h1', rfl, _, _, hK1⟩ := hR1
  clear hK1
  replace hE1 := hE1.frame (hb2.block b1 hb1)
  have c11 : w2.cell? ⟨b1, off1 + n * 4 + 1, none⟩ = some _ := elem_cell (j := 1) hE1 (by decide) rfl
  clear hE1
  cases ho : isOpen l[n]
  · have g : (l[n].text.toList == [40]) = false := ho
    have g' : (l[n].text.toList != [40]) = true := by rw [bne, g]; rfl
    have HF := Lib.hid (splitA_no hn ho)
    clear ho
    go_wp2
    go_ret3
    exact HNO.out _ hb2 HF.out
  have g : (l[n].text.toList == [40]) = true := ho
  have g' : (l[n].text.toList != [40]) = false := by rw [bne, g]; rfl
  have HCL := Lib.hid (impl_argumentsAt _ l fp n w2 hl60 hn ho hx ((sSlice sTok).below HR1.out hb2))
  have HE : Hid (argsAt l n = splitA l n) := by
    show _ = _
    cases hcl : clGo (l.drop (n + 1)) 1 (n + 1) with
    | none => rw [argsAt_none hcl, splitA_none HVV.out hn ho hcl]
    | some e => rw [argsAt_some hcl, splitA_some HVV.out hn ho hcl]
  clear ho
  go_wp2_with fail
  refine HCL.out.mono ?_
  rintro e w3 ⟨v4, fp4, rfl, hR4, hO4, hb4⟩
  have HRR := Lib.hid hR4
  have HOO := Lib.hid hO4
  have hb5 := hb2.trans (hb4.mono hb2.size)
  have hs5 := hb2.size
  clear hR4 hO4
  go_wp2
  go_ret3
  rw [← HE.out]
  exact ⟨_, fp4, rfl, HRR.out, HOO.out.lower hs5, hb5⟩

end Go.Proofs.Ytiaiggjfepoahab

/- SplitArguments of both, as the exact law calls them. -/
namespace Go.Proofs.Ytiaiggjfepoahab
open Go.RowKit

theorem cntTokenS_app (a b : List Tok) : cntTokenS (a ++ b) = cntTokenS a + cntTokenS b := by unfold cntTokenS cntAll; rw [List.map_append, List.sum_append]
theorem cntTokenSS_app (a b : Args) : cntTokenSS (a ++ b) = cntTokenSS a + cntTokenSS b := by unfold cntTokenSS cntAll; rw [List.map_append, List.sum_append]
theorem cntTokenSS_one (a : List Tok) : cntTokenSS [a] = cntTokenS a := by unfold cntTokenSS cntAll; simp
theorem cntTokenS_cons (t : Tok) (l : List Tok) : cntTokenS (t :: l) = cntToken t + cntTokenS l := by unfold cntTokenS cntAll; simp
theorem dvGo_cnt : ∀ (l : List Tok) (d : Int) (A : Args) (M : List Tok), cntTokenSS (dvGo l d A M) ≤ cntTokenSS A + cntTokenS M + cntTokenS l
  | [], d, A, M => by
    unfold dvGo
    rw [cntTokenSS_app, cntTokenSS_one]
    omega
  | t :: r, d, A, M => by
    unfold dvGo
    rw [cntTokenS_cons]
    split
    · have := dvGo_cnt r d (A ++ [M]) []
      rw [cntTokenSS_app, cntTokenSS_one] at this
      have h0 : cntTokenS [] = 0 := rfl
      omega
    · have := dvGo_cnt r (d + opn t) A (M ++ [t])
      rw [cntTokenS_app, cntTokenS_cons] at this
      have h0 : cntTokenS [] = 0 := rfl
      omega
theorem tokOk_hid {t : Tok} (h : tokOk t = true) : t.hidden.length ≤ 60 := by
  unfold tokOk at h
  have h2 := (Bool.and_eq_true_iff.1 h).2
  unfold hidOk at h2
  exact of_decide_eq_true (Bool.and_eq_true_iff.1 h2).1
theorem cnt_toks : ∀ {l : List Tok}, (∀ t ∈ l, tokOk t = true) → cntTokenS l ≤ 63 * l.length
  | [], _ => Nat.le_refl _
  | t :: l, h => by
    have ih := cnt_toks (l := l) (fun t ht => h t (by simp [ht]))
    have h1 := tokOk_hid (h t (by simp))
    have h2 : cntToken t = 3 + t.hidden.length := rfl
    rw [cntTokenS_cons, List.length_cons]
    omega
theorem SplitArguments_cnt (l : List Tok) (i : Int) : cntTokenSS (splitA l i).1 ≤ 5000 := by
  by_cases hin : 0 ≤ i ∧ i < l.length
  rotate_left
  · rw [splitA_out hin]; exact Nat.zero_le _
  obtain ⟨n, rfl⟩ : ∃ n : Nat, i = (n : Int) := ⟨i.toNat, by omega⟩
  have hn : n < l.length := by omega
  cases hv : toksOk l
  · rw [splitA_bad hv]; exact Nat.zero_le _
  cases ho : isOpen l[n]
  · rw [splitA_no hn ho]; exact Nat.zero_le _
  cases hc : clGo (l.drop (n + 1)) 1 (n + 1) with
  | none => rw [splitA_none hv hn ho hc]; exact Nat.zero_le _
  | some e =>
    rw [splitA_some hv hn ho hc]
    have h1 := dvGo_cnt ((l.drop (n + 1)).take (e - (n + 1))) 0 [] []
    have hf := toksOk_facts hv
    have h2 := cnt_toks (l := (l.drop (n + 1)).take (e - (n + 1))) (fun t ht => by
      have hm := List.mem_of_mem_drop (List.mem_of_mem_take ht)
      obtain ⟨k, hk, rfl⟩ := List.getElem_of_mem hm
      exact hf.2 k hk)
    rw [List.length_take, List.length_drop] at h2
    have h3 : cntTokenSS [] = 0 := rfl
    have h4 : cntTokenS [] = 0 := rfl
    have h5 := hf.1
    show cntTokenSS (dvGo _ _ _ _) ≤ 5000
    omega
theorem spec_SplitArguments_w (v : Value) (l : List Tok) (fp : List Nat) (i : Int) (w : World) (hw : wtTokenS l ≤ 1048576) (H : (sSlice sTok).R w [v] l fp) (hok : okInt i) :
    Calls Try.prog 17 #[v, .int .i64 i] w (RetArgs (splitA l i) w) := spec_SplitArguments v l fp i w (wtTokenS_len hw) (wtTokenS_hid hw) H
theorem impl_SplitArguments_w (v : Value) (l : List Tok) (fp : List Nat) (i : Int) (w : World) (hw : wtTokenS l ≤ 1048576) (H : (sSlice sTok).R w [v] l fp) (hok : okInt i) :
    Calls Try.prog 18 #[v, .int .i64 i] w (MineArgs (splitA l i) w) := impl_SplitArguments v l fp i w (wtTokenS_hid hw) H

end Go.Proofs.Ytiaiggjfepoahab
