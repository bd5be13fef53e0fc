/- Texts that the proof of U stands on, in one file. -/
import Derived.Test.YtiaiggjfepoahaaZU12
import Derived.Test.YtiaiggjfepoahaaZU7
import Derived.Test.YtiaiggjfepoahaaZU8
import Derived.Test.YtiaiggjfepoahaaZU6
import Derived.Test.YtiaiggjfepoahaaZU4
import Derived.Test.YtiaiggjfepoahaaZU11
import Derived.Test.YtiaiggjfepoahaaZU1
set_option linter.unusedVariables false
set_option linter.unusedSimpArgs false
/- Of the program: one value, values with marks between, choices. -/
namespace Go.Proofs.Ytiaiggjfepoahaa
open Go.RowKit

def placeAt (rb : Nat) (w : World) : Nat :=
  match w.heap[rb]? with
  | some (.cells cs _ _) => (intOf (cs.getD 1 undef)).toNat
  | _ => 0
theorem RB.place {rb : Nat} {vL : Value} {k : Nat} {w : World} (h : RB rb vL k w) : placeAt rb w = k := by
  unfold placeAt
  rw [show w.heap[rb]? = some (.cells #[vL, .int .i64 (k : Nat)] 55 (0, 0)) from h]
  simp [intOf]
/-- The three functions of the reader are walked, with so much fuel. -/
structure PC (l : List Tok) (d : Nat) : Prop where
  one : ∀ (k : Nat) (r : VRes), k ≤ l.length → pv l d (.one k) = some r → ∀ (rb : Nat) (vL : Value) (fp : List Nat) (w : World), RB rb vL k w → (sSlice sTok).R w [vL] l fp → rb ∉ fp → Calls Try.prog 54 #[.pointer (some ⟨rb, 0, none⟩)] w (VEnd rb vL l r w)
  marks : ∀ (k rank : Nat) (r : VRes), k ≤ l.length → 1 ≤ rank → rank ≤ 7 → pv l d (.marks k rank) = some r → ∀ (rb : Nat) (vL : Value) (fp : List Nat) (w : World), RB rb vL k w → (sSlice sTok).R w [vL] l fp → rb ∉ fp → Calls Try.prog 43 #[.pointer (some ⟨rb, 0, none⟩), .int .i64 rank] w (VEnd rb vL l r w)
  choice : ∀ (k : Nat) (r : VRes), k ≤ l.length → pv l d (.choice k) = some r → ∀ (rb : Nat) (vL : Value) (fp : List Nat) (w : World), RB rb vL k w → (sSlice sTok).R w [vL] l fp → rb ∉ fp → Calls Try.prog 33 #[.pointer (some ⟨rb, 0, none⟩)] w (VEnd rb vL l r w)
theorem list_kept {l : List Tok} {vL : Value} {fp : List Nat} {rb : Nat} {w : World} (H : (sSlice sTok).R w [vL] l fp) (hn : rb ∉ fp) {Q : World} (hQ : Kept [rb] w Q) : (sSlice sTok).R Q [vL] l fp :=
  (sSlice sTok).kept H (fun b hb => by simp only [List.mem_singleton]; rintro rfl; exact hn hb) hQ
theorem pv_one_out {l : List Tok} {d k : Nat} {r : VRes} (h : pv l (d + 1) (.one k) = some r) (hk : ¬ k < l.length) : r = (0, k, 1) := by
  unfold pv at h
  rw [dif_neg hk] at h
  simpa using h.symm
theorem pv_one_not {l : List Tok} {d k : Nat} {r : VRes} (h : pv l (d + 1) (.one k) = some r) (hm : mkAt l k [33] = true) : ∃ a, pv l d (.one (k + 1)) = some a ∧ r = (bit1 (decide (a.1 = 0)), a.2.1, a.2.2) ∧ k < l.length := by
  obtain ⟨hk, hm⟩ := mkAt_lt hm
  unfold pv at h
  rw [dif_pos hk, if_pos hm] at h
  obtain ⟨a, h1, h2⟩ := bind_some h
  exact ⟨a, h1, by simpa using h2.symm, hk⟩
theorem pv_one_neg {l : List Tok} {d k : Nat} {r : VRes} (h : pv l (d + 1) (.one k) = some r) (h1 : mkAt l k [33] = false) (hm : mkAt l k [45] = true) : ∃ a, pv l d (.one (k + 1)) = some a ∧ r = (-a.1, a.2.1, a.2.2) ∧ k < l.length := by
  obtain ⟨hk, hm⟩ := mkAt_lt hm
  rw [mkAt_in hk] at h1
  unfold pv at h
  rw [dif_pos hk, if_neg (by rw [h1]; simp), if_pos hm] at h
  obtain ⟨a, h1, h2⟩ := bind_some h
  exact ⟨a, h1, by simpa using h2.symm, hk⟩
theorem pv_one_par {l : List Tok} {d k : Nat} {r : VRes} (h : pv l (d + 1) (.one k) = some r) (h1 : mkAt l k [33] = false) (h2 : mkAt l k [45] = false) (hm : mkAt l k [40] = true) : ∃ a, pv l d (.choice (k + 1)) = some a ∧ r = (a.1, a.2.1 + 1, if a.2.2 = 0 ∧ mkAt l a.2.1 [41] = false then 1 else a.2.2) ∧ k < l.length := by
  obtain ⟨hk, hm⟩ := mkAt_lt hm
  rw [mkAt_in hk] at h1 h2
  unfold pv at h
  rw [dif_pos hk, if_neg (by rw [h1]; simp), if_neg (by rw [h2]; simp), if_pos hm] at h
  obtain ⟨a, h1, h2⟩ := bind_some h
  exact ⟨a, h1, (Option.some.inj h2).symm, hk⟩
theorem pv_one_word {l : List Tok} {d k : Nat} {r : VRes} (h : pv l (d + 1) (.one k) = some r) (h1 : mkAt l k [33] = false) (h2 : mkAt l k [45] = false) (h3 : mkAt l k [40] = false) : r = wordR l k := by
  by_cases hk : k < l.length
  · rw [mkAt_in hk] at h1 h2 h3
    unfold pv at h
    rw [dif_pos hk, if_neg (by rw [h1]; simp), if_neg (by rw [h2]; simp), if_neg (by rw [h3]; simp)] at h
    unfold wordR
    rw [dif_pos hk]
    split at h
    · rename_i h4; rw [if_pos h4]; exact (Option.some.inj h).symm
    · rename_i h4
      rw [if_neg h4]
      split at h
      · rename_i h5; rw [if_pos h5]; exact (Option.some.inj h).symm
      · rename_i h5; rw [if_neg h5]; exact (Option.some.inj h).symm
  · rw [pv_one_out h hk]
    unfold wordR
    rw [dif_neg hk]

set_option maxHeartbeats 16000000 in
set_option maxRecDepth 100000 in
theorem single_walk {l : List Tok} {d : Nat} (hl : l.length ≤ 60) (ht : ∀ t ∈ l, tokOk t = true) (IH : ∀ d', d' < d → PC l d') (k : Nat) (r : VRes) (hk : k ≤ l.length) (h : pv l d (.one k) = some r) (rb : Nat) (vL : Value) (fp : List Nat) (w : World) (HB : RB rb vL k w) (H : (sSlice sTok).R w [vL] l fp) (hnr : rb ∉ fp) :
    Calls Try.prog 54 #[.pointer (some ⟨rb, 0, none⟩)] w (VEnd rb vL l r w) := by
  have HL := Lib.hid (fun (Q : World) (hQ : Kept [rb] w Q) => list_kept H hnr hQ)
  have HTO := Lib.hid ht
  have HB0 := Lib.hid HB
  clear H HB ht
  cases d with
  | zero => simp [pv] at h
  | succ d =>
  have HH := Lib.hid h
  clear h
  have HSK : Hid (∀ (c : UInt8) (j : Nat) (Q : World), cutKind c = 4 → j ≤ l.length → RB rb vL j Q → Kept [rb] w Q → Calls Try.prog 44 #[.pointer (some ⟨rb, 0, none⟩), .string ⟨#[c]⟩] Q fun e w' => e = .returned (.bool (mkAt l j [c])) ∧ RB rb vL (if mkAt l j [c] = true then j + 1 else j) w' ∧ Kept [rb] Q w') :=
    fun c j Q hc hj hB hQ => impl_skip rb vL l fp j c Q hl HTO.out hc hj hB (HL.out Q hQ)
  have HWD : Hid (∀ (Q : World), RB rb vL k Q → Kept [rb] w Q → Calls Try.prog 58 #[.pointer (some ⟨rb, 0, none⟩)] Q (VEnd rb vL l (wordR l k) Q)) := fun Q hB hQ => impl_word rb vL l fp k Q hl HTO.out hk hB (HL.out Q hQ)
  go_enter Try.func54, Try.ntmps54
  have S1 := Lib.hid (HSK.out 33 k w (by decide) hk HB0.out (Kept.refl _ _))
  cases h1 : mkAt l k [33]
  rotate_left
  · obtain ⟨a, ha, hr, hlt⟩ := pv_one_not HH.out h1
    have HR := Lib.hid hr
    have HC : Hid (∀ Q : World, RB rb vL (k + 1) Q → Kept [rb] w Q → Calls Try.prog 54 #[.pointer (some ⟨rb, 0, none⟩)] Q (VEnd rb vL l a Q)) := fun Q hB hQ => (IH d (by omega)).one (k + 1) a hlt ha rb vL fp Q hB (HL.out Q hQ) hnr
    rw [h1] at S1
    clear h1 ha hr HH
    go_wp2_with fail
    refine S1.out.mono ?_
    rintro e w2 ⟨rfl, hB2, hK2⟩
    replace hB2 : RB rb vL (k + 1) w2 := hB2
    have C2 := Lib.hid (HC.out w2 hB2 hK2)
    have K2 := Lib.hid hK2
    clear hB2 hK2 S1
    go_wp2_with fail
    refine C2.out.mono ?_
    rintro e w3 ⟨n, k3, rfl, hv, hn, hk3, hB3, hK3⟩
    have HV := Lib.hid hv
    have B3 := Lib.hid hB3
    have K3 := Lib.hid (K2.out.trans hK3)
    clear hv hB3 hK3 C2
    obtain ⟨a1, a2, f⟩ := a
    by_cases h0 : n = 0
    · have e0 : (n == 0) = true := by simp [h0]
      have HE : Hid (f = 0 → bit1 true = r.1 ∧ k3 = r.2.1) := fun hf => by rw [HR.out]; have := HV.out hf; refine ⟨?_, this.2⟩; show bit1 true = bit1 (decide (a1 = 0)); rw [← (show n = a1 from this.1), h0]; rfl
      go_wp2_with fail
      refine (impl_truth true _).mono ?_
      rintro e w4 ⟨rfl, rfl⟩
      go_wp2
      go_ret2
      exact vend (by rw [HR.out]) HE.out (by decide) hk3 B3.out K3.out
    · have e0 : (n == 0) = false := by simp [h0]
      have HE : Hid (f = 0 → bit1 false = r.1 ∧ k3 = r.2.1) := fun hf => by rw [HR.out]; have := HV.out hf; refine ⟨?_, this.2⟩; show bit1 false = bit1 (decide (a1 = 0)); rw [← (show n = a1 from this.1), decide_eq_false h0]
      go_wp2_with fail
      refine (impl_truth false _).mono ?_
      rintro e w4 ⟨rfl, rfl⟩
      go_wp2
      go_ret2
      exact vend (by rw [HR.out]) HE.out (by decide) hk3 B3.out K3.out
  have H1 := Lib.hid h1
  rw [h1] at S1
  clear h1
  go_wp2_with fail
  refine S1.out.mono ?_
  rintro e w2 ⟨rfl, hB2, hK2⟩
  replace hB2 : RB rb vL k w2 := hB2
  have B2 := Lib.hid hB2
  have K2 := Lib.hid hK2
  clear hB2 hK2 S1
  have S2 := Lib.hid (HSK.out 45 k w2 (by decide) hk B2.out K2.out)
  cases h2 : mkAt l k [45]
  rotate_left
  · obtain ⟨a, ha, hr, hlt⟩ := pv_one_neg HH.out H1.out h2
    have HR := Lib.hid hr
    have HC : Hid (∀ Q : World, RB rb vL (k + 1) Q → Kept [rb] w Q → Calls Try.prog 54 #[.pointer (some ⟨rb, 0, none⟩)] Q (VEnd rb vL l a Q)) := fun Q hB hQ => (IH d (by omega)).one (k + 1) a hlt ha rb vL fp Q hB (HL.out Q hQ) hnr
    rw [h2] at S2
    clear h2 ha hr HH
    go_wp2_with fail
    refine S2.out.mono ?_
    rintro e w3 ⟨rfl, hB3, hK3⟩
    replace hB3 : RB rb vL (k + 1) w3 := hB3
    have K3 := Lib.hid (K2.out.trans hK3)
    have C3 := Lib.hid (HC.out w3 hB3 K3.out)
    clear hB3 hK3 S2
    go_wp2_with fail
    refine C3.out.mono ?_
    rintro e w4 ⟨n, k3, rfl, hv, hn, hk3, hB3, hK3⟩
    have HV := Lib.hid hv
    have B3 := Lib.hid hB3
    have K4 := Lib.hid (K3.out.trans hK3)
    clear hv hB3 hK3 C3
    obtain ⟨a1, a2, f⟩ := a
    have hni := inR_iff.1 hn
    have HN := Lib.hid (inR_neg hn)
    have HE : Hid (f = 0 → -n = r.1 ∧ k3 = r.2.1) := fun hf => by rw [HR.out]; have := HV.out hf; refine ⟨?_, this.2⟩; show -n = -a1; rw [← (show n = a1 from this.1)]
    have hwn : IntKind.i64.wrap (-n) = -n := IntWalk.i64_in _ (by omega)
    clear hn
    go_wp2
    go_ret2
    exact vend (by rw [HR.out]) HE.out HN.out hk3 B3.out K4.out
  have H2 := Lib.hid h2
  rw [h2] at S2
  clear h2
  go_wp2_with fail
  refine S2.out.mono ?_
  rintro e w3 ⟨rfl, hB3, hK3⟩
  replace hB3 : RB rb vL k w3 := hB3
  have B3 := Lib.hid hB3
  have K3 := Lib.hid (K2.out.trans hK3)
  clear hB3 hK3 S2
  have S3 := Lib.hid (HSK.out 40 k w3 (by decide) hk B3.out K3.out)
  cases h3 : mkAt l k [40]
  rotate_left
  · obtain ⟨a, ha, hr, hlt⟩ := pv_one_par HH.out H1.out H2.out h3
    have HR := Lib.hid hr
    have HC : Hid (∀ Q : World, RB rb vL (k + 1) Q → Kept [rb] w Q → Calls Try.prog 33 #[.pointer (some ⟨rb, 0, none⟩)] Q (VEnd rb vL l a Q)) := fun Q hB hQ => (IH d (by omega)).choice (k + 1) a hlt ha rb vL fp Q hB (HL.out Q hQ) hnr
    rw [h3] at S3
    clear h3 ha hr HH
    go_wp2_with fail
    refine S3.out.mono ?_
    rintro e w4 ⟨rfl, hB4, hK4⟩
    replace hB4 : RB rb vL (k + 1) w4 := hB4
    have K4 := Lib.hid (K3.out.trans hK4)
    have C4 := Lib.hid (HC.out w4 hB4 K4.out)
    clear hB4 hK4 S3
    go_wp2_with fail
    refine C4.out.mono ?_
    rintro e w5 ⟨n, k5, rfl, hv, hn, hk5, hB5, hK5⟩
    have HV := Lib.hid hv
    have B5 := Lib.hid hB5
    have K5 := Lib.hid (K4.out.trans hK5)
    have HN := Lib.hid hn
    clear hv hB5 hK5 C4 hn
    obtain ⟨a1, a2, f⟩ := a
    by_cases hf : f = 0
    rotate_left
    · have HE : Hid (r.2.2 = f) := by show _ = _; rw [HR.out]; show (if f = 0 ∧ _ then _ else _) = _; rw [if_neg (fun h => hf h.1)]
      have HNF := Lib.hid hf
      have e0 : (f == 0) = false := by simp [hf]
      clear hf
      go_wp2
      go_ret2
      exact vend HE.out (fun h => absurd h HNF.out) HN.out hk5 B5.out K5.out
    subst hf
    obtain ⟨hv1, hv2⟩ := HV.out rfl
    have S5 := Lib.hid (HSK.out 41 k5 w5 (by decide) hk5 B5.out K5.out)
    have HV1 := Lib.hid hv1
    have HV2 := Lib.hid hv2
    clear hv1 hv2 HV
    cases h4 : mkAt l k5 [41]
    · have HE : Hid (r.2.2 = 1) := by show _ = _; rw [HR.out]; show (if (0 : Int) = 0 ∧ mkAt l a2 [41] = false then _ else _) = _; rw [← (show k5 = a2 from HV2.out), if_pos ⟨rfl, h4⟩]
      rw [h4] at S5
      clear h4
      go_wp2_with fail
      refine S5.out.mono ?_
      rintro e w6 ⟨rfl, hB6, hK6⟩
      replace hB6 : RB rb vL k5 w6 := hB6
      have B6 := Lib.hid hB6
      have K6 := Lib.hid (K5.out.trans hK6)
      clear hB6 hK6
      go_wp2
      go_ret2
      exact vend HE.out (fun h => absurd h (by decide)) HN.out hk5 B6.out K6.out
    · have HE : Hid (r = (n, k5 + 1, 0)) := by show _ = _; rw [HR.out]; show (a1, a2 + 1, if (0 : Int) = 0 ∧ mkAt l a2 [41] = false then _ else _) = _; rw [← (show k5 = a2 from HV2.out), if_neg (by rw [h4]; simp), ← (show n = a1 from HV1.out)]
      obtain ⟨hk6, -⟩ := mkAt_lt h4
      rw [h4] at S5
      clear h4
      go_wp2_with fail
      refine S5.out.mono ?_
      rintro e w6 ⟨rfl, hB6, hK6⟩
      replace hB6 : RB rb vL (k5 + 1) w6 := hB6
      have B6 := Lib.hid hB6
      have K6 := Lib.hid (K5.out.trans hK6)
      clear hB6 hK6
      go_wp2
      go_ret2
      exact vend (by rw [HE.out]) (fun _ => by rw [HE.out]; exact ⟨rfl, rfl⟩) HN.out hk6 B6.out K6.out
  have HR := Lib.hid (pv_one_word HH.out H1.out H2.out h3)
  rw [h3] at S3
  clear h3
  go_wp2_with fail
  refine S3.out.mono ?_
  rintro e w4 ⟨rfl, hB4, hK4⟩
  replace hB4 : RB rb vL k w4 := hB4
  have K4 := Lib.hid (K3.out.trans hK4)
  have W4 := Lib.hid (HWD.out w4 hB4 K4.out)
  rw [← HR.out] at W4
  clear hB4 hK4 S3
  go_wp2_with fail
  refine W4.out.mono ?_
  rintro e w5 ⟨n, k5, rfl, hv, hn, hk5, hB5, hK5⟩
  have HV := Lib.hid hv
  have B5 := Lib.hid hB5
  have K5 := Lib.hid (K4.out.trans hK5)
  have HN := Lib.hid hn
  clear hv hB5 hK5 W4 hn
  go_wp2
  go_ret2
  exact vend rfl HV.out HN.out hk5 B5.out K5.out

end Go.Proofs.Ytiaiggjfepoahaa

/- Of the program: values with marks between. -/
namespace Go.Proofs.Ytiaiggjfepoahaa
open Go.RowKit

theorem next_ok {l : List Tok} {k : Nat} {v : Value} {fp : List Nat} {w : World} (H : (sSlice sTok).R w [v] l fp) : okStr (nextT l k) := by
  by_cases h : k < l.length
  · rw [next_in h]
    obtain ⟨al, cl, rfl, hcl, hml, hrow⟩ := open_rows H
    obtain ⟨b1, o1, -, rfl, -, -, -⟩ := hrow (by omega)
    obtain ⟨xa, xc, xf, x0, x1, x2, x3, xR, -, -⟩ := tok_at H h
    exact xR.choose_spec.2.2.1
  · rw [next_out h]
    exact Nat.zero_le _
theorem more_stop {l : List Tok} {d rank e : Nat} {n : Int} {r : VRes} (h : pv l d (.more rank n e 0) = some r) (he : e ≤ l.length) (ht : ∀ t ∈ l, tokOk t = true) (hr : rankT (nextT l e).toList < rank) : r = (n, e, 0) := by
  by_cases hlt : e < l.length
  · cases d with
    | zero => simp [pv] at h
    | succ d =>
      unfold pv at h
      rw [dif_pos ⟨rfl, hlt⟩, if_pos (by rw [rankM_eq (ht _ (List.getElem_mem hlt)), ← next_in hlt]; exact hr)] at h
      exact (Option.some.inj h).symm
  · exact more_end h (fun h => hlt h.2)
theorem more_go {l : List Tok} {d rank e : Nat} {n : Int} {r : VRes} (h : pv l (d + 1) (.more rank n e 0) = some r) (ht : ∀ t ∈ l, tokOk t = true) (h1 : 1 ≤ rank) (hr : ¬ rankT (nextT l e).toList < rank) :
    e < l.length ∧ ∃ a, pv l d (.marks (e + 1) (rankT (nextT l e).toList + 1)) = some a ∧ (a.2.2 ≠ 0 → r = (0, a.2.1, a.2.2)) ∧ (a.2.2 = 0 → pv l d (.more rank (applyM (nextT l e).toList n a.1).1 a.2.1 (applyM (nextT l e).toList n a.1).2) = some r) := by
  have hlt : e < l.length := by
    refine Nat.lt_of_not_le fun h' => hr ?_
    rw [next_out (by omega), ByteArray.toList_eq]
    exact h1
  refine ⟨hlt, ?_⟩
  have hk : rankM l[e] = rankT (nextT l e).toList := by rw [rankM_eq (ht _ (List.getElem_mem hlt)), ← next_in hlt]
  have hx : l[e].text = nextT l e := (next_in hlt).symm
  unfold pv at h
  rw [dif_pos ⟨rfl, hlt⟩, if_neg (by rw [hk]; exact hr), hk, hx] at h
  obtain ⟨a, h2, h3⟩ := bind_some h
  refine ⟨a, h2, fun hf => ?_, fun hf => ?_⟩
  · simp only [if_pos hf] at h3
    exact (Option.some.inj h3).symm
  · simp only [hf, ne_eq, not_true_eq_false, if_false] at h3
    exact h3
theorem rankT_le (s : List UInt8) : rankT s ≤ 6 := by
  unfold rankT
  repeat' split
  all_goals omega

set_option maxHeartbeats 16000000 in
set_option maxRecDepth 100000 in
theorem row_walk {l : List Tok} {d : Nat} (hl : l.length ≤ 60) (ht : ∀ t ∈ l, tokOk t = true) (IH : ∀ d', d' < d → PC l d') (k rank : Nat) (r : VRes) (hk : k ≤ l.length) (h1 : 1 ≤ rank) (h7 : rank ≤ 7) (h : pv l d (.marks k rank) = some r) (rb : Nat) (vL : Value) (fp : List Nat) (w : World) (HB : RB rb vL k w) (H : (sSlice sTok).R w [vL] l fp) (hnr : rb ∉ fp) :
    Calls Try.prog 43 #[.pointer (some ⟨rb, 0, none⟩), .int .i64 rank] w (VEnd rb vL l r w) := by
  have HL := Lib.hid (fun (Q : World) (hQ : Kept [rb] w Q) => list_kept H hnr hQ)
  have HTO := Lib.hid ht
  have HB0 := Lib.hid HB
  clear H HB ht
  cases d with
  | zero => simp [pv] at h
  | succ d =>
  unfold pv at h
  obtain ⟨a, ha1, ha2⟩ := bind_some h
  have C0 := Lib.hid ((IH d (by omega)).one k a hk ha1 rb vL fp w HB0.out (HL.out w (Kept.refl _ _)) hnr)
  have HM := Lib.hid ha2
  clear h ha1 ha2
  go_enter Try.func43, Try.ntmps43
  go_wp2_with fail
  refine C0.out.mono ?_
  rintro e w1 ⟨n0, k0, rfl, hv, hn0, hk0, hB1, hK1⟩
  have HI : Hid ((a.2.2 = 0 → pv l d (.more rank n0 k0 0) = some r) ∧ (a.2.2 ≠ 0 → r.2.2 = a.2.2)) := ⟨fun hf => by
      have h9 := HM.out
      rw [hf, ← (hv hf).1, ← (hv hf).2] at h9
      exact h9, fun hf => by rw [more_bad HM.out hf]⟩
  have HB1 := Lib.hid hB1
  have HK1 := Lib.hid hK1
  obtain ⟨f0, HF0⟩ : ∃ f0 : Int, Hid (f0 = a.2.2) := ⟨_, Lib.hid rfl⟩
  rw [show a.2.2 = f0 from HF0.out.symm] at HI ⊢
  clear hv hB1 hK1 C0 HM
  go_wp2
  go_loopw [6, 7] (fun vn vf wr => ∃ (d' e : Nat) (n f : Int), d' ≤ d ∧ e ≤ l.length ∧ inR n = true ∧ vn = .int .i64 n ∧ vf = .int .i64 f ∧ Hid ((f = 0 → pv l d' (.more rank n e 0) = some r) ∧ (f ≠ 0 → r.2.2 = f)) ∧ Hid (RB rb vL e wr) ∧ Hid (Kept [rb] w wr)) (fun _ vf wr => if intOf vf = 0 then l.length - placeAt rb wr + 1 else 0)
  case atStart => exact ⟨d, k0, n0, f0, Nat.le_refl _, hk0, hn0, rfl, rfl, HI, HB1, HK1⟩
  case round =>
    clear HI HB1 HK1 hk0 hn0 HF0
    obtain ⟨d', e, n, f, hd', he, hn, rfl, rfl, HI, HB, HK⟩ := hrel
    by_cases hf : f = 0
    rotate_left
    · have HE := Lib.hid (HI.out.2 hf)
      have HNF := Lib.hid hf
      have g1 : (f == 0) = false := by simp [hf]
      clear hf
      go_wp2
      go_ret2
      exact vend HE.out (fun h => absurd h HNF.out) (by decide) he HB.out HK.out
    subst hf
    have HP := Lib.hid (HI.out.1 rfl)
    have HIN := Lib.hid hn
    clear HI hn
    have HNX := Lib.hid (impl_next rb vL l fp e wr he HB.out (HL.out wr HK.out))
    have HOK := Lib.hid (next_ok (k := e) (HL.out wr HK.out))
    obtain ⟨tx, HTX⟩ : ∃ tx : ByteArray, Hid (tx = nextT l e) := ⟨_, Lib.hid rfl⟩
    rw [show nextT l e = tx from HTX.out.symm] at HNX HOK
    have hr6 := rankT_le tx.toList
    have HRK : Hid (∀ Q, Calls Try.prog 19 #[.string tx] Q fun e w' => e = .returned (.int .i64 (rankT tx.toList : Nat)) ∧ w' = Q) := fun Q => impl_strengthOf tx Q
    obtain ⟨rk, HKK⟩ : ∃ rk : Nat, Hid (rk = rankT tx.toList) := ⟨_, Lib.hid rfl⟩
    rw [show rankT tx.toList = rk from HKK.out.symm] at HRK hr6
    go_wp2_with fail
    refine HNX.out.mono ?_
    rintro ee w2 ⟨rfl, hb2⟩
    go_wp2_with fail
    refine (HRK.out _).mono ?_
    rintro ee w3 ⟨rfl, rfl⟩
    have HB3 := Lib.hid (HB.out.below hb2)
    have HK3 := Lib.hid (HK.out.trans (Kept.of_below hb2))
    clear HNX HRK hb2 HK
    by_cases hlr : rk < rank
    · have HE := Lib.hid (more_stop HP.out he HTO.out (by rw [← HTX.out, ← HKK.out]; exact hlr))
      have g1 : (rk : Int) < (rank : Int) := by omega
      clear hlr
      go_wp2
      go_ret2
      exact vend (by rw [HE.out]) (fun _ => by rw [HE.out]; exact ⟨rfl, rfl⟩) HIN.out he HB3.out HK3.out
    have g1 : ¬ (rk : Int) < (rank : Int) := by omega
    cases d' with
    | zero => have := HP.out; simp [pv] at this
    | succ d' =>
    obtain ⟨hlt, a, ha1, hbad, hgo⟩ := more_go HP.out HTO.out h1 (by rw [← HTX.out, ← HKK.out]; exact hlr)
    rw [← HTX.out] at ha1 hgo
    rw [← HKK.out] at ha1
    have HFN := pv_fine l d' _ _ (show okQ l (.marks (e + 1) (rk + 1)) from hlt) ha1
    obtain ⟨-, -, f3, -, -⟩ := HFN
    have HNX : Hid (a.2.2 = 0 → a.2.1 ≤ l.length ∧ e + 1 < a.2.1) := fun h => ⟨(f3 h).1, ((f3 h).2.2).resolve_left (fun h => h)⟩
    have HC : Hid (∀ Q : World, RB rb vL (e + 1) Q → Kept [rb] w Q → Calls Try.prog 43 #[.pointer (some ⟨rb, 0, none⟩), .int .i64 (rk + 1 : Nat)] Q (VEnd rb vL l a Q)) := fun Q hB hQ => (IH d' (by omega)).marks (e + 1) (rk + 1) a hlt (by omega) (by omega) ha1 rb vL fp Q hB (HL.out Q hQ) hnr
    have HBAD := Lib.hid hbad
    have HGO := Lib.hid hgo
    clear ha1 hbad hgo f3 HP hlr
    have p1 := cell_of_row w3 rb 1 _ _ _ HB3.out
    have fz : w3.frozen? ⟨rb, 1, none⟩ = false := frozen_of_row _ _ 1 _ _ HB3.out
    have hwr : IntKind.i64.wrap ((e : Int) + 1) = (e : Int) + 1 := IntWalk.i64_in _ (by omega)
    have hwk : IntKind.i64.wrap ((rk : Int) + 1) = ((rk + 1 : Nat) : Int) := by rw [IntWalk.i64_in _ (by omega)]; omega
    have HB4 : Hid (RB rb vL (e + 1) (w3.setCell ⟨rb, 1, none⟩ (.int .i64 ((e : Int) + 1)))) := blk_set HB3.out 1 (.int .i64 ((e : Int) + 1))
    have HK4 : Hid (Kept [rb] w (w3.setCell ⟨rb, 1, none⟩ (.int .i64 ((e : Int) + 1)))) := HK3.out.setCell (p := ⟨rb, 1, none⟩) (by simp) _
    have HPL := Lib.hid HB.out.place
    go_upto_region 8 with fail
    clear p1 fz hwr HB3 HK3
    generalize (w3.setCell ⟨rb, 1, none⟩ (.int .i64 ((e : Int) + 1))) = w4 at *
    have C4 := Lib.hid (HC.out w4 HB4.out HK4.out)
    go_wp2_with fail
    refine C4.out.mono ?_
    rintro ee w5 ⟨m, k5, rfl, hv, hm, hk5, hB5, hK5⟩
    have HV := Lib.hid hv
    have B5 := Lib.hid hB5
    have K5 := Lib.hid (HK4.out.trans hK5)
    clear hv hB5 hK5 C4 HC hwk
    obtain ⟨a1, a2, o⟩ := a
    try dsimp only at HBAD HGO HNX HV
    by_cases ho : o = 0
    rotate_left
    · have HE : Hid ((o = 0 → pv l d' (.more rank n k5 0) = some r) ∧ (o ≠ 0 → r.2.2 = o)) := ⟨fun h => absurd h ho, fun h => by rw [HBAD.out h]⟩
      have g2 : (o == 0) = false := by simp [ho]
      have HNO := Lib.hid ho
      clear ho
      go_wp2
      go_roundw
      case rel => exact ⟨d', k5, n, o, by omega, hk5, HIN.out, rfl, rfl, HE, B5, K5⟩
      case measure => rw [HPL.out]; simp [intOf, HNO.out]
    subst ho
    obtain ⟨hv1, hv2⟩ := HV.out rfl
    obtain ⟨hn1, hn2⟩ := HNX.out rfl
    have HP2 := Lib.hid (HGO.out rfl)
    rw [← hv1, ← hv2] at HP2
    rw [← hv2] at hn1 hn2
    have HAP := Lib.hid (apply_any tx n m w5)
    have HAI := Lib.hid (applyM_in tx.toList n m)
    unfold AppOf at HAP
    rcases hap : applyM tx.toList n m with ⟨x, wf⟩
    rw [hap] at HAP HP2 HAI
    try dsimp only at HAP HP2 HAI
    clear hap HV HNX HGO HBAD hv1 hv2
    go_wp2_with fail
    refine HAP.out.mono ?_
    rintro ee w6 ⟨rfl, hb6⟩
    have HE : Hid ((wf = 0 → pv l d' (.more rank x k5 0) = some r) ∧ (wf ≠ 0 → r.2.2 = wf)) := ⟨fun h => by have h9 := HP2.out; rw [h] at h9; exact h9, fun h => by rw [more_bad HP2.out h]⟩
    have B6 := Lib.hid (B5.out.below hb6)
    have K6 := Lib.hid (K5.out.trans (Kept.of_below hb6))
    have HP6 := Lib.hid B6.out.place
    clear HAP HP2 hb6 B5 K5
    go_wp2
    go_roundw
    case rel => exact ⟨d', k5, x, wf, by omega, hk5, HAI.out.1, rfl, rfl, HE, B6, K6⟩
    case measure =>
      rw [HPL.out, HP6.out]
      by_cases hz : wf = 0
      · simp [intOf, hz]; omega
      · simp [intOf, hz]

end Go.Proofs.Ytiaiggjfepoahaa

/- Of the program: choices, ValueOf. -/
namespace Go.Proofs.Ytiaiggjfepoahaa
open Go.RowKit

theorem impl_ApplyMark (s : ByteArray) (a b : Int) (w : World) (_ : s.size ≤ maxLen) (_ : okInt a) (_ : okInt b) : Calls Try.prog 7 #[.string s, .int .i64 a, .int .i64 b] w (AppOf s.toList a b w) := apply_any s a b w
theorem impl_NumberOf (s : ByteArray) (w : World) (hs : s.size ≤ maxLen) : Calls Try.prog 11 #[.string s] w fun e w' => e = .returned (.int .i64 (numRes s.toList)) ∧ Below w.heap.size w w' := (number_same s w hs).mono (by rintro e w' ⟨h1, rfl⟩; exact ⟨h1, Below.refl _ _⟩)
theorem choice_plain {l : List Tok} {d k : Nat} {r a : VRes} (h : pv l (d + 1) (.choice k) = some r) (ha : pv l d (.marks k 1) = some a) (hn : ¬ (a.2.2 = 0 ∧ mkAt l a.2.1 [63] = true)) : r = a := by
  unfold pv at h
  rw [ha, Option.bind_some, if_neg hn] at h
  exact (Option.some.inj h).symm
theorem choice_more {l : List Tok} {d k : Nat} {r a : VRes} (h : pv l (d + 1) (.choice k) = some r) (ha : pv l d (.marks k 1) = some a) (hy : a.2.2 = 0 ∧ mkAt l a.2.1 [63] = true) :
    ∃ b, pv l d (.choice (a.2.1 + 1)) = some b ∧ (b.2.2 ≠ 0 → r = (0, b.2.1, b.2.2)) ∧ (b.2.2 = 0 → mkAt l b.2.1 [58] = false → r = (0, b.2.1, 1)) ∧ (b.2.2 = 0 → mkAt l b.2.1 [58] = true → ∃ c, pv l d (.choice (b.2.1 + 1)) = some c ∧ r = (if a.1 ≠ 0 then b.1 else c.1, c.2.1, c.2.2)) := by
  unfold pv at h
  rw [ha, Option.bind_some, if_pos hy] at h
  obtain ⟨b, h2, h3⟩ := bind_some h
  refine ⟨b, h2, fun hf => ?_, fun hf hm => ?_, fun hf hm => ?_⟩
  · rw [if_pos hf] at h3; exact (Option.some.inj h3).symm
  · rw [if_neg (by simp [hf]), if_neg (by rw [hm]; simp)] at h3; exact (Option.some.inj h3).symm
  · rw [if_neg (by simp [hf]), if_pos hm] at h3
    obtain ⟨c, h4, h5⟩ := bind_some h3
    exact ⟨c, h4, (Option.some.inj h5).symm⟩

set_option maxHeartbeats 16000000 in
set_option maxRecDepth 100000 in
theorem choice_walkP {l : List Tok} {d : Nat} (hl : l.length ≤ 60) (ht : ∀ t ∈ l, tokOk t = true) (IH : ∀ d', d' < d → PC l d') (k : Nat) (r : VRes) (hk : k ≤ l.length) (h : pv l d (.choice k) = some r) (rb : Nat) (vL : Value) (fp : List Nat) (w : World) (HB : RB rb vL k w) (H : (sSlice sTok).R w [vL] l fp) (hnr : rb ∉ fp) :
    Calls Try.prog 33 #[.pointer (some ⟨rb, 0, none⟩)] w (VEnd rb vL l r w) := by
  have HL := Lib.hid (fun (Q : World) (hQ : Kept [rb] w Q) => list_kept H hnr hQ)
  have HTO := Lib.hid ht
  have HB0 := Lib.hid HB
  clear H HB ht
  cases d with
  | zero => simp [pv] at h
  | succ d =>
  have HH := Lib.hid h
  unfold pv at h
  obtain ⟨a, ha1, -⟩ := bind_some h
  have HA := Lib.hid ha1
  have HSK : Hid (∀ (c : UInt8) (j : Nat) (Q : World), cutKind c = 4 → j ≤ l.length → RB rb vL j Q → Kept [rb] w Q → Calls Try.prog 44 #[.pointer (some ⟨rb, 0, none⟩), .string ⟨#[c]⟩] Q fun e w' => e = .returned (.bool (mkAt l j [c])) ∧ RB rb vL (if mkAt l j [c] = true then j + 1 else j) w' ∧ Kept [rb] Q w') :=
    fun c j Q hc hj hB hQ => impl_skip rb vL l fp j c Q hl HTO.out hc hj hB (HL.out Q hQ)
  have HCH : Hid (∀ (j : Nat) (b : VRes) (Q : World), j ≤ l.length → pv l d (.choice j) = some b → RB rb vL j Q → Kept [rb] w Q → Calls Try.prog 33 #[.pointer (some ⟨rb, 0, none⟩)] Q (VEnd rb vL l b Q)) := fun j b Q hj hb hB hQ => (IH d (by omega)).choice j b hj hb rb vL fp Q hB (HL.out Q hQ) hnr
  have C0 := Lib.hid ((IH d (by omega)).marks k 1 a hk (by omega) (by omega) ha1 rb vL fp w HB0.out (HL.out w (Kept.refl _ _)) hnr)
  rw [show ((1 : Nat) : Int) = 1 from rfl] at C0
  clear h ha1
  go_enter Try.func33, Try.ntmps33
  go_wp2_with fail
  refine C0.out.mono ?_
  rintro e w1 ⟨n, k1, rfl, hv, hn, hk1, hB1, hK1⟩
  have HV := Lib.hid hv
  have B1 := Lib.hid hB1
  have K1 := Lib.hid hK1
  have HN := Lib.hid hn
  clear hv hB1 hK1 C0 hn
  obtain ⟨a1, a2, f⟩ := a
  try dsimp only at HV
  by_cases hf : f = 0
  rotate_left
  · have HE := Lib.hid (choice_plain HH.out HA.out (fun h => hf h.1))
    have HNF := Lib.hid hf
    have g1 : (f != 0) = true := by simp [hf]
    clear hf
    go_wp2
    go_ret2
    exact vend (by rw [HE.out]) (fun h => absurd h HNF.out) HN.out hk1 B1.out K1.out
  subst hf
  obtain ⟨hv1, hv2⟩ := HV.out rfl
  subst hv1 hv2
  have S1 := Lib.hid (HSK.out 63 k1 w1 (by decide) hk1 B1.out K1.out)
  cases hq : mkAt l k1 [63]
  · have HE := Lib.hid (choice_plain HH.out HA.out (fun h => by rw [show mkAt l k1 [63] = false from hq] at h; exact absurd h.2 (by simp)))
    rw [hq] at S1
    clear hq
    go_wp2_with fail
    refine S1.out.mono ?_
    rintro e w2 ⟨rfl, hB2, hK2⟩
    replace hB2 : RB rb vL k1 w2 := hB2
    have B2 := Lib.hid hB2
    have K2 := Lib.hid (K1.out.trans hK2)
    clear hB2 hK2 S1
    go_wp2
    go_ret2
    exact vend (by rw [HE.out]) (fun _ => by rw [HE.out]; exact ⟨rfl, rfl⟩) HN.out hk1 B2.out K2.out
  obtain ⟨b, hb1, hbad, hno, hyes⟩ := choice_more HH.out HA.out ⟨rfl, hq⟩
  obtain ⟨hlt, -⟩ := mkAt_lt hq
  have HB1' := Lib.hid hb1
  have HBAD := Lib.hid hbad
  have HNO := Lib.hid hno
  have HYES := Lib.hid hyes
  rw [hq] at S1
  clear hq hb1 hbad hno hyes
  go_wp2_with fail
  refine S1.out.mono ?_
  rintro e w2 ⟨rfl, hB2, hK2⟩
  replace hB2 : RB rb vL (k1 + 1) w2 := hB2
  have K2 := Lib.hid (K1.out.trans hK2)
  have C2 := Lib.hid (HCH.out (k1 + 1) b w2 hlt HB1'.out hB2 K2.out)
  clear hB2 hK2 S1
  go_wp2_with fail
  refine C2.out.mono ?_
  rintro e w3 ⟨m, k3, rfl, hv, hm, hk3, hB3, hK3⟩
  have HV2 := Lib.hid hv
  have B3 := Lib.hid hB3
  have K3 := Lib.hid (K2.out.trans hK3)
  have HM := Lib.hid hm
  clear hv hB3 hK3 C2 hm HB1'
  obtain ⟨b1, b2, f⟩ := b
  try dsimp only at HV2 HBAD HNO HYES
  by_cases hf : f = 0
  rotate_left
  · have HE := Lib.hid (HBAD.out hf)
    have HNF := Lib.hid hf
    have g1 : (f != 0) = true := by simp [hf]
    clear hf
    go_wp2
    go_ret2
    exact vend (by rw [HE.out]) (fun h => absurd h HNF.out) (by decide) hk3 B3.out K3.out
  subst hf
  obtain ⟨hv1, hv2⟩ := HV2.out rfl
  subst hv1 hv2
  have S3 := Lib.hid (HSK.out 58 k3 w3 (by decide) hk3 B3.out K3.out)
  cases hq : mkAt l k3 [58]
  · have HE := Lib.hid (HNO.out rfl hq)
    rw [hq] at S3
    clear hq
    go_wp2_with fail
    refine S3.out.mono ?_
    rintro e w4 ⟨rfl, hB4, hK4⟩
    replace hB4 : RB rb vL k3 w4 := hB4
    have B4 := Lib.hid hB4
    have K4 := Lib.hid (K3.out.trans hK4)
    clear hB4 hK4 S3
    go_wp2
    go_ret2
    exact vend (by rw [HE.out]) (fun h => absurd h (by decide)) (by decide) hk3 B4.out K4.out
  obtain ⟨c, hc1, hr⟩ := HYES.out rfl hq
  obtain ⟨hlt3, -⟩ := mkAt_lt hq
  have HC1 := Lib.hid hc1
  have HR := Lib.hid hr
  rw [hq] at S3
  clear hq hc1 hr HYES HNO HBAD HV HV2
  go_wp2_with fail
  refine S3.out.mono ?_
  rintro e w4 ⟨rfl, hB4, hK4⟩
  replace hB4 : RB rb vL (k3 + 1) w4 := hB4
  have K4 := Lib.hid (K3.out.trans hK4)
  have C4 := Lib.hid (HCH.out (k3 + 1) c w4 hlt3 HC1.out hB4 K4.out)
  clear hB4 hK4 S3
  go_wp2_with fail
  refine C4.out.mono ?_
  rintro e w5 ⟨q, k5, rfl, hv, hq, hk5, hB5, hK5⟩
  have HV := Lib.hid hv
  have B5 := Lib.hid hB5
  have K5 := Lib.hid (K4.out.trans hK5)
  have HQ := Lib.hid hq
  clear hv hB5 hK5 C4 hq HC1
  obtain ⟨c1, c2, f⟩ := c
  try dsimp only at HV HR
  by_cases h0 : n = 0
  · have HE : Hid (r = (c1, c2, f)) := by show _ = _; rw [HR.out, if_neg (by simp [h0])]
    have g1 : (n != 0) = false := by simp [h0]
    clear h0
    go_wp2
    go_ret2
    exact vend (by rw [HE.out]) (fun h => by rw [HE.out]; exact HV.out h) HQ.out hk5 B5.out K5.out
  · have HE : Hid (r = (m, c2, f)) := by show _ = _; rw [HR.out, if_pos h0]
    have g1 : (n != 0) = true := by simp [h0]
    clear h0
    go_wp2
    go_ret2
    exact vend (by rw [HE.out]) (fun h => by rw [HE.out]; exact ⟨rfl, (HV.out h).2⟩) HM.out hk5 B5.out K5.out

theorem impl_PC {l : List Tok} (hl : l.length ≤ 60) (ht : ∀ t ∈ l, tokOk t = true) : ∀ d, PC l d := by
  intro d
  induction d using Nat.strongRecOn with
  | ind d ih => exact ⟨fun k r hk h rb vL fp w HB H hn => single_walk hl ht ih k r hk h rb vL fp w HB H hn, fun k rank r hk h1 h7 h rb vL fp w HB H hn => row_walk hl ht ih k rank r hk h1 h7 h rb vL fp w HB H hn, fun k r hk h rb vL fp w HB H hn => choice_walkP hl ht ih k r hk h rb vL fp w HB H hn⟩

set_option maxHeartbeats 16000000 in
set_option maxRecDepth 100000 in
theorem impl_ValueOf (v : Value) (l : List Tok) (fp : List Nat) (w : World) (H : (sSlice sTok).R w [v] l fp) : Calls Try.prog 14 #[v] w (ValOf (valRes l) w) := by
  have H0 := Lib.hid H
  have HV := Lib.hid (impl_TokensValid v l fp w H)
  obtain ⟨al, cl, rfl, hcl, hml, -⟩ := open_rows H
  unfold maxLen at hml
  clear H
  go_enter Try.func14, Try.ntmps14
  cases hv : toksOk l
  · have HF := Lib.hid (val_bad hv)
    rw [hv] at HV
    clear hv
    go_wp2_with fail
    refine HV.out.mono ?_
    rintro e w2 ⟨rfl, hb2⟩
    go_wp2
    go_ret2
    exact val_ret HF.out hb2
  have hl60 := (toksOk_facts hv).1
  have HTO : Hid (∀ t ∈ l, tokOk t = true) := fun t ht => by obtain ⟨k, hk, rfl⟩ := List.getElem_of_mem ht; exact (toksOk_facts hv).2 k hk
  obtain ⟨⟨n, e, f⟩, hp⟩ := pv_total l (4 * l.length + 4) (.choice 0) (Nat.zero_le _) (by show 4 * (l.length - 0) + 4 ≤ _; omega)
  have HGO := Lib.hid (val_go hv hp)
  have HLT := Lib.hid ((sSlice sTok).lt H0.out)
  have HC : Hid (∀ (rb : Nat) (Q : World), Below w.heap.size w Q → w.heap.size ≤ rb → RB rb (.slice al l.length cl) 0 Q → Calls Try.prog 33 #[.pointer (some ⟨rb, 0, none⟩)] Q (VEnd rb (.slice al l.length cl) l (n, e, f) Q)) := fun rb Q hQ hge hB => (impl_PC hl60 HTO.out (4 * l.length + 4)).choice 0 _ (Nat.zero_le _) hp rb _ fp Q hB ((sSlice sTok).below H0.out hQ) (fun h => by have := HLT.out _ h; omega)
  rw [hv] at HV
  clear hv hp
  go_wp2_with fail
  refine HV.out.mono ?_
  rintro ee w2 ⟨rfl, hb2⟩
  have ba := alloc_below' w2 (.cells #[.slice al l.length cl, .int .i64 0] 55)
  have HX : Hid (RB w2.heap.size (.slice al l.length cl) 0 (w2.alloc (.cells #[.slice al l.length cl, .int .i64 0] 55))) := heap_alloc_new w2 (.cells #[.slice al l.length cl, .int .i64 0] 55)
  have hb3 := hb2.trans (ba.mono hb2.size)
  have hge := hb2.size
  go_upto_region 4 with fail
  generalize (w2.alloc (.cells #[.slice al l.length cl, .int .i64 0] 55)) = w3 at *
  obtain ⟨rb, HRB⟩ : ∃ rb : Nat, Hid (rb = w2.heap.size) := ⟨_, Lib.hid rfl⟩
  rw [show w2.heap.size = rb from HRB.out.symm] at HX hge ⊢
  have C3 := Lib.hid (HC.out rb w3 hb3 hge HX.out)
  clear HV HC ba
  go_wp2_with fail
  refine C3.out.mono ?_
  rintro ee w4 ⟨m, k, rfl, hv, hm, hk, hB, hK⟩
  have hB4 : Below w.heap.size w w4 := hb3.trans (hK.below (fun b hb => by obtain rfl := List.mem_singleton.1 hb; exact hge) hb3.size)
  have p1 := cell_of_row w4 rb 1 _ _ _ hB
  clear C3 hB hK
  try dsimp only at hv
  by_cases hf : f = 0
  rotate_left
  · have HF : Hid (valRes l = (0, f)) := by show _ = _; rw [HGO.out, if_pos hf]
    have g1 : (f == 0) = false := by simp [hf]
    have g2 : (f != 0) = true := by simp [hf]
    clear hf
    go_wp2
    go_ret2
    exact val_ret HF.out hB4
  subst hf
  obtain ⟨rfl, rfl⟩ := hv rfl
  by_cases he : k = l.length
  · have HF : Hid (valRes l = (m, 0)) := by show _ = _; rw [HGO.out, if_neg (by simp), if_neg (by simp [he])]
    have g0 : ¬ (k : Int) < (l.length : Int) := by omega
    have g1 : ¬ k < l.length := by omega
    have g2 : decide (k < l.length) = false := decide_eq_false g1
    clear he
    go_wp2
    go_ret2
    exact val_ret HF.out hB4
  · have HF : Hid (valRes l = (0, 1)) := by show _ = _; rw [HGO.out, if_neg (by simp), if_pos he]
    have g0 : (k : Int) < (l.length : Int) := by omega
    have g1 : k < l.length := by omega
    have g2 : decide (k < l.length) = true := decide_eq_true g1
    clear he
    go_wp2
    go_ret2
    exact val_ret HF.out hB4

end Go.Proofs.Ytiaiggjfepoahaa

/- Formulas are drawn. (Made by gen_drawval.py.) -/
namespace Go.Proofs.Ytiaiggjfepoahaa
open Go.RowKit

/-- A reader's state while a region runs in which each operation takes at most C of its places. -/
def jC (C rb p0 : Nat) (w0 : World) (m : Nat) (w : World) : Prop := (∃ p, p ≤ p0 + C * m ∧ Rd w rb p) ∧ Kept [rb] w0 w
section
variable {C rb p0 m : Nat} {w0 w : World}
theorem jC.same (h : jC C rb p0 w0 m w) : jC C rb p0 w0 (m + 1) w := by
  obtain ⟨⟨p, h1, h2⟩, h3⟩ := h
  exact ⟨⟨p, by rw [Nat.mul_succ]; omega, h2⟩, h3⟩
theorem jC.alloc (h : jC C rb p0 w0 m w) (o : Obj) : jC C rb p0 w0 (m + 1) (w.alloc o) := by
  obtain ⟨⟨p, h1, h2⟩, h3⟩ := h
  have hb := (Below.refl w.heap.size w).alloc (Nat.le_refl _) o
  exact ⟨⟨p, by rw [Nat.mul_succ]; omega, h2.grow hb⟩, h3.trans (Kept.of_below hb)⟩
theorem jC.lts (h : jC C rb p0 w0 m w) : ∀ b ∈ [rb], b < w.heap.size := fun b hb => by
  have : b = rb := by simpa using hb
  subst this
  obtain ⟨⟨p, h1, h2⟩, h3⟩ := h
  exact h2.lt
theorem jC.start {rb p : Nat} {w : World} (h : Rd w rb p) : jC C rb p w 0 { w with drawn := w.drawn + 1 } :=
  ⟨⟨p, by omega, ⟨h.ex, h.hp⟩⟩, (Kept.refl [rb] w).drewN 1⟩
end
theorem jC_small {C m k : Nat} (hC : C ≤ 400) (hm : m < k) (hk : k ≤ 18) : C * m ≤ 7200 := Nat.le_trans (Nat.mul_le_mul hC (Nat.le_trans (Nat.le_of_lt hm) hk)) (by decide)
/-- Formulas of so much depth are drawn so. -/
def FormC (d C S B : Nat) : Prop := ∀ (rb p : Nat) (w : World), Rd w rb p → p ≤ B → Calls Try.prog 28 #[.pointer (some ⟨rb, 0, none⟩), .int .i64 (d : Nat)] w (Drawn rb p C S w)

set_option maxHeartbeats 4000000 in
theorem form0 : FormC 0 1 6 100000 := by
  intro rb p w H hp
  have hlt := H.lt
  have b0 := alloc_below' w (.cells #[.string ⟨#[48]⟩, .string ⟨#[49]⟩, .string ⟨#[50]⟩, .string ⟨#[49, 55]⟩, .string ⟨#[97]⟩, .string ⟨#[98]⟩, .string ⟨#[57, 57, 57, 57, 57, 57]⟩] 9)
  have HR := Lib.hid (H.grow b0)
  have HK := Lib.hid (Kept.of_below (fp := [rb]) b0)
  have HL := Lib.hid (pLits_new [⟨#[48]⟩, ⟨#[49]⟩, ⟨#[50]⟩, ⟨#[49, 55]⟩, ⟨#[97]⟩, ⟨#[98]⟩, ⟨#[57, 57, 57, 57, 57, 57]⟩] 6 [rb] w (by decide) (fun b hb => by rw [List.mem_singleton.1 hb]; exact hlt) 7 rfl)
  clear b0 H
  go_enter Try.func28, Try.ntmps28
  go_wp2_with fail
  refine (pick rb p _ _ HR.out (by omega) (by omega) (by omega)).mono ?_
  rintro e w2 ⟨r, rfl, h0, h1, hR2, hK2⟩
  obtain ⟨b, hv, hnb, hbs, hc⟩ := HL.out
  simp only [Value.slice.injEq, Option.some.injEq, Addr.mk.injEq, and_true] at hv
  obtain ⟨s, hs1, hs2⟩ := hc r.toNat (by omega)
  have g1 := (hK2.cell (p := ⟨b, r.toNat, none⟩) hbs hnb).trans hs1
  rw [← hv] at g1
  have HKF := Lib.hid (HK.out.trans hK2)
  have HRF := Lib.hid hR2
  have hr7 : r < 7 := by omega
  clear HL HK hs1 hc hv hR2 hK2
  go_wp2
  go_ret
  exact ⟨s, p + 1, rfl, hs2, by omega, HRF.out, HKF.out⟩

set_option maxHeartbeats 16000000 in
set_option maxRecDepth 100000 in
theorem form_step (d C S B : Nat) (hd : d ≤ 10) (hC1 : 1 ≤ C) (hC2 : C ≤ 400) (hS : S ≤ 300) (hB : B ≤ 90000) (HF : FormC d C S (B + 8000)) : FormC (d + 1) (20 * C) (3 * S + 10) B := by
  intro rb p w H hp
  have IH : ∀ (p : Nat) (w : World), Rd w rb p → p ≤ B + 8000 → Calls Try.prog 28 #[.pointer (some ⟨rb, 0, none⟩), .int .i64 (d : Nat)] w (Drawn rb p C S w) := fun p w h hp => HF rb p w h hp
  clear HF
  rw [show ((d + 1 : Nat) : Int) = (d : Int) + 1 from by omega]
  have hsub : IntKind.i64.wrap ((d : Int) + 1 - 1) = (d : Int) := by rw [IntWalk.i64_in _ (by omega)]; omega
  have hsub2 : (d : Int) + 1 - 1 = (d : Int) := by omega
  have hd1 : ¬ (d : Int) + 1 < 1 := by omega
  go_enter Try.func28, Try.ntmps28
  go_wp2_with fail
  refine (pick rb p _ _ H (by omega) (by omega) (by omega)).mono ?_
  rintro e w2 ⟨r, rfl, h0, h1, hR, hK⟩
  by_cases r0 : r = 0
  · subst r0
    go_wp2_with fail
    refine (IH (p + 1) _ hR (by omega)).mono ?_
    rintro e w3 ⟨s, q, rfl, hs, hq, hR3, hK3⟩
    have hadd := fun W => run_string_add_sum (P := Try.prog) W ⟨#[40]⟩ s (by have : (⟨#[40]⟩ : ByteArray).size = 1 := rfl; omega)
    have hadd2 := fun W => run_string_add_sum (P := Try.prog) W (⟨#[40]⟩ ++ s) ⟨#[41]⟩ (by rw [ByteArray.size_append]; have : (⟨#[40]⟩ : ByteArray).size = 1 := rfl; have : (⟨#[41]⟩ : ByteArray).size = 1 := rfl; omega)
    go_wp2
    go_ret
    exact ⟨_, q, rfl, by rw [ByteArray.size_append, ByteArray.size_append]; have : (⟨#[40]⟩ : ByteArray).size = 1 := rfl; have : (⟨#[41]⟩ : ByteArray).size = 1 := rfl; omega, by omega, hR3, hK.trans hK3⟩
  by_cases r1 : r = 1
  · subst r1
    go_wp2
    refine wp_region_types (P := Try.prog) (by kernel_rfl) (by kernel_rfl) (Kept [rb]) [pLits [rb] 2 1, pVal (.pointer (some ⟨rb, 0, none⟩)), pInt 2, pPtr [rb] 1, pStr 1, pVal (.pointer (some ⟨rb, 0, none⟩)), pVal (.int .i64 ((d : Int) + 1)), pVal (.int .i64 (d : Nat)), pStr S, pStr (1 + S), pStr (1 + S)] (stab_all ⟨stLits _ _, stVal _, stInt _, stPtr _, stStr _, stVal _, stVal _, stVal _, stStr _, stStr _, stStr _, trivial⟩) (jC C rb (p + 1) w2) ?start (steps_all ⟨?s0, ?s1, ?s2, ?s3, ?s4, ?s5, ?s6, ?s7, ?s8, ?s9, ?s10, trivial⟩) ?done
    case start => exact jC.start hR
    case s0 =>
      intro xs w' m hl hm hJ hlast hf ho K hK
      replace hm : m < 11 := hm
      obtain ⟨x0, x1, x2, x3, x4, x5, x6, x7, x8, x9, x10, rfl⟩ := len11 hl
      clear hlast
      clear hf ho
      simp only [fill, Act.put, List.map_cons, List.map_nil, List.setIfInBounds_toArray, List.set_cons_succ, List.set_cons_zero] at hK ⊢
      go_wp2
      exact hK _ _ (At.mk rfl (pLits_new [⟨#[33]⟩, ⟨#[45]⟩] 1 [rb] w' (by decide) hJ.lts 2 rfl)) (Kept.of_below ((Below.refl _ _).alloc (Nat.le_refl _) _)) (hJ.alloc _)
    case s1 =>
      intro xs w' m hl hm hJ hlast hf ho K hK
      replace hm : m < 11 := hm
      obtain ⟨x0, x1, x2, x3, x4, x5, x6, x7, x8, x9, x10, rfl⟩ := len11 hl
      clear hlast
      clear hf ho
      simp only [fill, Act.put, List.map_cons, List.map_nil, List.setIfInBounds_toArray, List.set_cons_succ, List.set_cons_zero] at hK ⊢
      go_wp2
      exact hK _ _ (At.mk rfl rfl) (Kept.refl _ _) hJ.same
    case s2 =>
      intro xs w' m hl hm hJ hlast hf ho K hK
      replace hm : m < 11 := hm
      obtain ⟨x0, x1, x2, x3, x4, x5, x6, x7, x8, x9, x10, rfl⟩ := len11 hl
      have f1 : pVal (.pointer (some ⟨rb, 0, none⟩)) x1 w' := hf ⟨1, .data⟩ (by simp) rfl _ rfl _ rfl
      clear hlast
      clear hf ho
      obtain rfl := f1
      obtain ⟨⟨p1, hp1, hR1⟩, hK1⟩ := hJ
      have hCm := jC_small hC2 hm (by decide)
      simp only [fill, Act.put, List.map_cons, List.map_nil, List.setIfInBounds_toArray, List.set_cons_succ, List.set_cons_zero] at hK ⊢
      go_wp2_with (go_at_call 17; refine (pick rb p1 _ _ hR1 (by omega) (by omega) (by omega)).mono ?_; rintro e w2 ⟨rr, rfl, hr0, hr1, hRq, hkq⟩)
      exact hK _ _ (At.mk rfl ⟨rr, rfl, hr0, by omega⟩) hkq ⟨⟨p1 + 1, by rw [Nat.mul_succ]; omega, hRq⟩, hK1.trans hkq⟩
    case s3 =>
      intro xs w' m hl hm hJ hlast hf ho K hK
      replace hm : m < 11 := hm
      obtain ⟨x0, x1, x2, x3, x4, x5, x6, x7, x8, x9, x10, rfl⟩ := len11 hl
      have f0 : pLits [rb] 2 1 x0 w' := hf ⟨0, .data⟩ (by simp) rfl _ rfl _ rfl
      have f2 : pInt 2 x2 w' := hf ⟨2, .data⟩ (by simp) rfl _ rfl _ rfl
      clear hlast
      clear hf ho
      obtain ⟨ba, rfl, hnea, hba, hca⟩ := f0
      obtain ⟨ri, rfl, hii, hji⟩ := f2
      obtain ⟨s, hc1, hs1⟩ := hca ri.toNat (by omega)
      simp only [fill, Act.put, List.map_cons, List.map_nil, List.setIfInBounds_toArray, List.set_cons_succ, List.set_cons_zero] at hK ⊢
      go_wp2
      exact hK _ _ (At.mk rfl ⟨ba, _, s, rfl, hnea, hba, hc1, hs1⟩) (Kept.refl _ _) hJ.same
    case s4 =>
      intro xs w' m hl hm hJ hlast hf ho K hK
      replace hm : m < 11 := hm
      obtain ⟨x0, x1, x2, x3, x4, x5, x6, x7, x8, x9, x10, rfl⟩ := len11 hl
      have f3 : pPtr [rb] 1 x3 w' := hf ⟨3, .data⟩ (by simp) rfl _ rfl _ rfl
      clear hlast
      clear hf ho
      obtain ⟨ba, ja, sa, rfl, hnea, hba, hca, hsa⟩ := f3
      simp only [fill, Act.put, List.map_cons, List.map_nil, List.setIfInBounds_toArray, List.set_cons_succ, List.set_cons_zero] at hK ⊢
      go_wp2
      exact hK _ _ (At.mk rfl ⟨_, rfl, hsa⟩) (Kept.refl _ _) hJ.same
    case s5 =>
      intro xs w' m hl hm hJ hlast hf ho K hK
      replace hm : m < 11 := hm
      obtain ⟨x0, x1, x2, x3, x4, x5, x6, x7, x8, x9, x10, rfl⟩ := len11 hl
      clear hlast
      clear hf ho
      simp only [fill, Act.put, List.map_cons, List.map_nil, List.setIfInBounds_toArray, List.set_cons_succ, List.set_cons_zero] at hK ⊢
      go_wp2
      exact hK _ _ (At.mk rfl rfl) (Kept.refl _ _) hJ.same
    case s6 =>
      intro xs w' m hl hm hJ hlast hf ho K hK
      replace hm : m < 11 := hm
      obtain ⟨x0, x1, x2, x3, x4, x5, x6, x7, x8, x9, x10, rfl⟩ := len11 hl
      clear hlast
      clear hf ho
      simp only [fill, Act.put, List.map_cons, List.map_nil, List.setIfInBounds_toArray, List.set_cons_succ, List.set_cons_zero] at hK ⊢
      go_wp2
      exact hK _ _ (At.mk rfl rfl) (Kept.refl _ _) hJ.same
    case s7 =>
      intro xs w' m hl hm hJ hlast hf ho K hK
      replace hm : m < 11 := hm
      obtain ⟨x0, x1, x2, x3, x4, x5, x6, x7, x8, x9, x10, rfl⟩ := len11 hl
      have f6 : pVal (.int .i64 ((d : Int) + 1)) x6 w' := hf ⟨6, .data⟩ (by simp) rfl _ rfl _ rfl
      clear hlast
      clear hf ho
      obtain rfl := f6
      simp only [fill, Act.put, List.map_cons, List.map_nil, List.setIfInBounds_toArray, List.set_cons_succ, List.set_cons_zero] at hK ⊢
      go_wp2
      exact hK _ _ (At.mk rfl rfl) (Kept.refl _ _) hJ.same
    case s8 =>
      intro xs w' m hl hm hJ hlast hf ho K hK
      replace hm : m < 11 := hm
      obtain ⟨x0, x1, x2, x3, x4, x5, x6, x7, x8, x9, x10, rfl⟩ := len11 hl
      have f5 : pVal (.pointer (some ⟨rb, 0, none⟩)) x5 w' := hf ⟨5, .data⟩ (by simp) rfl _ rfl _ rfl
      have f7 : pVal (.int .i64 (d : Nat)) x7 w' := hf ⟨7, .data⟩ (by simp) rfl _ rfl _ rfl
      clear hlast
      clear hf ho
      obtain rfl := f5
      obtain rfl := f7
      obtain ⟨⟨p1, hp1, hR1⟩, hK1⟩ := hJ
      have hCm := jC_small hC2 hm (by decide)
      simp only [fill, Act.put, List.map_cons, List.map_nil, List.setIfInBounds_toArray, List.set_cons_succ, List.set_cons_zero] at hK ⊢
      go_wp2_with (go_at_call 28; refine (IH p1 _ hR1 (by omega)).mono ?_; rintro e w2 ⟨sf, qf, rfl, hsf, hqf, hRq, hkq⟩)
      exact hK _ _ (At.mk rfl ⟨sf, rfl, hsf⟩) hkq ⟨⟨qf, by rw [Nat.mul_succ]; omega, hRq⟩, hK1.trans hkq⟩
    case s9 =>
      intro xs w' m hl hm hJ hlast hf ho K hK
      replace hm : m < 11 := hm
      obtain ⟨x0, x1, x2, x3, x4, x5, x6, x7, x8, x9, x10, rfl⟩ := len11 hl
      have f4 : pStr 1 x4 w' := hf ⟨4, .data⟩ (by simp) rfl _ rfl _ rfl
      have f8 : pStr S x8 w' := hf ⟨8, .data⟩ (by simp) rfl _ rfl _ rfl
      clear hlast
      clear hf ho
      obtain ⟨sa, rfl, hsa⟩ := f4
      obtain ⟨sb, rfl, hsb⟩ := f8
      have hadd := fun W => run_string_add_sum (P := Try.prog) W sa sb (by omega)
      simp only [fill, Act.put, List.map_cons, List.map_nil, List.setIfInBounds_toArray, List.set_cons_succ, List.set_cons_zero] at hK ⊢
      go_wp2
      exact hK _ _ (At.mk rfl ⟨_, rfl, by rw [ByteArray.size_append]; omega⟩) (Kept.refl _ _) hJ.same
    case s10 =>
      intro xs w' m hl hm hJ hlast hf ho K hK
      replace hm : m < 11 := hm
      obtain ⟨x0, x1, x2, x3, x4, x5, x6, x7, x8, x9, x10, rfl⟩ := len11 hl
      have f9 : pStr (1 + S) x9 w' := hf ⟨9, .data⟩ (by simp) rfl _ rfl _ rfl
      clear hlast
      clear hf ho
      obtain ⟨sa, rfl, hsa⟩ := f9
      simp only [fill, Act.put, List.map_cons, List.map_nil, List.setIfInBounds_toArray, List.set_cons_succ, List.set_cons_zero] at hK ⊢
      go_wp2
      exact hK _ _ (At.mk rfl ⟨_, rfl, hsa⟩) (Kept.refl _ _) hJ.same
    case done =>
      intro xs w' hl hf hJ
      obtain ⟨x0, x1, x2, x3, x4, x5, x6, x7, x8, x9, x10, rfl⟩ := len11 hl
      have f10 : pStr (1 + S) x10 w' := hf 10 _ rfl _ rfl
      obtain ⟨sz, rfl, hsz⟩ := f10
      clear hf
      obtain ⟨⟨p1, hp1, hR1⟩, hK1⟩ := hJ
      replace hp1 : p1 ≤ (p + 1) + C * 11 := hp1
      simp only [fill, Act.put, List.map_cons, List.map_nil, List.setIfInBounds_toArray, List.set_cons_succ, List.set_cons_zero]
      go_wp2
      go_ret
      exact ⟨sz, p1, rfl, by omega, by omega, hR1, hK.trans hK1⟩
  by_cases r2 : r = 2
  · subst r2
    go_wp2_with fail
    refine (IH (p + 1) _ hR (by omega)).mono ?_
    rintro e w3 ⟨s, q, rfl, hs, hq, hR3, hK3⟩
    have hz1 : (⟨#[32, 63, 32]⟩ : ByteArray).size = 3 := rfl
    have hz2 : (⟨#[32, 58, 32]⟩ : ByteArray).size = 3 := rfl
    have hadd := fun W => run_string_add_sum (P := Try.prog) W s ⟨#[32, 63, 32]⟩ (by omega)
    go_wp2_with fail
    refine (IH q _ hR3 (by omega)).mono ?_
    rintro e w4 ⟨s2, q2, rfl, hs2, hq2, hR4, hK4⟩
    have hadd2 := fun W => run_string_add_sum (P := Try.prog) W (s ++ ⟨#[32, 63, 32]⟩) s2 (by rw [ByteArray.size_append]; omega)
    have hadd3 := fun W => run_string_add_sum (P := Try.prog) W (s ++ ⟨#[32, 63, 32]⟩ ++ s2) ⟨#[32, 58, 32]⟩ (by rw [ByteArray.size_append, ByteArray.size_append]; omega)
    go_wp2_with fail
    refine (IH q2 _ hR4 (by omega)).mono ?_
    rintro e w5 ⟨s3, q3, rfl, hs3, hq3, hR5, hK5⟩
    have hadd4 := fun W => run_string_add_sum (P := Try.prog) W (s ++ ⟨#[32, 63, 32]⟩ ++ s2 ++ ⟨#[32, 58, 32]⟩) s3 (by rw [ByteArray.size_append, ByteArray.size_append, ByteArray.size_append]; omega)
    go_wp2
    go_ret
    exact ⟨_, q3, rfl, by rw [ByteArray.size_append, ByteArray.size_append, ByteArray.size_append, ByteArray.size_append]; omega, by omega, hR5, ((hK.trans hK3).trans hK4).trans hK5⟩
  have e0 : (r == 0) = false := by simp [r0]
  have e1 : (r == 1) = false := by simp [r1]
  have e2 : (r == 2) = false := by simp [r2]
  clear r0 r1 r2
  go_wp2

  refine wp_region_types (P := Try.prog) (by kernel_rfl) (by kernel_rfl) (Kept [rb]) [pVal (.pointer (some ⟨rb, 0, none⟩)), pVal (.int .i64 ((d : Int) + 1)), pVal (.int .i64 (d : Nat)), pStr S, pStr (S + 1), pLits [rb] 13 2, pVal (.pointer (some ⟨rb, 0, none⟩)), pInt 13, pPtr [rb] 2, pStr 2, pStr ((S + 1) + 2), pStr (((S + 1) + 2) + 1), pVal (.pointer (some ⟨rb, 0, none⟩)), pVal (.int .i64 ((d : Int) + 1)), pVal (.int .i64 (d : Nat)), pStr S, pStr ((((S + 1) + 2) + 1) + S), pStr ((((S + 1) + 2) + 1) + S)] (stab_all ⟨stVal _, stVal _, stVal _, stStr _, stStr _, stLits _ _, stVal _, stInt _, stPtr _, stStr _, stStr _, stStr _, stVal _, stVal _, stVal _, stStr _, stStr _, stStr _, trivial⟩) (jC C rb (p + 1) w2) ?start (steps_all ⟨?s0, ?s1, ?s2, ?s3, ?s4, ?s5, ?s6, ?s7, ?s8, ?s9, ?s10, ?s11, ?s12, ?s13, ?s14, ?s15, ?s16, ?s17, trivial⟩) ?done
  case start => exact jC.start hR
  case s0 =>
    intro xs w' m hl hm hJ hlast hf ho K hK
    replace hm : m < 18 := hm
    obtain ⟨x0, x1, x2, x3, x4, x5, x6, x7, x8, x9, x10, x11, x12, x13, x14, x15, x16, x17, rfl⟩ := len18 hl
    clear hlast
    clear hf ho
    simp only [fill, Act.put, List.map_cons, List.map_nil, List.setIfInBounds_toArray, List.set_cons_succ, List.set_cons_zero] at hK ⊢
    go_wp2
    exact hK _ _ (At.mk rfl rfl) (Kept.refl _ _) hJ.same
  case s1 =>
    intro xs w' m hl hm hJ hlast hf ho K hK
    replace hm : m < 18 := hm
    obtain ⟨x0, x1, x2, x3, x4, x5, x6, x7, x8, x9, x10, x11, x12, x13, x14, x15, x16, x17, rfl⟩ := len18 hl
    clear hlast
    clear hf ho
    simp only [fill, Act.put, List.map_cons, List.map_nil, List.setIfInBounds_toArray, List.set_cons_succ, List.set_cons_zero] at hK ⊢
    go_wp2
    exact hK _ _ (At.mk rfl rfl) (Kept.refl _ _) hJ.same
  case s2 =>
    intro xs w' m hl hm hJ hlast hf ho K hK
    replace hm : m < 18 := hm
    obtain ⟨x0, x1, x2, x3, x4, x5, x6, x7, x8, x9, x10, x11, x12, x13, x14, x15, x16, x17, rfl⟩ := len18 hl
    have f1 : pVal (.int .i64 ((d : Int) + 1)) x1 w' := hf ⟨1, .data⟩ (by simp) rfl _ rfl _ rfl
    clear hlast
    clear hf ho
    obtain rfl := f1
    simp only [fill, Act.put, List.map_cons, List.map_nil, List.setIfInBounds_toArray, List.set_cons_succ, List.set_cons_zero] at hK ⊢
    go_wp2
    exact hK _ _ (At.mk rfl rfl) (Kept.refl _ _) hJ.same
  case s3 =>
    intro xs w' m hl hm hJ hlast hf ho K hK
    replace hm : m < 18 := hm
    obtain ⟨x0, x1, x2, x3, x4, x5, x6, x7, x8, x9, x10, x11, x12, x13, x14, x15, x16, x17, rfl⟩ := len18 hl
    have f0 : pVal (.pointer (some ⟨rb, 0, none⟩)) x0 w' := hf ⟨0, .data⟩ (by simp) rfl _ rfl _ rfl
    have f2 : pVal (.int .i64 (d : Nat)) x2 w' := hf ⟨2, .data⟩ (by simp) rfl _ rfl _ rfl
    clear hlast
    clear hf ho
    obtain rfl := f0
    obtain rfl := f2
    obtain ⟨⟨p1, hp1, hR1⟩, hK1⟩ := hJ
    have hCm := jC_small hC2 hm (by decide)
    simp only [fill, Act.put, List.map_cons, List.map_nil, List.setIfInBounds_toArray, List.set_cons_succ, List.set_cons_zero] at hK ⊢
    go_wp2_with (go_at_call 28; refine (IH p1 _ hR1 (by omega)).mono ?_; rintro e w2 ⟨sf, qf, rfl, hsf, hqf, hRq, hkq⟩)
    exact hK _ _ (At.mk rfl ⟨sf, rfl, hsf⟩) hkq ⟨⟨qf, by rw [Nat.mul_succ]; omega, hRq⟩, hK1.trans hkq⟩
  case s4 =>
    intro xs w' m hl hm hJ hlast hf ho K hK
    replace hm : m < 18 := hm
    obtain ⟨x0, x1, x2, x3, x4, x5, x6, x7, x8, x9, x10, x11, x12, x13, x14, x15, x16, x17, rfl⟩ := len18 hl
    have f3 : pStr S x3 w' := hf ⟨3, .data⟩ (by simp) rfl _ rfl _ rfl
    clear hlast
    clear hf ho
    obtain ⟨sa, rfl, hsa⟩ := f3
    have hadd := fun W => run_string_add_sum (P := Try.prog) W sa ⟨#[32]⟩ (by have hz : (⟨#[32]⟩ : ByteArray).size = 1 := rfl; omega)
    simp only [fill, Act.put, List.map_cons, List.map_nil, List.setIfInBounds_toArray, List.set_cons_succ, List.set_cons_zero] at hK ⊢
    go_wp2
    exact hK _ _ (At.mk rfl ⟨_, rfl, by rw [ByteArray.size_append]; have hz : (⟨#[32]⟩ : ByteArray).size = 1 := rfl; omega⟩) (Kept.refl _ _) hJ.same
  case s5 =>
    intro xs w' m hl hm hJ hlast hf ho K hK
    replace hm : m < 18 := hm
    obtain ⟨x0, x1, x2, x3, x4, x5, x6, x7, x8, x9, x10, x11, x12, x13, x14, x15, x16, x17, rfl⟩ := len18 hl
    clear hlast
    clear hf ho
    simp only [fill, Act.put, List.map_cons, List.map_nil, List.setIfInBounds_toArray, List.set_cons_succ, List.set_cons_zero] at hK ⊢
    go_wp2
    exact hK _ _ (At.mk rfl (pLits_new [⟨#[43]⟩, ⟨#[45]⟩, ⟨#[42]⟩, ⟨#[47]⟩, ⟨#[37]⟩, ⟨#[61, 61]⟩, ⟨#[33, 61]⟩, ⟨#[60]⟩, ⟨#[62]⟩, ⟨#[60, 61]⟩, ⟨#[62, 61]⟩, ⟨#[38, 38]⟩, ⟨#[124, 124]⟩] 2 [rb] w' (by decide) hJ.lts 13 rfl)) (Kept.of_below ((Below.refl _ _).alloc (Nat.le_refl _) _)) (hJ.alloc _)
  case s6 =>
    intro xs w' m hl hm hJ hlast hf ho K hK
    replace hm : m < 18 := hm
    obtain ⟨x0, x1, x2, x3, x4, x5, x6, x7, x8, x9, x10, x11, x12, x13, x14, x15, x16, x17, rfl⟩ := len18 hl
    clear hlast
    clear hf ho
    simp only [fill, Act.put, List.map_cons, List.map_nil, List.setIfInBounds_toArray, List.set_cons_succ, List.set_cons_zero] at hK ⊢
    go_wp2
    exact hK _ _ (At.mk rfl rfl) (Kept.refl _ _) hJ.same
  case s7 =>
    intro xs w' m hl hm hJ hlast hf ho K hK
    replace hm : m < 18 := hm
    obtain ⟨x0, x1, x2, x3, x4, x5, x6, x7, x8, x9, x10, x11, x12, x13, x14, x15, x16, x17, rfl⟩ := len18 hl
    have f6 : pVal (.pointer (some ⟨rb, 0, none⟩)) x6 w' := hf ⟨6, .data⟩ (by simp) rfl _ rfl _ rfl
    clear hlast
    clear hf ho
    obtain rfl := f6
    obtain ⟨⟨p1, hp1, hR1⟩, hK1⟩ := hJ
    have hCm := jC_small hC2 hm (by decide)
    simp only [fill, Act.put, List.map_cons, List.map_nil, List.setIfInBounds_toArray, List.set_cons_succ, List.set_cons_zero] at hK ⊢
    go_wp2_with (go_at_call 17; refine (pick rb p1 _ _ hR1 (by omega) (by omega) (by omega)).mono ?_; rintro e w2 ⟨rr, rfl, hr0, hr1, hRq, hkq⟩)
    exact hK _ _ (At.mk rfl ⟨rr, rfl, hr0, by omega⟩) hkq ⟨⟨p1 + 1, by rw [Nat.mul_succ]; omega, hRq⟩, hK1.trans hkq⟩
  case s8 =>
    intro xs w' m hl hm hJ hlast hf ho K hK
    replace hm : m < 18 := hm
    obtain ⟨x0, x1, x2, x3, x4, x5, x6, x7, x8, x9, x10, x11, x12, x13, x14, x15, x16, x17, rfl⟩ := len18 hl
    have f5 : pLits [rb] 13 2 x5 w' := hf ⟨5, .data⟩ (by simp) rfl _ rfl _ rfl
    have f7 : pInt 13 x7 w' := hf ⟨7, .data⟩ (by simp) rfl _ rfl _ rfl
    clear hlast
    clear hf ho
    obtain ⟨ba, rfl, hnea, hba, hca⟩ := f5
    obtain ⟨ri, rfl, hii, hji⟩ := f7
    obtain ⟨s, hc1, hs1⟩ := hca ri.toNat (by omega)
    simp only [fill, Act.put, List.map_cons, List.map_nil, List.setIfInBounds_toArray, List.set_cons_succ, List.set_cons_zero] at hK ⊢
    go_wp2
    exact hK _ _ (At.mk rfl ⟨ba, _, s, rfl, hnea, hba, hc1, hs1⟩) (Kept.refl _ _) hJ.same
  case s9 =>
    intro xs w' m hl hm hJ hlast hf ho K hK
    replace hm : m < 18 := hm
    obtain ⟨x0, x1, x2, x3, x4, x5, x6, x7, x8, x9, x10, x11, x12, x13, x14, x15, x16, x17, rfl⟩ := len18 hl
    have f8 : pPtr [rb] 2 x8 w' := hf ⟨8, .data⟩ (by simp) rfl _ rfl _ rfl
    clear hlast
    clear hf ho
    obtain ⟨ba, ja, sa, rfl, hnea, hba, hca, hsa⟩ := f8
    simp only [fill, Act.put, List.map_cons, List.map_nil, List.setIfInBounds_toArray, List.set_cons_succ, List.set_cons_zero] at hK ⊢
    go_wp2
    exact hK _ _ (At.mk rfl ⟨_, rfl, hsa⟩) (Kept.refl _ _) hJ.same
  case s10 =>
    intro xs w' m hl hm hJ hlast hf ho K hK
    replace hm : m < 18 := hm
    obtain ⟨x0, x1, x2, x3, x4, x5, x6, x7, x8, x9, x10, x11, x12, x13, x14, x15, x16, x17, rfl⟩ := len18 hl
    have f4 : pStr (S + 1) x4 w' := hf ⟨4, .data⟩ (by simp) rfl _ rfl _ rfl
    have f9 : pStr 2 x9 w' := hf ⟨9, .data⟩ (by simp) rfl _ rfl _ rfl
    clear hlast
    clear hf ho
    obtain ⟨sa, rfl, hsa⟩ := f4
    obtain ⟨sb, rfl, hsb⟩ := f9
    have hadd := fun W => run_string_add_sum (P := Try.prog) W sa sb (by omega)
    simp only [fill, Act.put, List.map_cons, List.map_nil, List.setIfInBounds_toArray, List.set_cons_succ, List.set_cons_zero] at hK ⊢
    go_wp2
    exact hK _ _ (At.mk rfl ⟨_, rfl, by rw [ByteArray.size_append]; omega⟩) (Kept.refl _ _) hJ.same
  case s11 =>
    intro xs w' m hl hm hJ hlast hf ho K hK
    replace hm : m < 18 := hm
    obtain ⟨x0, x1, x2, x3, x4, x5, x6, x7, x8, x9, x10, x11, x12, x13, x14, x15, x16, x17, rfl⟩ := len18 hl
    have f10 : pStr ((S + 1) + 2) x10 w' := hf ⟨10, .data⟩ (by simp) rfl _ rfl _ rfl
    clear hlast
    clear hf ho
    obtain ⟨sa, rfl, hsa⟩ := f10
    have hadd := fun W => run_string_add_sum (P := Try.prog) W sa ⟨#[32]⟩ (by have hz : (⟨#[32]⟩ : ByteArray).size = 1 := rfl; omega)
    simp only [fill, Act.put, List.map_cons, List.map_nil, List.setIfInBounds_toArray, List.set_cons_succ, List.set_cons_zero] at hK ⊢
    go_wp2
    exact hK _ _ (At.mk rfl ⟨_, rfl, by rw [ByteArray.size_append]; have hz : (⟨#[32]⟩ : ByteArray).size = 1 := rfl; omega⟩) (Kept.refl _ _) hJ.same
  case s12 =>
    intro xs w' m hl hm hJ hlast hf ho K hK
    replace hm : m < 18 := hm
    obtain ⟨x0, x1, x2, x3, x4, x5, x6, x7, x8, x9, x10, x11, x12, x13, x14, x15, x16, x17, rfl⟩ := len18 hl
    clear hlast
    clear hf ho
    simp only [fill, Act.put, List.map_cons, List.map_nil, List.setIfInBounds_toArray, List.set_cons_succ, List.set_cons_zero] at hK ⊢
    go_wp2
    exact hK _ _ (At.mk rfl rfl) (Kept.refl _ _) hJ.same
  case s13 =>
    intro xs w' m hl hm hJ hlast hf ho K hK
    replace hm : m < 18 := hm
    obtain ⟨x0, x1, x2, x3, x4, x5, x6, x7, x8, x9, x10, x11, x12, x13, x14, x15, x16, x17, rfl⟩ := len18 hl
    clear hlast
    clear hf ho
    simp only [fill, Act.put, List.map_cons, List.map_nil, List.setIfInBounds_toArray, List.set_cons_succ, List.set_cons_zero] at hK ⊢
    go_wp2
    exact hK _ _ (At.mk rfl rfl) (Kept.refl _ _) hJ.same
  case s14 =>
    intro xs w' m hl hm hJ hlast hf ho K hK
    replace hm : m < 18 := hm
    obtain ⟨x0, x1, x2, x3, x4, x5, x6, x7, x8, x9, x10, x11, x12, x13, x14, x15, x16, x17, rfl⟩ := len18 hl
    have f13 : pVal (.int .i64 ((d : Int) + 1)) x13 w' := hf ⟨13, .data⟩ (by simp) rfl _ rfl _ rfl
    clear hlast
    clear hf ho
    obtain rfl := f13
    simp only [fill, Act.put, List.map_cons, List.map_nil, List.setIfInBounds_toArray, List.set_cons_succ, List.set_cons_zero] at hK ⊢
    go_wp2
    exact hK _ _ (At.mk rfl rfl) (Kept.refl _ _) hJ.same
  case s15 =>
    intro xs w' m hl hm hJ hlast hf ho K hK
    replace hm : m < 18 := hm
    obtain ⟨x0, x1, x2, x3, x4, x5, x6, x7, x8, x9, x10, x11, x12, x13, x14, x15, x16, x17, rfl⟩ := len18 hl
    have f12 : pVal (.pointer (some ⟨rb, 0, none⟩)) x12 w' := hf ⟨12, .data⟩ (by simp) rfl _ rfl _ rfl
    have f14 : pVal (.int .i64 (d : Nat)) x14 w' := hf ⟨14, .data⟩ (by simp) rfl _ rfl _ rfl
    clear hlast
    clear hf ho
    obtain rfl := f12
    obtain rfl := f14
    obtain ⟨⟨p1, hp1, hR1⟩, hK1⟩ := hJ
    have hCm := jC_small hC2 hm (by decide)
    simp only [fill, Act.put, List.map_cons, List.map_nil, List.setIfInBounds_toArray, List.set_cons_succ, List.set_cons_zero] at hK ⊢
    go_wp2_with (go_at_call 28; refine (IH p1 _ hR1 (by omega)).mono ?_; rintro e w2 ⟨sf, qf, rfl, hsf, hqf, hRq, hkq⟩)
    exact hK _ _ (At.mk rfl ⟨sf, rfl, hsf⟩) hkq ⟨⟨qf, by rw [Nat.mul_succ]; omega, hRq⟩, hK1.trans hkq⟩
  case s16 =>
    intro xs w' m hl hm hJ hlast hf ho K hK
    replace hm : m < 18 := hm
    obtain ⟨x0, x1, x2, x3, x4, x5, x6, x7, x8, x9, x10, x11, x12, x13, x14, x15, x16, x17, rfl⟩ := len18 hl
    have f11 : pStr (((S + 1) + 2) + 1) x11 w' := hf ⟨11, .data⟩ (by simp) rfl _ rfl _ rfl
    have f15 : pStr S x15 w' := hf ⟨15, .data⟩ (by simp) rfl _ rfl _ rfl
    clear hlast
    clear hf ho
    obtain ⟨sa, rfl, hsa⟩ := f11
    obtain ⟨sb, rfl, hsb⟩ := f15
    have hadd := fun W => run_string_add_sum (P := Try.prog) W sa sb (by omega)
    simp only [fill, Act.put, List.map_cons, List.map_nil, List.setIfInBounds_toArray, List.set_cons_succ, List.set_cons_zero] at hK ⊢
    go_wp2
    exact hK _ _ (At.mk rfl ⟨_, rfl, by rw [ByteArray.size_append]; omega⟩) (Kept.refl _ _) hJ.same
  case s17 =>
    intro xs w' m hl hm hJ hlast hf ho K hK
    replace hm : m < 18 := hm
    obtain ⟨x0, x1, x2, x3, x4, x5, x6, x7, x8, x9, x10, x11, x12, x13, x14, x15, x16, x17, rfl⟩ := len18 hl
    have f16 : pStr ((((S + 1) + 2) + 1) + S) x16 w' := hf ⟨16, .data⟩ (by simp) rfl _ rfl _ rfl
    clear hlast
    clear hf ho
    obtain ⟨sa, rfl, hsa⟩ := f16
    simp only [fill, Act.put, List.map_cons, List.map_nil, List.setIfInBounds_toArray, List.set_cons_succ, List.set_cons_zero] at hK ⊢
    go_wp2
    exact hK _ _ (At.mk rfl ⟨_, rfl, hsa⟩) (Kept.refl _ _) hJ.same
  case done =>
    intro xs w' hl hf hJ
    obtain ⟨x0, x1, x2, x3, x4, x5, x6, x7, x8, x9, x10, x11, x12, x13, x14, x15, x16, x17, rfl⟩ := len18 hl
    have f17 : pStr ((((S + 1) + 2) + 1) + S) x17 w' := hf 17 _ rfl _ rfl
    obtain ⟨sz, rfl, hsz⟩ := f17
    clear hf
    obtain ⟨⟨p1, hp1, hR1⟩, hK1⟩ := hJ
    replace hp1 : p1 ≤ (p + 1) + C * 18 := hp1
    simp only [fill, Act.put, List.map_cons, List.map_nil, List.setIfInBounds_toArray, List.set_cons_succ, List.set_cons_zero]
    go_wp2
    go_ret
    exact ⟨sz, p1, rfl, by omega, by omega, hR1, hK.trans hK1⟩

theorem l20Formula (rb p : Nat) (d : Nat) (w : World) (H : Rd w rb p) (hd : d ≤ 3) (hp : p ≤ 60000) : Calls Try.prog 28 #[.pointer (some ⟨rb, 0, none⟩), .int .i64 (d : Nat)] w (Drawn rb p 8000 500 w) := by
  have f0 : FormC 0 1 6 98000 := fun rb p w h hp => form0 rb p w h (by omega)
  have f1 := form_step 0 1 6 90000 (by omega) (by omega) (by omega) (by omega) (by omega) f0
  have f1' : FormC 1 20 28 88000 := fun rb p w h hp => f1 rb p w h (by omega)
  have f2 := form_step 1 20 28 80000 (by omega) (by omega) (by omega) (by omega) (by omega) f1'
  have f2' : FormC 2 400 94 78000 := fun rb p w h hp => f2 rb p w h (by omega)
  have f3 := form_step 2 400 94 70000 (by omega) (by omega) (by omega) (by omega) (by omega) f2'
  have wide : ∀ (C S : Nat), C ≤ 8000 → S ≤ 500 → ∀ e w', Drawn rb p C S w e w' → Drawn rb p 8000 500 w e w' := fun C S h1 h2 e w' h => by
    obtain ⟨s, q, h3, h4, h5, h6, h7⟩ := h
    exact ⟨s, q, h3, by omega, by omega, h6, h7⟩
  match d, hd with
  | 0, _ => exact (f0 rb p w H (by omega)).mono fun e w' h => wide _ _ (by omega) (by omega) e w' h
  | 1, _ => exact (f1 rb p w H (by omega)).mono fun e w' h => wide _ _ (by omega) (by omega) e w' h
  | 2, _ => exact (f2 rb p w H (by omega)).mono fun e w' h => wide _ _ (by omega) (by omega) e w' h
  | 3, _ => exact (f3 rb p w H (by omega)).mono fun e w' h => wide _ _ (by omega) (by omega) e w' h


end Go.Proofs.Ytiaiggjfepoahaa

/- Values and marks are drawn. (Made by gen_drawv3.py.) -/
namespace Go.Proofs.Ytiaiggjfepoahaa
open Go.RowKit

theorem vl_num {r : Int} (h0 : 0 ≤ r) (h1 : r < 9) : ∃ k : Nat, k < 6 ∧ (#[.int .i64 0, .int .i64 0, .int .i64 0, .int .i64 0, .int .i64 1, .int .i64 2, .int .i64 3, .int .i64 4, .int .i64 5] : Array Value)[r.toNat]? = some (.int .i64 (k : Int)) := by
  rcases (show r = 0 ∨ r = 1 ∨ r = 2 ∨ r = 3 ∨ r = 4 ∨ r = 5 ∨ r = 6 ∨ r = 7 ∨ r = 8 by omega) with rfl | rfl | rfl | rfl | rfl | rfl | rfl | rfl | rfl
  · exact ⟨0, by decide, rfl⟩
  · exact ⟨0, by decide, rfl⟩
  · exact ⟨0, by decide, rfl⟩
  · exact ⟨0, by decide, rfl⟩
  · exact ⟨1, by decide, rfl⟩
  · exact ⟨2, by decide, rfl⟩
  · exact ⟨3, by decide, rfl⟩
  · exact ⟨4, by decide, rfl⟩
  · exact ⟨5, by decide, rfl⟩
def vRng (n : Int) : Prop := -1000000 ≤ n ∧ n ≤ 1000001
theorem vl_at {a b : Int} (ha : vRng a) (hb : vRng b) {k : Nat} (h : k < 6) : ∃ n : Int, vRng n ∧ (#[.int .i64 a, .int .i64 b, .int .i64 1000000, .int .i64 (-1000000), .int .i64 1000001, .int .i64 0] : Array Value)[k]? = some (.int .i64 n) := by
  rcases (show k = 0 ∨ k = 1 ∨ k = 2 ∨ k = 3 ∨ k = 4 ∨ k = 5 by omega) with rfl | rfl | rfl | rfl | rfl | rfl
  · exact ⟨a, ha, rfl⟩
  · exact ⟨b, hb, rfl⟩
  · exact ⟨_, ⟨by decide, by decide⟩, rfl⟩
  · exact ⟨_, ⟨by decide, by decide⟩, rfl⟩
  · exact ⟨_, ⟨by decide, by decide⟩, rfl⟩
  · exact ⟨_, ⟨by decide, by decide⟩, rfl⟩
def DrawnV (rb p : Nat) (w : World) (e : Ending) (w' : World) : Prop := ∃ (n : Int) (q : Nat), e = .returned (.int .i64 n) ∧ vRng n ∧ q ≤ p + 3 ∧ Rd w' rb q ∧ Kept [rb] w w'

set_option maxHeartbeats 4000000 in
theorem l20Value (rb p : Nat) (w : World) (H : Rd w rb p) (hp : p ≤ 100000) :
    Calls Try.prog 18 #[.pointer (some ⟨rb, 0, none⟩)] w (DrawnV rb p w) := by
  go_enter Try.func18, Try.ntmps18
  go_wp2_with fail
  refine (pick rb p _ _ H (by omega) (by omega) (by omega)).mono ?_
  rintro e w1 ⟨r1, rfl, h10, h11, hR1, hK1⟩
  have h1a : 0 ≤ r1 ∧ r1 < 20 := by omega
  clear h10 h11
  go_wp2_with fail
  refine (pick rb (p + 1) _ _ hR1 (by omega) (by omega) (by omega)).mono ?_
  rintro e w2 ⟨r2, rfl, h20, h21, hR2, hK2⟩
  have h2a : 0 ≤ r2 ∧ r2 < 256 := by omega
  have hlt := hR2.lt
  have hw1 : IntKind.i64.wrap (r1 - 10) = r1 - 10 := IntWalk.i64_in _ (by omega)
  have hw2 : IntKind.i64.wrap (r2 * 3000) = r2 * 3000 := IntWalk.i64_in _ (by omega)
  obtain ⟨a, HA⟩ : ∃ a : Int, Hid (a = r1 - 10) := ⟨_, Lib.hid rfl⟩
  obtain ⟨b, HB⟩ : ∃ b : Int, Hid (b = r2 * 3000) := ⟨_, Lib.hid rfl⟩
  have b1 := alloc_below' w2 (.cells #[.int .i64 (r1 - 10), .int .i64 (r2 * 3000), .int .i64 1000000, .int .i64 (-1000000), .int .i64 1000001, .int .i64 0] 3)
  have b2 := b1.trans ((alloc_below' (w2.alloc (.cells #[.int .i64 (r1 - 10), .int .i64 (r2 * 3000), .int .i64 1000000, .int .i64 (-1000000), .int .i64 1000001, .int .i64 0] 3)) (.cells #[.int .i64 0, .int .i64 0, .int .i64 0, .int .i64 0, .int .i64 1, .int .i64 2, .int .i64 3, .int .i64 4, .int .i64 5] 3)).mono b1.size)
  have HX := Lib.hid (alloc2_blk w2 #[.int .i64 (r1 - 10), .int .i64 (r2 * 3000), .int .i64 1000000, .int .i64 (-1000000), .int .i64 1000001, .int .i64 0] #[.int .i64 0, .int .i64 0, .int .i64 0, .int .i64 0, .int .i64 1, .int .i64 2, .int .i64 3, .int .i64 4, .int .i64 5] 3 3)
  have HR := Lib.hid (hR2.grow b2)
  have HK := Lib.hid ((hK1.trans hK2).trans (Kept.of_below (fp := [rb]) b2))
  clear b1 b2 hR1 hR2 hK1 hK2
  go_wp2_with fail
  refine (pick rb (p + 1 + 1) _ _ HR.out (by omega) (by omega) (by omega)).mono ?_
  rintro e w4 ⟨r, rfl, h0, h1, hR4, hK4⟩
  obtain ⟨k, hk, hc⟩ := vl_num h0 (show r < 9 by omega)
  obtain ⟨n, hn, hc2⟩ := vl_at (a := r1 - 10) (b := r2 * 3000) ⟨by omega, by omega⟩ ⟨by omega, by omega⟩ hk
  have g1 : w4.cell? ⟨w2.heap.size + 1, r.toNat, none⟩ = some (.int .i64 (k : Int)) := (cell_of_row _ _ _ _ _ _ (blkKept HX.out.2 hK4 (by omega))).trans hc
  have g0 : w4.cell? ⟨w2.heap.size, k, none⟩ = some (.int .i64 n) := (cell_of_row _ _ _ _ _ _ (blkKept HX.out.1 hK4 (by omega))).trans hc2
  have HKF := Lib.hid (HK.out.trans hK4)
  have HRF := Lib.hid hR4
  have hk1 : (0 : Int) ≤ (k : Int) := by omega
  have hk2 : (k : Int) < 6 := by omega
  have hr9 : r < 9 := by omega
  clear HX HR HK hK4 hR4 hc hc2 hw1 hw2
  go_wp2
  go_ret
  exact ⟨n, p + 1 + 1 + 1, rfl, hn, by omega, HRF.out, HKF.out⟩

def am_texts : List ByteArray := [⟨#[43]⟩, ⟨#[45]⟩, ⟨#[42]⟩, ⟨#[47]⟩, ⟨#[37]⟩, ⟨#[61, 61]⟩, ⟨#[33, 61]⟩, ⟨#[60]⟩, ⟨#[62]⟩, ⟨#[60, 61]⟩, ⟨#[62, 61]⟩, ⟨#[38, 38]⟩, ⟨#[124, 124]⟩, ⟨#[63]⟩, ⟨#[]⟩, ⟨#[33]⟩]
theorem am_texts_size : ∀ s ∈ am_texts, s.size ≤ 2 := by decide

set_option maxHeartbeats 8000000 in
set_option maxRecDepth 100000 in
theorem DrawApplyMark (v : Value) (l : List UInt8) (fp : List Nat) (w : World) (H : (sSlice sByte).R w [v] l fp) :
    Calls Try.prog 6 #[v] w fun e w' => ∃ (s : ByteArray) (a b : Int), e = .returned (.tuple #[.string s, .int .i64 a, .int .i64 b]) ∧ s.size ≤ 2 ∧ vRng a ∧ vRng b ∧ Below w.heap.size w w' := by
  go_enter Try.func6, Try.ntmps6
  go_wp2_with fail
  refine (l20Open _ l fp _ H).mono ?_
  rintro e w1 ⟨rb, rfl, hrb, hR, hB⟩
  have hzl := alloc_below' w1 (.cells #[.string ⟨#[43]⟩, .string ⟨#[45]⟩, .string ⟨#[42]⟩, .string ⟨#[47]⟩, .string ⟨#[37]⟩, .string ⟨#[61, 61]⟩, .string ⟨#[33, 61]⟩, .string ⟨#[60]⟩, .string ⟨#[62]⟩, .string ⟨#[60, 61]⟩, .string ⟨#[62, 61]⟩, .string ⟨#[38, 38]⟩, .string ⟨#[124, 124]⟩, .string ⟨#[63]⟩, .string ⟨#[]⟩, .string ⟨#[33]⟩] 9)
  have HR1 := Lib.hid (hR.grow hzl)
  have HB1 := Lib.hid (hB.trans (hzl.mono hB.size))
  have hlt := hR.lt
  clear hzl hB hR
  go_wp2_with fail
  refine (pick rb 0 _ _ HR1.out (by omega) (by omega) (by omega)).mono ?_
  rintro e w2 ⟨r, rfl, h0, h1, hR2, hK2⟩
  obtain ⟨s0, hs0, hcs⟩ := lit_pick am_texts 2 am_texts_size h0 (by show r < 16; omega) hlt hK2
  have HB2 := Lib.hid (kept_below HB1.out hK2 hrb HB1.out.size)
  have hr16 : r < 16 := by omega
  clear hK2 HB1 HR1
  go_wp2_with fail
  refine (l20Value rb 1 _ hR2 (by omega)).mono ?_
  rintro e w3 ⟨a, q, rfl, ha, hq, hR, hK3⟩
  have HB3 := Lib.hid (kept_below HB2.out hK3 hrb HB2.out.size)
  have HA := Lib.hid ha
  clear hK3 hR2 HB2 hcs ha
  go_wp2
  have hR0 := Lib.hid hR
  have hcs : Below w3.heap.size w3 w3.drew := belowN (Below.refl _ _) 1
  have hRd : Hid (Rd w3.drew rb q) := ⟨hR.ex, hR.hp⟩
  have hKd : Hid (Kept [rb] w3 w3.drew) := (Kept.refl [rb] w3).drewN 1
  clear hR hcs hR0
  refine wp_region_noPanic ?_
  refine wp_region_held_drew (S := fun _ => True) (by kernel_rfl) (by trivial) (fun hHeld => ?_)
  generalize hwd : w3.drew = wd at *
  clear hwd
  refine takeH2 0 17 (v := ?_) rfl rfl (by kernel_rfl) (by kernel_rfl) (by kernel_rfl) (fun _ _ _ h => h) (by rfl) (by assumption) ?_ ?_
  rotate_left
  · intro w hSw; go_simp; (first | done | with_reducible rfl | rfl)
  try simp only [Act.put, List.setIfInBounds_toArray, List.set_cons_zero, List.set_cons_succ]
  refine takeH2 1 18 (v := ?_) rfl rfl (by kernel_rfl) (by kernel_rfl) (by kernel_rfl) (fun _ _ _ h => h) (by rfl) (by assumption) ?_ ?_
  rotate_left
  · intro w hSw; go_simp; (first | done | with_reducible rfl | rfl)
  try simp only [Act.put, List.setIfInBounds_toArray, List.set_cons_zero, List.set_cons_succ]
  refine takeH2 2 19 (v := ?_) rfl rfl (by kernel_rfl) (by kernel_rfl) (by kernel_rfl) (fun _ _ _ h => h) (by rfl) (by assumption) ?_ ?_
  rotate_left
  · intro w hSw; go_simp; (first | done | with_reducible rfl | rfl)
  try simp only [Act.put, List.setIfInBounds_toArray, List.set_cons_zero, List.set_cons_succ]
  refine takeH2 4 21 (v := ?_) rfl rfl (by kernel_rfl) (by kernel_rfl) (by kernel_rfl) (fun _ _ _ h => h) (by rfl) (by assumption) ?_ ?_
  rotate_left
  · intro w hSw; go_simp; (first | done | with_reducible rfl | rfl)
  try simp only [Act.put, List.setIfInBounds_toArray, List.set_cons_zero, List.set_cons_succ]
  refine takeH2 6 23 (v := ?_) rfl rfl (by kernel_rfl) (by kernel_rfl) (by kernel_rfl) (fun _ _ _ h => h) (by rfl) (by assumption) ?_ ?_
  rotate_left
  · intro w hSw; go_simp; (first | done | with_reducible rfl | rfl)
  try simp only [Act.put, List.setIfInBounds_toArray, List.set_cons_zero, List.set_cons_succ]
  refine wpAnyH_ready (rs := [3]) (by kernel_rfl) (by simp) ?_
  refine AllReadyH.cons rfl (fun K hK => ?_) AllReadyH.nil
  go_simp
  refine (l20Value rb q _ hRd.out (by omega)).mono ?_
  rintro e w5 ⟨n5, q5, rfl, hn5, hq5, hR5, hK5⟩
  refine hK.out _ _ trivial (fun hHeld => ?_)
  clear hK K
  try simp only [Act.put, List.setIfInBounds_toArray, List.set_cons_zero, List.set_cons_succ]
  have HK5 := Lib.hid (hKd.out.trans hK5)
  have HR5 := Lib.hid hR5
  clear hK5 hR5
  refine wpAnyH_ready (rs := [5, 7]) (by kernel_rfl) (by simp) ?_
  refine AllReadyH.cons rfl (fun K hK => ?_) (AllReadyH.cons rfl (fun K hK => ?_) AllReadyH.nil)
  · skip
    have bl := alloc_below' w5 (.cells #[.int .i64 n5, .int .i64 a] 3)
    have hP := heap_alloc_new w5 (.cells #[.int .i64 n5, .int .i64 a] 3)
    have HR6 := Lib.hid (HR5.out.grow bl)
    have HK6 := Lib.hid (HK5.out.trans (Kept.of_below (fp := [rb]) bl))
    have hrl := HR5.out.lt
    go_simp
    refine hK.out _ _ trivial (fun hHeld => ?_)
    clear hK K
    try simp only [Act.put, List.setIfInBounds_toArray, List.set_cons_zero, List.set_cons_succ]
    generalize hw6 : (w5.alloc (.cells #[.int .i64 n5, .int .i64 a] 3)) = w6 at *
    obtain ⟨pb, HPB⟩ : ∃ pb : Nat, Hid (pb = w5.heap.size) := ⟨_, Lib.hid rfl⟩
    rw [show w5.heap.size = pb from HPB.out.symm] at hP hrl ⊢
    clear hw6 bl
    refine wpAnyH_ready (rs := [7]) (by kernel_rfl) (by simp) ?_
    refine AllReadyH.cons rfl (fun K hK => ?_) AllReadyH.nil
    go_simp
    refine (pick rb q5 _ _ HR6.out (by omega) (by omega) (by omega)).mono ?_
    rintro e w7 ⟨r7, rfl, hr07, hr17, hR7, hK7⟩
    refine hK.out _ _ trivial (fun hHeld => ?_)
    clear hK K
    try simp only [Act.put, List.setIfInBounds_toArray, List.set_cons_zero, List.set_cons_succ]
    have HK7 := Lib.hid (HK6.out.trans hK7)
    have HR7 := Lib.hid hR7
    clear hR7
    have ht0 : 0 ≤ r7.tdiv 3 ∧ r7.tdiv 3 < 2 := by rw [Int.tdiv_eq_ediv_of_nonneg hr07]; omega
    have ht1 : IntKind.i64.wrap (r7.tdiv 3) = r7.tdiv 3 := IntWalk.i64_in _ (by omega)
    obtain ⟨tq, HTQ⟩ : ∃ tq : Int, Hid (tq = r7.tdiv 3) := ⟨_, Lib.hid rfl⟩
    refine takeH2 8 25 (v := ?_) rfl rfl (by kernel_rfl) (by kernel_rfl) (by kernel_rfl) (fun _ _ _ h => h) (by rfl) (by assumption) ?_ ?_
    rotate_left
    · intro w hSw; go_simp; (first | done | with_reducible rfl | rfl)
    try simp only [Act.put, List.setIfInBounds_toArray, List.set_cons_zero, List.set_cons_succ]
    refine takeH2 11 2 (v := ?_) rfl rfl (by kernel_rfl) (by kernel_rfl) (by kernel_rfl) (fun _ _ _ h => h) (by rfl) (by assumption) ?_ ?_
    rotate_left
    · intro w hSw; go_simp; (first | done | with_reducible rfl | rfl)
    try simp only [Act.put, List.setIfInBounds_toArray, List.set_cons_zero, List.set_cons_succ]
    refine takeH2 12 3 (v := ?_) rfl rfl (by kernel_rfl) (by kernel_rfl) (by kernel_rfl) (fun _ _ _ h => h) (by rfl) (by assumption) ?_ ?_
    rotate_left
    · intro w hSw; go_simp; (first | done | with_reducible rfl | rfl)
    try simp only [Act.put, List.setIfInBounds_toArray, List.set_cons_zero, List.set_cons_succ]
    have HP := Lib.hid (blkKept hP hK7 (by omega))
    clear hK7
    refine takeH2 9 26 (v := ?_) rfl rfl (by kernel_rfl) (by kernel_rfl) (by kernel_rfl) (fun _ _ _ h => h) (by rfl) (by assumption) ?_ ?_
    rotate_left
    · intro w hSw; go_simp; (first | done | with_reducible rfl | rfl)
    try simp only [Act.put, List.setIfInBounds_toArray, List.set_cons_zero, List.set_cons_succ]
    obtain ⟨nn, hc, hv⟩ : ∃ nn : Int, w7.cell? ⟨pb, (r7.tdiv 3).toNat, none⟩ = some (.int .i64 nn) ∧ vRng nn := by
      rcases (show r7.tdiv 3 = 0 ∨ r7.tdiv 3 = 1 by omega) with h | h
      · rw [h]; exact ⟨n5, cell_of_row _ _ 0 _ _ _ HP.out, hn5⟩
      · rw [h]; exact ⟨a, cell_of_row _ _ 1 _ _ _ HP.out, HA.out⟩
    refine wpAnyH_ready (rs := [10]) (by kernel_rfl) (by simp) ?_
    refine AllReadyH.cons rfl (fun K hK => ?_) AllReadyH.nil
    go_simp
    refine hK.out _ _ trivial (fun hHeld => ?_)
    clear hK K
    try simp only [Act.put, List.setIfInBounds_toArray, List.set_cons_zero, List.set_cons_succ]
    refine takeH2 13 4 (v := ?_) rfl rfl (by kernel_rfl) (by kernel_rfl) (by kernel_rfl) (fun _ _ _ h => h) (by rfl) (by assumption) ?_ ?_
    rotate_left
    · intro w hSw; go_simp; (first | done | with_reducible rfl | rfl)
    try simp only [Act.put, List.setIfInBounds_toArray, List.set_cons_zero, List.set_cons_succ]
    refine wpAnyH_done (by kernel_rfl) ?_ _
    refine NoPanic.normal ?_
    clear hHeld
    have HBF := Lib.hid (kept_below HB3.out HK7.out hrb HB3.out.size)
    go_wp2
    go_ret3
    exact ⟨s0, a, nn, rfl, hs0, HA.out, hv, HBF.out⟩
  · skip
    go_simp
    refine (pick rb q5 _ _ HR5.out (by omega) (by omega) (by omega)).mono ?_
    rintro e w7 ⟨r7, rfl, hr07, hr17, hR7, hK7⟩
    refine hK.out _ _ trivial (fun hHeld => ?_)
    clear hK K
    try simp only [Act.put, List.setIfInBounds_toArray, List.set_cons_zero, List.set_cons_succ]
    have HK7 := Lib.hid (HK5.out.trans hK7)
    have HR7 := Lib.hid hR7
    clear hR7
    have ht0 : 0 ≤ r7.tdiv 3 ∧ r7.tdiv 3 < 2 := by rw [Int.tdiv_eq_ediv_of_nonneg hr07]; omega
    have ht1 : IntKind.i64.wrap (r7.tdiv 3) = r7.tdiv 3 := IntWalk.i64_in _ (by omega)
    obtain ⟨tq, HTQ⟩ : ∃ tq : Int, Hid (tq = r7.tdiv 3) := ⟨_, Lib.hid rfl⟩
    refine takeH2 8 25 (v := ?_) rfl rfl (by kernel_rfl) (by kernel_rfl) (by kernel_rfl) (fun _ _ _ h => h) (by rfl) (by assumption) ?_ ?_
    rotate_left
    · intro w hSw; go_simp; (first | done | with_reducible rfl | rfl)
    try simp only [Act.put, List.setIfInBounds_toArray, List.set_cons_zero, List.set_cons_succ]
    refine takeH2 11 2 (v := ?_) rfl rfl (by kernel_rfl) (by kernel_rfl) (by kernel_rfl) (fun _ _ _ h => h) (by rfl) (by assumption) ?_ ?_
    rotate_left
    · intro w hSw; go_simp; (first | done | with_reducible rfl | rfl)
    try simp only [Act.put, List.setIfInBounds_toArray, List.set_cons_zero, List.set_cons_succ]
    refine takeH2 12 3 (v := ?_) rfl rfl (by kernel_rfl) (by kernel_rfl) (by kernel_rfl) (fun _ _ _ h => h) (by rfl) (by assumption) ?_ ?_
    rotate_left
    · intro w hSw; go_simp; (first | done | with_reducible rfl | rfl)
    try simp only [Act.put, List.setIfInBounds_toArray, List.set_cons_zero, List.set_cons_succ]
    refine wpAnyH_ready (rs := [5]) (by kernel_rfl) (by simp) ?_
    refine AllReadyH.cons rfl (fun K hK => ?_) AllReadyH.nil
    have bl := alloc_below' w7 (.cells #[.int .i64 n5, .int .i64 a] 3)
    have hP := heap_alloc_new w7 (.cells #[.int .i64 n5, .int .i64 a] 3)
    have HK8 := Lib.hid (HK7.out.trans (Kept.of_below (fp := [rb]) bl))
    go_simp
    refine hK.out _ _ trivial (fun hHeld => ?_)
    clear hK K
    try simp only [Act.put, List.setIfInBounds_toArray, List.set_cons_zero, List.set_cons_succ]
    generalize hw8 : (w7.alloc (.cells #[.int .i64 n5, .int .i64 a] 3)) = w8 at *
    obtain ⟨pb, HPB⟩ : ∃ pb : Nat, Hid (pb = w7.heap.size) := ⟨_, Lib.hid rfl⟩
    rw [show w7.heap.size = pb from HPB.out.symm] at hP ⊢
    have HP := Lib.hid hP
    clear hw8 bl hK7
    refine takeH2 9 26 (v := ?_) rfl rfl (by kernel_rfl) (by kernel_rfl) (by kernel_rfl) (fun _ _ _ h => h) (by rfl) (by assumption) ?_ ?_
    rotate_left
    · intro w hSw; go_simp; (first | done | with_reducible rfl | rfl)
    try simp only [Act.put, List.setIfInBounds_toArray, List.set_cons_zero, List.set_cons_succ]
    obtain ⟨nn, hc, hv⟩ : ∃ nn : Int, w8.cell? ⟨pb, (r7.tdiv 3).toNat, none⟩ = some (.int .i64 nn) ∧ vRng nn := by
      rcases (show r7.tdiv 3 = 0 ∨ r7.tdiv 3 = 1 by omega) with h | h
      · rw [h]; exact ⟨n5, cell_of_row _ _ 0 _ _ _ HP.out, hn5⟩
      · rw [h]; exact ⟨a, cell_of_row _ _ 1 _ _ _ HP.out, HA.out⟩
    refine wpAnyH_ready (rs := [10]) (by kernel_rfl) (by simp) ?_
    refine AllReadyH.cons rfl (fun K hK => ?_) AllReadyH.nil
    go_simp
    refine hK.out _ _ trivial (fun hHeld => ?_)
    clear hK K
    try simp only [Act.put, List.setIfInBounds_toArray, List.set_cons_zero, List.set_cons_succ]
    refine takeH2 13 4 (v := ?_) rfl rfl (by kernel_rfl) (by kernel_rfl) (by kernel_rfl) (fun _ _ _ h => h) (by rfl) (by assumption) ?_ ?_
    rotate_left
    · intro w hSw; go_simp; (first | done | with_reducible rfl | rfl)
    try simp only [Act.put, List.setIfInBounds_toArray, List.set_cons_zero, List.set_cons_succ]
    refine wpAnyH_done (by kernel_rfl) ?_ _
    refine NoPanic.normal ?_
    clear hHeld
    have HBF := Lib.hid (kept_below HB3.out HK8.out hrb HB3.out.size)
    go_wp2
    go_ret3
    exact ⟨s0, a, nn, rfl, hs0, HA.out, hv, HBF.out⟩

end Go.Proofs.Ytiaiggjfepoahaa

/- The law's fixed answer. -/
namespace Go.Proofs.Ytiaiggjfepoahaa
open Go.RowKit

theorem small_ok {s : ByteArray} (h : s.size ≤ 1000000) : s.size ≤ maxLen := by unfold maxLen; omega
theorem line_ab (w : World) : Calls Try.prog 25 #[.string ⟨#[97, 32, 98]⟩] w fun e w' => e = .returned (.bool true) ∧ w = w' := by
  have := impl_LineValid ⟨#[97, 32, 98]⟩ w (small_ok (by decide))
  rwa [show lineOk ⟨#[97, 32, 98]⟩ = true from by decide] at this
theorem line_nl (w : World) : Calls Try.prog 25 #[.string ⟨#[10]⟩] w fun e w' => e = .returned (.bool false) ∧ w = w' := by
  have := impl_LineValid ⟨#[10]⟩ w (small_ok (by decide))
  rwa [show lineOk ⟨#[10]⟩ = false from by decide] at this
theorem alive (w : World) : Calls Try.prog 9 #[] w fun e w' => e = .returned (.bool true) ∧ w = w' := by
  go_enter Try.func9, Try.ntmps9
  go_wp2_with fail
  refine (line_ab _).mono ?_
  rintro e w' ⟨rfl, rfl⟩
  go_wp2_with fail
  refine (line_nl _).mono ?_
  rintro e w' ⟨rfl, rfl⟩
  go_wp2
  go_ret
  exact ⟨rfl, rfl⟩

end Go.Proofs.Ytiaiggjfepoahaa

/- The drawing of lists of tokens. -/
namespace Go.Proofs.Ytiaiggjfepoahaa
open Go.RowKit

/-- Tokens are drawn. -/
def DrawnList (w : World) (e : Ending) (w' : World) : Prop :=
  ∃ (v : Value) (L : List (Elem Tok)), e = .returned v ∧ RowE sTok w.heap.size 36 v L w' ∧ (∀ x ∈ L, okTok x.d) ∧ L.length ≤ 61 ∧ Below w.heap.size w w'
/-- A token's Spaced is stored. -/
theorem RowE.spaced {base g n cap : Nat} {L : List (Elem Tok)} {w : World} (h : RowE sTok base 36 (.slice (some ⟨g, 0, none⟩) n cap) L w) {k : Nat} (hk : k < L.length) (b : Bool) :
    ∃ x', RowE sTok base 36 (.slice (some ⟨g, 0, none⟩) n cap) (L.set k x') (w.setCell ⟨g, k * 4 + 2, none⟩ (.bool b)) ∧ (okTok L[k].d → okTok x'.d) := by
  have hm := List.getElem_mem hk
  obtain ⟨hh, hcs, hi, hs, hK⟩ := h.el _ hm
  refine ⟨⟨[.int .i64 L[k].d.kind, .string L[k].d.text, .bool b, hh], ⟨L[k].d.kind, L[k].d.text, b, L[k].d.hidden⟩, L[k].fp⟩, h.set hk (j := 2) (by decide) _ _ (by rw [hcs]; rfl) ⟨hh, rfl, hi, hs, hK⟩ (fun b hb => h.lo L[k] hm b hb) (fun b hb => h.ty L[k] hm b hb), fun h => h⟩
end Go.Proofs.Ytiaiggjfepoahaa

/- Numbers and tokens of formulas are drawn. (Made by gen_drawv2.py.) -/
namespace Go.Proofs.Ytiaiggjfepoahaa
open Go.RowKit

def no_texts : List ByteArray := [⟨#[]⟩, ⟨#[48]⟩, ⟨#[49, 50]⟩, ⟨#[48, 48, 55]⟩, ⟨#[49, 48, 48, 48, 48, 48, 48]⟩, ⟨#[49, 48, 48, 48, 48, 48, 49]⟩, ⟨#[49, 50, 51, 52, 53, 54, 55, 56]⟩, ⟨#[49, 97]⟩, ⟨#[45, 49]⟩, ⟨#[57, 57]⟩]
theorem no_texts_size : ∀ s ∈ no_texts, s.size ≤ 8 := by decide
def vo_texts : List ByteArray := [⟨#[]⟩, ⟨#[49, 32, 43]⟩, ⟨#[40, 49]⟩, ⟨#[49, 41]⟩, ⟨#[49, 32, 50]⟩, ⟨#[49, 32, 63, 32, 50]⟩, ⟨#[49, 32, 63, 32, 50, 32, 58, 32]⟩, ⟨#[43, 32, 49]⟩, ⟨#[34, 97, 34]⟩, ⟨#[49, 32, 63, 32, 50, 32, 63, 32, 51, 32, 58, 32, 52, 32, 58, 32, 53]⟩, ⟨#[49, 32, 47, 32, 48, 32, 43]⟩, ⟨#[49, 32, 37, 32, 40, 50, 32, 45, 32, 50, 41]⟩]
theorem vo_texts_size : ∀ s ∈ vo_texts, s.size ≤ 20 := by decide

set_option maxHeartbeats 4000000 in
theorem DrawNumberOf (v : Value) (l : List UInt8) (fp : List Nat) (w : World) (H : (sSlice sByte).R w [v] l fp) :
    Calls Try.prog 10 #[v] w fun e w' => ∃ s : ByteArray, e = .returned (.string s) ∧ s.size ≤ 8 ∧ Below w.heap.size w w' := by
  go_enter Try.func10, Try.ntmps10
  go_wp2_with fail
  refine (l20Open _ l fp _ H).mono ?_
  rintro e w1 ⟨rb, rfl, hrb, hR, hB⟩
  have hzl := alloc_below' w1 (.cells #[.string ⟨#[]⟩, .string ⟨#[48]⟩, .string ⟨#[49, 50]⟩, .string ⟨#[48, 48, 55]⟩, .string ⟨#[49, 48, 48, 48, 48, 48, 48]⟩, .string ⟨#[49, 48, 48, 48, 48, 48, 49]⟩, .string ⟨#[49, 50, 51, 52, 53, 54, 55, 56]⟩, .string ⟨#[49, 97]⟩, .string ⟨#[45, 49]⟩, .string ⟨#[57, 57]⟩] 9)
  have HR1 := Lib.hid (hR.grow hzl)
  have HB1 := Lib.hid (hB.trans (hzl.mono hB.size))
  have hlt := hR.lt
  clear hzl hB hR
  go_wp2_with fail
  refine (pick rb 0 _ _ HR1.out (by omega) (by omega) (by omega)).mono ?_
  rintro e w2 ⟨r, rfl, h0, h1, hR2, hK2⟩
  obtain ⟨s0, hs0, hcs⟩ := lit_pick no_texts 8 no_texts_size h0 (by show r < 10; omega) hlt hK2
  have HB2 := Lib.hid (kept_below HB1.out hK2 hrb HB1.out.size)
  have hr10 : r < 10 := by omega
  clear hK2 hR2 HB1 HR1
  go_wp2
  go_ret
  exact ⟨s0, rfl, hs0, HB2.out⟩

set_option maxHeartbeats 8000000 in
set_option maxRecDepth 100000 in
theorem DrawValueOf (v : Value) (l : List UInt8) (fp : List Nat) (w : World) (H : (sSlice sByte).R w [v] l fp) :
    Calls Try.prog 13 #[v] w (DrawnList w) := by
  go_enter Try.func13, Try.ntmps13
  go_wp2_with fail
  refine (l20Open _ l fp _ H).mono ?_
  rintro e w1 ⟨rb, rfl, hrb, hR, hB⟩
  go_wp2_with fail
  refine (pick rb 0 _ _ hR (by omega) (by omega) (by omega)).mono ?_
  rintro e w2 ⟨r, rfl, h0, h1, hR2, hK2⟩
  have hB2 := kept_below hB hK2 hrb hB.size
  obtain ⟨d, rfl⟩ : ∃ d : Nat, r = (d : Int) := ⟨r.toNat, by omega⟩
  have hd3 : d ≤ 3 := by omega
  clear hB hR hK2
  go_wp2_with fail
  refine (l20Formula rb 1 d _ hR2 hd3 (by omega)).mono ?_
  rintro e w3 ⟨s, q, rfl, hs, hq, hR3, hK3⟩
  have hB3 := kept_below hB2 hK3 hrb hB2.size
  clear hK3 hR2 hB2
  go_wp2_with fail
  refine (odd rb q _ _ hR3 (by omega) (by omega) (by omega)).mono ?_
  rintro e w4 ⟨b, q4, rfl, hq41, hq42, hR4, hK4⟩
  have hB4 := kept_below hB3 hK4 hrb hB3.size
  clear hK4 hR3 hB3
  cases b
  · have HRX := Lib.hid hR4
    have HBX := Lib.hid hB4
    clear hR4 hB4
    replace hs : s.size ≤ 1000 := by omega
    go_wp2_with fail
    refine (spec_TokensOf_row s _ (by unfold maxLen; omega)).mono ?_
    rintro e w5 ⟨v4, rfl, hrow, hfr, hB5⟩
    have hcnt := (tokRes_all s).1
    obtain ⟨hE0, hok0⟩ := toks_rowE hrow hfr hs
    have HR5 := Lib.hid (HRX.out.grow hB5)
    have HB5 := Lib.hid (HBX.out.trans (hB5.mono HBX.out.size))
    have HE5 := Lib.hid hE0
    have hX1 := HRX.out.lt
    have hX2 := hB5.size
    have hX3 := HBX.out.size
    have HN : Hid (((tokRes s).1.map elemTok).length ≤ 60) := by show _ ≤ _; rw [List.length_map]; exact hcnt
    generalize (tokRes s).1.map elemTok = L0 at hE0 HE5 hok0 HN
    generalize (tokRes s).2 = b0 at *
    have HOK := Lib.hid hok0
    clear hrow hfr hcnt hB5 hE0 hok0
    go_wp2_with fail
    refine (odd rb q4 _ _ HR5.out (by omega) (by omega) (by omega)).mono ?_
    rintro e w6 ⟨b2, q6, rfl, hq61, hq62, hR6, hK6⟩
    have hE6 := HE5.out.keptR hK6 hX1
    have hX6 := hK6.size
    have hB6 := kept_below HB5.out hK6 (by omega) HB5.out.size
    cases b2
    · go_wp2
      go_ret
      exact ⟨_, L0, rfl, hE6.lower hX3, HOK.out, by have := HN.out; omega, hB6⟩
    · go_wp2_with fail
      refine (l20Token rb q6 _ _ hR6 (by omega) (by omega) (by omega)).mono ?_
      rintro e w7 ⟨tk, ts, sp, ao, tm, tc, tl, tf, q7, rfl, dR, dok, dlo, dty, hq7, hR7, hK7⟩
      have hE7 := hE6.keptR hK7 hX1
      have hB7 := kept_below hB6 hK7 (by omega) hB6.size
      have HE7 := Lib.hid hE7
      have HB7 := Lib.hid hB7
      have HT := Lib.hid (And.intro dR (And.intro (fun b hb => Nat.le_trans (Nat.le_trans hX2 hX6) (dlo b hb)) dty))
      have HDK := Lib.hid dok
      have hbs := hB7.size
      have hX7 := hK7.size
      have hbX : w4.heap.size ≤ w7.heap.size := by omega
      have HG := Lib.hid (fun b hb => Nat.le_trans hX3 (HE7.out.mine b hb))
      clear hE7 hB7 dR dlo dty dok hK7 hR7 hE6 hB6 hK6 hR6 HE5 HB5 HR5
      go_wp2_with (at_builtin; refine wp_append_tokE rfl (.tmp 27) (.tmp 30) rfl w4.heap.size v4 L0 rfl HE7.out tk ts sp ao tm tc tl tf rfl HT.out.1 HT.out.2.1 HT.out.2.2 (by have := HN.out; omega) hbX ?_; intro v8 w8 hE8 hg8)
      have HF := Lib.hid (HB7.out.grown hg8 hbs HG.out)
      have HE8 := Lib.hid hE8
      clear hE8 hg8
      go_wp2
      go_ret
      exact ⟨v8, _, rfl, HE8.out.lower hX3, okApp HOK.out HDK.out, by have := HN.out; rw [List.length_append]; simp; omega, HF.out⟩
  · have hzl := alloc_below' w4 (.cells #[.string ⟨#[]⟩, .string ⟨#[49, 32, 43]⟩, .string ⟨#[40, 49]⟩, .string ⟨#[49, 41]⟩, .string ⟨#[49, 32, 50]⟩, .string ⟨#[49, 32, 63, 32, 50]⟩, .string ⟨#[49, 32, 63, 32, 50, 32, 58, 32]⟩, .string ⟨#[43, 32, 49]⟩, .string ⟨#[34, 97, 34]⟩, .string ⟨#[49, 32, 63, 32, 50, 32, 63, 32, 51, 32, 58, 32, 52, 32, 58, 32, 53]⟩, .string ⟨#[49, 32, 47, 32, 48, 32, 43]⟩, .string ⟨#[49, 32, 37, 32, 40, 50, 32, 45, 32, 50, 41]⟩] 9)
    have HR1 := Lib.hid (hR4.grow hzl)
    have HB1 := Lib.hid (hB4.trans (hzl.mono hB4.size))
    have hlt := hR4.lt
    clear hzl hB4 hR4
    go_wp2_with fail
    refine (pick rb q4 _ _ HR1.out (by omega) (by omega) (by omega)).mono ?_
    rintro e w45 ⟨r5, rfl, h50, h51, hR45, hK45⟩
    obtain ⟨s0, hs0, hcs⟩ := lit_pick vo_texts 20 vo_texts_size h50 (by show r5 < 12; omega) hlt hK45
    have HBX := Lib.hid (kept_below HB1.out hK45 hrb HB1.out.size)
    have HRX := Lib.hid hR45
    have hr12 : r5 < 12 := by omega
    clear hK45 hR45 HB1 HR1 hs
    have hs : s0.size ≤ 1000 := by omega
    go_wp2_with fail
    refine (spec_TokensOf_row s0 _ (by unfold maxLen; omega)).mono ?_
    rintro e w5 ⟨v4, rfl, hrow, hfr, hB5⟩
    have hcnt := (tokRes_all s0).1
    obtain ⟨hE0, hok0⟩ := toks_rowE hrow hfr hs
    have HR5 := Lib.hid (HRX.out.grow hB5)
    have HB5 := Lib.hid (HBX.out.trans (hB5.mono HBX.out.size))
    have HE5 := Lib.hid hE0
    have hX1 := HRX.out.lt
    have hX2 := hB5.size
    have hX3 := HBX.out.size
    have HN : Hid (((tokRes s0).1.map elemTok).length ≤ 60) := by show _ ≤ _; rw [List.length_map]; exact hcnt
    generalize (tokRes s0).1.map elemTok = L0 at hE0 HE5 hok0 HN
    generalize (tokRes s0).2 = b0 at *
    have HOK := Lib.hid hok0
    clear hrow hfr hcnt hB5 hE0 hok0
    go_wp2_with fail
    refine (odd rb (q4 + 1) _ _ HR5.out (by omega) (by omega) (by omega)).mono ?_
    rintro e w6 ⟨b2, q6, rfl, hq61, hq62, hR6, hK6⟩
    have hE6 := HE5.out.keptR hK6 hX1
    have hX6 := hK6.size
    have hB6 := kept_below HB5.out hK6 (by omega) HB5.out.size
    cases b2
    · go_wp2
      go_ret
      exact ⟨_, L0, rfl, hE6.lower hX3, HOK.out, by have := HN.out; omega, hB6⟩
    · go_wp2_with fail
      refine (l20Token rb q6 _ _ hR6 (by omega) (by omega) (by omega)).mono ?_
      rintro e w7 ⟨tk, ts, sp, ao, tm, tc, tl, tf, q7, rfl, dR, dok, dlo, dty, hq7, hR7, hK7⟩
      have hE7 := hE6.keptR hK7 hX1
      have hB7 := kept_below hB6 hK7 (by omega) hB6.size
      have HE7 := Lib.hid hE7
      have HB7 := Lib.hid hB7
      have HT := Lib.hid (And.intro dR (And.intro (fun b hb => Nat.le_trans (Nat.le_trans hX2 hX6) (dlo b hb)) dty))
      have HDK := Lib.hid dok
      have hbs := hB7.size
      have hX7 := hK7.size
      have hbX : w45.heap.size ≤ w7.heap.size := by omega
      have HG := Lib.hid (fun b hb => Nat.le_trans hX3 (HE7.out.mine b hb))
      clear hE7 hB7 dR dlo dty dok hK7 hR7 hE6 hB6 hK6 hR6 HE5 HB5 HR5
      go_wp2_with (at_builtin; refine wp_append_tokE rfl (.tmp 27) (.tmp 30) rfl w45.heap.size v4 L0 rfl HE7.out tk ts sp ao tm tc tl tf rfl HT.out.1 HT.out.2.1 HT.out.2.2 (by have := HN.out; omega) hbX ?_; intro v8 w8 hE8 hg8)
      have HF := Lib.hid (HB7.out.grown hg8 hbs HG.out)
      have HE8 := Lib.hid hE8
      clear hE8 hg8
      go_wp2
      go_ret
      exact ⟨v8, _, rfl, HE8.out.lower hX3, okApp HOK.out HDK.out, by have := HN.out; rw [List.length_append]; simp; omega, HF.out⟩

end Go.Proofs.Ytiaiggjfepoahaa
