/- Texts that the proof of U stands on, in one file. -/
import Derived.Test.YtflbdanlcpojbaaZU10
import Derived.Test.YtflbdanlcpojbaaZU6
import Derived.Test.YtflbdanlcpojbaaZU8
import Derived.Test.YtflbdanlcpojbaaZU9
import Derived.Deep.Cut
import Derived.Deep.CutRange
import Derived.Test.YtflbdanlcpojbaaZU5
set_option linter.unusedVariables false
set_option linter.unusedSimpArgs false
/- MacroOf of both, as the exact law calls them. -/
namespace Go.Proofs.Ytflbdanlcpojbaa
open Go.RowKit
theorem cntVMacro_le (x : DMacro) : cntVMacro x ≤ 3 * wtMacro x := by
  have h1 := cntTokenS_le x.body
  have h2 : wtMacro x = x.name.size + (x.params.length + (x.params.map (·.size)).sum) + wtTokenS x.body := rfl
  have h3 : cntVMacro x = x.params.length + cntTokenS x.body := rfl
  omega
end Go.Proofs.Ytflbdanlcpojbaa

/- Lists of lists of tokens: the laws' own helpers. -/
namespace Go.Proofs.Ytflbdanlcpojbaa
open Go.RowKit Go.ChangeShapes Go.WideShapes Go.Deep

abbrev sToks : Shape (List Tok) := sSlice sTok
theorem ti_toks : TI Try.prog 27 24 (.slice none 0 0) 1 24 := ⟨by kernel_rfl, by kernel_rfl⟩
def mkTokenSS (k : Int) (l : List (List Tok)) : List (List Tok) := mkAll mkTokenS cntTokenS k l
def cntTokenSS (l : List (List Tok)) : Nat := cntAll cntTokenS l
def wtTokenSS (l : List (List Tok)) : Nat := l.length + (l.map wtTokenS).sum
theorem cntTokenSS_le : ∀ l : List (List Tok), cntTokenSS l ≤ 3 * wtTokenSS l
  | [] => Nat.zero_le _
  | t :: l => by
    have ih := cntTokenSS_le l
    have h1 : cntTokenSS (t :: l) = cntTokenS t + cntTokenSS l := by unfold cntTokenSS cntAll; simp
    have h2 := cntTokenS_le t
    have h3 : wtTokenSS (t :: l) = 1 + wtTokenS t + wtTokenSS l := by unfold wtTokenSS; simp; omega
    omega
theorem cells_slice {α : Type} {S : Shape α} {w : World} {cs : List Value} {l : List α} {fp : List Nat} (H : (sSlice S).R w cs l fp) : ∃ a cap, cs = [.slice a l.length cap] := by
  obtain ⟨a, cap, h, -⟩ := H
  exact ⟨a, cap, h⟩
theorem elem_one {w : World} {b off i : Nat} {v : Value} (h : ElemAt w b off 1 i [v]) : w.cell? ⟨b, off + i, none⟩ = some v := by
  have := h.2 0 (by decide)
  simpa using this

set_option maxHeartbeats 8000000 in
set_option maxRecDepth 100000 in
theorem eqTokenSS_same (v1 v2 : Value) (l : List (List Tok)) (fp1 fp2 : List Nat) (w : World) (H1 : (sSlice sToks).R w [v1] l fp1) (H2 : (sSlice sToks).R w [v2] l fp2) :
    Calls Try.prog 16 #[v1, v2] w fun e w' => e = .returned (.bool true) ∧ Below w.heap.size w w' := by
  obtain ⟨a1, cap1, rfl, hc1, hm1, hrow1⟩ := open_rows H1
  obtain ⟨a2, cap2, rfl, hc2, hm2, hrow2⟩ := open_rows H2
  unfold maxLen at hm1 hm2
  have hnb : ((l.length : Int) != (l.length : Int)) = false := by simp
  go_enter Try.func16, Try.ntmps16
  go_wp2
  go_loopw [5] (fun i wr => ∃ k : Nat, k ≤ l.length ∧ i = .int .i64 k ∧ Below w.heap.size w wr) (fun i _ => l.length - (intOf i).toNat)
  case atStart => exact ⟨0, by omega, rfl, Below.refl _ _⟩
  case round =>
    obtain ⟨k, hk, rfl, hb⟩ := hrel
    by_cases hlt : k < l.length
    · obtain ⟨b1, off1, fps1, rfl, hb1, rfl, he1⟩ := hrow1 (by omega)
      obtain ⟨b2, off2, fps2, rfl, hb2, rfl, he2⟩ := hrow2 (by omega)
      obtain ⟨es1, hE1, hR1⟩ := he1 k hlt
      obtain ⟨es2, hE2, hR2⟩ := he2 k hlt
      clear hrow1 hrow2 he1 he2 H1 H2
      replace hE1 := hE1.frame (hb.block b1 hb1)
      replace hE2 := hE2.frame (hb.block b2 hb2)
      obtain ⟨q1, d1, rfl⟩ := cells_slice hR1
      obtain ⟨q2, d2, rfl⟩ := cells_slice hR2
      have HC : Hid (∀ W, Below wr.heap.size wr W → Calls Try.prog 14 #[.slice q1 l[k].length d1, .slice q2 l[k].length d2] W fun e w' => e = .returned (.bool true) ∧ Below W.heap.size W w') := fun W hW => eqTokenS_same _ _ l[k] _ _ W (sToks.below (sToks.below hR1 hb) hW) (sToks.below (sToks.below hR2 hb) hW)
      have c1 := elem_one hE1
      have c2 := elem_one hE2
      clear hE1 hE2 hR1 hR2
      go_wp2_with fail
      go_still_tail 8, (by kernel_rfl)
      change wpList _ _ _ _ _ wr.drew
      have hd : Below wr.heap.size wr wr.drew := belowN (Below.refl _ _) 1
      generalize wr.drew = w2 at *
      go_wp2_with (go_at_call 14; refine (HC.out _ hd).mono ?_; rintro e w3 ⟨rfl, hb3⟩)
      go_roundw
      case rel => exact ⟨k + 1, by omega, by go_num, (hb.trans (hd.mono hb.size)).trans (hb3.mono (Nat.le_trans hb.size hd.size))⟩
      case measure => simp [intOf]; omega
    · go_wp2
      go_ret
      exact ⟨rfl, hb⟩

set_option maxHeartbeats 2000000 in
set_option maxRecDepth 100000 in
theorem szTokenSS (v : Value) (l : List (List Tok)) (fp : List Nat) (w : World) (B : Int) (h0 : 0 ≤ B) (h1 : B ≤ 1048576) (H : (sSlice sToks).R w [v] l fp) :
    Calls Try.prog 11 #[v, .int .i64 B] w fun e w' => ∃ r : Int, e = .returned (.int .i64 r) ∧ SzR B r (wtTokenSS l) ∧ Below w.heap.size w w' := by
  obtain ⟨a, cap, rfl, hc, hm, hrow⟩ := open_rows H
  unfold maxLen at hm
  clear H
  by_cases hl : B < l.length
  · have HN : Hid (SzR B (-1) (wtTokenSS l)) := SzR.no (by unfold wtTokenSS; omega)
    go_enter Try.func11, Try.ntmps11
    go_wp2
    go_ret
    exact ⟨-1, rfl, HN.out, Below.refl _ _⟩
  · go_enter Try.func11, Try.ntmps11
    go_wp2
    go_loopw [1, 5] (fun t i wr => ∃ (k : Nat) (r : Int), k ≤ l.length ∧ i = .int .i64 k ∧ t = .int .i64 r ∧ 0 ≤ r ∧ r ≤ B ∧ Hid (r = B - l.length - (((l.take k).map wtTokenS).sum : Nat)) ∧ Below w.heap.size w wr) (fun _ i _ => l.length - (intOf i).toNat)
    case atStart => exact ⟨0, _, by omega, rfl, rfl, by omega, by omega, by show _ = _; simp, Below.refl _ _⟩
    case round =>
      obtain ⟨k, r, hk, rfl, rfl, hr0, hr1, HA, hb⟩ := hrel
      by_cases hlt : k < l.length
      · obtain ⟨b1, off1, fps1, rfl, hb1, -, he1⟩ := hrow (by omega)
        obtain ⟨es1, hE1, hR1⟩ := he1 k hlt
        clear hrow he1
        have hR2 := sToks.below hR1 hb
        obtain ⟨q1, d1, rfl⟩ := cells_slice hR1
        have HC := Lib.hid (szTokenS _ _ _ wr r hr0 (by omega) hR2)
        clear hR2 hR1
        replace hE1 := hE1.frame (hb.block b1 hb1)
        have c10 := elem_one hE1
        clear hE1
        have HT := Lib.hid (wsum_succ wtTokenS l k hlt)
        have HT2 := Lib.hid (wsum_le wtTokenS l (k + 1))
        go_wp2_with fail
        refine (HC.out).mono ?_
        rintro e w1 ⟨r', rfl, hr', hb2⟩
        clear c10
        by_cases hn : r' < 0
        · have HN : Hid (SzR B (-1) (wtTokenSS l)) := SzR.no (by
            have hx : r < wtTokenS l[k] := by unfold SzR at hr'; split at hr' <;> omega
            have := HT2.out; have := HT.out; have := HA.out; unfold wtTokenSS; omega)
          go_wp2
          go_ret
          exact ⟨-1, rfl, HN.out, hb.trans (hb2.mono hb.size)⟩
        · have hg := hr'.good hn
          have hle := hr'.le hr0
          have HA' : Hid (r' = B - l.length - (((l.take (k + 1)).map wtTokenS).sum : Nat)) := by
            show _ = _
            have := HT.out; have := HA.out
            omega
          clear hr' hg
          go_wp2
          go_roundw
          case rel => exact ⟨k + 1, _, by omega, by go_num, rfl, by omega, by omega, HA'.out, hb.trans (hb2.mono hb.size)⟩
          case measure => simp [intOf]; omega
      · have HN : Hid (SzR B r (wtTokenSS l)) := by
          have h := HA.out
          rw [List.take_of_length_le (by omega)] at h
          exact SzR.yes (by unfold wtTokenSS; omega) (by unfold wtTokenSS; omega)
        go_wp2
        go_ret
        exact ⟨r, rfl, HN.out, hb⟩

set_option maxHeartbeats 4000000 in
set_option maxRecDepth 100000 in
theorem toTokenSS (v : Value) (l : List (List Tok)) (fp : List Nat) (w : World) (hW : wtTokenSS l ≤ 1048576) (H : (sSlice sToks).R w [v] l fp) :
    Calls Try.prog 13 #[v] w (Made (sSlice sToks) l w) := by
  have hB : l.length ≤ 1048576 := by unfold wtTokenSS at hW; omega
  have HW : Hid (∀ k, (hk : k < l.length) → wtTokenS l[k] ≤ 1048576) := fun k hk => by have := wsum_at wtTokenS l k hk; unfold wtTokenSS at hW; omega
  obtain ⟨a, cap, rfl, hc, hm, hrow⟩ := open_rows H
  unfold maxLen at hm
  clear H hW
  go_enter Try.func13, Try.ntmps13
  go_wp2_with (at_make; refine wp_make_full ti_toks _ rfl _ _ rfl w.heap.size l.length rfl rfl (by omega) (by unfold maxLen; omega) (Nat.le_refl _) ?_; intro w1 hown hgrow)
  have hbel := (Below.refl w.heap.size w).grown hgrow (Nat.le_refl _) (by simp)
  have HF0 := Filling.start (S := sToks) (l := l) hown
  clear hgrow hown
  go_loopw [4] (fun i wr => ∃ (k : Nat) (L : List (Elem (List Tok))) (R : List Value), k ≤ l.length ∧ i = .int .i64 k ∧ Hid (Filling sToks w.heap.size 24 l k wr L R) ∧ Below w.heap.size w wr) (fun i _ => l.length - (intOf i).toNat)
  case atStart => exact ⟨0, _, _, by omega, rfl, HF0, hbel⟩
  case round =>
    obtain ⟨k, L, R, hk, rfl, HF, hb⟩ := hrel
    clear HF0 hbel
    by_cases hlt : k < l.length
    · obtain ⟨b1, off1, fps1, rfl, hb1, -, he1⟩ := hrow (by omega)
      obtain ⟨es1, hE1, hR1⟩ := he1 k hlt
      clear hrow he1
      have hR2 := sToks.below hR1 hb
      obtain ⟨q1, d1, rfl⟩ := cells_slice hR1
      have HC := Lib.hid (toTokenS _ _ _ wr (HW.out k hlt) hR2)
      clear hR2 hR1
      replace hE1 := hE1.frame (hb.block b1 hb1)
      have c10 := elem_one hE1
      clear hE1
      go_wp2_with fail
      refine (HC.out).mono ?_
      rintro e w2 ⟨v2, fp2, rfl, hR2, hO2, hb2⟩
      have HN := Lib.hid (HF.out.next (cs := [v2]) hlt hb2 (by rfl) hR2 hO2)
      obtain ⟨ah2, caph2, rfl, -⟩ := open_rows hR2
      have HF2 := Lib.hid (HF.out.below hb2)
      obtain ⟨u0, d0⟩ : ∃ u, w2.cell? ⟨w.heap.size, k, none⟩ = some u := by
        have := HF2.out.cell hlt (j := 0) (by decide)
        have e : sToks.m = 1 := rfl
        rw [e, Nat.mul_one, Nat.add_zero] at this
        exact this
      have f0 := HF2.out.frozen k
      clear c10 hO2 hR2
      go_wp2
      obtain ⟨R', HN⟩ := HN.out
      go_roundw
      case rel => exact ⟨k + 1, _, R', by omega, by go_num, (by have e : sToks.m = 1 := rfl; rw [e, Nat.mul_one] at HN; exact HN), putAll_below (Nat.le_refl _) [_] _ k (hb.trans (hb2.mono hb.size))⟩
      case measure => simp [intOf]; omega
    · obtain ⟨fp', h1, h2⟩ := HF.out.done (by omega)
      go_wp2
      go_ret
      exact ⟨_, fp', rfl, h1, h2, hb⟩

set_option maxHeartbeats 8000000 in
set_option maxRecDepth 100000 in
theorem markTokenSS (v : Value) (l : List (List Tok)) (fp : List Nat) (lo : Nat) (k : Int) (w : World) (h0 : 0 ≤ k) (h1 : k + cntTokenSS l ≤ 2305843009213693952) (H : (sSlice sToks).R w [v] l fp) (O : Own w lo fp) :
    Calls Try.prog 18 #[v, .int .i64 k] w (Marked (sSlice sToks) v (mkTokenSS k l) fp lo (k + cntTokenSS l) w) := by
  have HI := Lib.hid H
  obtain ⟨a, cap, rfl, hc, hm, hrow0⟩ := open_rows H
  have hm' := hm
  unfold maxLen at hm
  clear H hrow0
  go_enter Try.func18, Try.ntmps18
  go_wp2
  go_loopw [1, 5] (fun t i wr => ∃ (j : Nat) (L : List (List Tok)) (kk : Int), j ≤ l.length ∧ i = .int .i64 j ∧ t = .int .i64 kk ∧ Hid (kk = k + cntAll cntTokenS (l.take j)) ∧ Hid (MkUpto mkTokenS cntTokenS k l j L) ∧ Hid ((sSlice sToks).R wr [.slice a l.length cap] L fp) ∧ Own wr lo fp ∧ Kept fp w wr) (fun _ i _ => l.length - (intOf i).toNat)
  case atStart => exact ⟨0, l, k, by omega, rfl, rfl, by show _ = _; simp [cntAll], MkUpto.zero _ _, HI.out, O, Kept.refl _ _⟩
  case round =>
    obtain ⟨j, L, kk, hj, rfl, rfl, HKK, HM, HR, HO, HK⟩ := hrel
    by_cases hlt : j < l.length
    · obtain ⟨a', cap', hv, hc', hm'', hrow⟩ := open_rows HR.out
      have hLl := HM.out.len
      obtain ⟨b, off, fps, hab, hb, hfp, he⟩ := hrow (by omega)
      simp only [Value.slice.injEq] at hv
      obtain ⟨rfl, hv2, rfl⟩ := hv
      subst hab
      clear hv2
      rw [hLl] at hfp
      subst hfp
      obtain ⟨es, hE, hR⟩ := he j (by omega)
      rw [HM.out.at hlt] at hR
      have hle := cntAll_le (c := cntTokenS) l (j + 1)
      rw [cntAll_take hlt] at hle
      have hKb : (0 : Int) ≤ kk ∧ kk + (cntTokenS l[j] : Int) ≤ 2305843009213693952 := by
        have := HKK.out
        unfold cntTokenSS at h1
        omega
      obtain ⟨hk0, hk1⟩ := hKb
      have HX := Lib.hid (HM.out.succ hlt)
      have HXK : Hid (kk + (cntTokenS l[j] : Int) = k + cntAll cntTokenS (l.take (j + 1))) := by
        show _ = _
        rw [cntAll_take hlt]
        have := HKK.out
        omega
      rw [← HKK.out] at HX
      obtain ⟨q1, d1, rfl⟩ := cells_slice hR
      have hnd := HO.1
      have hap := flat_apart hnd hlt
      have hbm : b ∈ b :: (List.range l.length).flatMap fps := by simp
      have Hrow : Hid (∀ (w' : World) (d : List Tok) (es' : List Value), Turned b (off + j * sToks.m) (off + j * sToks.m + sToks.m) (fps j) wr w' → ElemAt w' b off sToks.m j es' → sToks.R w' es' d (fps j) → (sSlice sToks).R w' [.slice (some ⟨b, off, none⟩) l.length cap] (L.set j d) (b :: (List.range l.length).flatMap fps)) :=
        fun w' d es' hT h1 h2 => row_turned hLl hc hm' hb he hlt hnd hT h1 h2
      clear he hrow hc' hm'' hle h1 hLl
      have hnj := flat_nodup hnd hlt
      have W0 := Lib.hid (Wr.start (fpj := fps j) hE HO hb hbm hap.1)
      have c0 := elem_one hE
      have HN2 := Lib.hid (HO.sub hnj (fun x hx => flat_sub hlt x hx))
      go_wp2_with fail
      refine (markTokenS _ _ _ lo _ _ (by omega) (by omega) hR HN2.out).mono ?_
      rintro e u2 ⟨rfl, R2, O2, hk2⟩
      have W4 := Lib.hid (W0.out.sub hk2 O2 (fun x hx => hx))
      have HRn := Lib.hid (Hrow.out _ (mkTokenS kk l[j]) _ W4.out.t W4.out.e R2)
      have HKn := Lib.hid (HK.trans (W4.out.t.keptAll hlt))
      have HOn := Lib.hid W4.out.o
      clear Hrow HR HO HK hnd hap hb W0 W4 R2 hk2 O2 HN2 c0 hR hE
      go_wp2
      go_roundw
      case rel => exact ⟨j + 1, _, _, by omega, by go_num, rfl, by show _ = _; have := HXK.out; omega, HX, HRn, HOn.out, HKn.out⟩
      case measure => simp [intOf]; omega
    · have HD := HM.out.done (by omega)
      have hjl : l.take j = l := List.take_of_length_le (by omega)
      have HKD := HKK.out
      rw [hjl] at HKD
      have HF := Lib.hid HKD
      have HRD := HR.out
      rw [HD] at HRD
      have HRF := Lib.hid HRD
      clear hjl HKD HRD HR HM HKK HD
      go_wp2
      go_ret
      exact ⟨by rw [HF.out]; rfl, HRF.out, HO, HK⟩

end Go.Proofs.Ytflbdanlcpojbaa

/- What stands for a place of a body (spec l10Part). (Made by gen_sub2.py.) -/
namespace Go.Proofs.Ytflbdanlcpojbaa
open Go.RowKit

theorem par_range (ps : List ByteArray) (t : Tok) : ∀ d k, ps.length - k = d → -1 ≤ parFrom ps t k ∧ parFrom ps t k < (ps.length : Int) := by
  intro d
  induction d with
  | zero => intro k hk; rw [parFrom, dif_neg (by omega)]; omega
  | succ d ih =>
    intro k hk
    rw [parFrom, dif_pos (by omega : k < ps.length)]
    split
    · omega
    · exact ih (k + 1) (by omega)
theorem par_nat {ps : List ByteArray} {t : Tok} (h : ¬ parOf ps t < 0) : ∃ n : Nat, parOf ps t = n ∧ n < ps.length := by
  have := par_range ps t _ 0 rfl
  have h2 : -1 ≤ parOf ps t ∧ parOf ps t < (ps.length : Int) := this
  exact ⟨(parOf ps t).toNat, by omega, by omega⟩
theorem isM_text {t : Tok} {l : List UInt8} (h : isM t l = true) : t.text = ⟨l.toArray⟩ := by
  unfold isM at h
  rw [Bool.and_eq_true, txt_dec, decide_eq_true_eq] at h
  exact of_decide_eq_true h.2
/-- Behind # there is a parameter. -/
theorem hash_next {m : DMacro} (h : macOk m = true) {k : Nat} (hk : k < m.body.length) (hf : m.function = true) (hi : isM m.body[k] [35] = true) : ∃ hk1 : k + 1 < m.body.length, ∃ n : Nat, parOf m.params m.body[k + 1] = n ∧ n < m.params.length := by
  have hb := (macOk_facts h).2.2 k hk
  have ht : m.body[k].text = hash1 := isM_text hi
  unfold bodOk at hb
  rw [dif_pos hk, Bool.and_eq_true] at hb
  have h2 := hb.2
  rw [hf, ht, decide_eq_true rfl] at h2
  by_cases hk1 : k + 1 < m.body.length
  · rw [dif_pos hk1] at h2
    refine ⟨hk1, par_nat fun hh => ?_⟩
    rw [decide_eq_true hh] at h2
    exact absurd h2 (by decide)
  · rw [dif_neg hk1] at h2
    exact absurd h2 (by decide)
/-- A token of a list: its cells. -/
theorem tok_at {w : World} {b off n cap : Nat} {l : List Tok} {fp : List Nat} (H : (sSlice sTok).R w [.slice (some ⟨b, off, none⟩) n cap] l fp) {j : Nat} (hj : j < l.length) :
    ∃ (aj : Option Addr) (cj : Nat) (fj : List Nat), w.cell? ⟨b, off + j * 4, none⟩ = some (.int .i64 l[j].kind) ∧ w.cell? ⟨b, off + j * 4 + 1, none⟩ = some (.string l[j].text) ∧ w.cell? ⟨b, off + j * 4 + 2, none⟩ = some (.bool l[j].spaced) ∧ w.cell? ⟨b, off + j * 4 + 3, none⟩ = some (.slice aj l[j].hidden.length cj) ∧
      sTok.R w [.int .i64 l[j].kind, .string l[j].text, .bool l[j].spaced, .slice aj l[j].hidden.length cj] l[j] fj ∧ b < w.heap.size ∧ ∀ x ∈ fj, x ∈ fp := by
  obtain ⟨a, cap', hv, hc, hm, hrow⟩ := open_rows H
  obtain ⟨b', off', fps, ha, hb, hfp, he⟩ := hrow (by omega)
  simp only [Value.slice.injEq] at hv
  obtain ⟨rfl, rfl, rfl⟩ := hv
  simp only [Option.some.injEq, Addr.mk.injEq, and_true] at ha
  obtain ⟨rfl, rfl⟩ := ha
  obtain ⟨es, hE, hR⟩ := he j hj
  have hR2 := hR
  obtain ⟨hh, rfl, -, -, K⟩ := hR2
  obtain ⟨aj, cj, rfl, -⟩ := open_strs K
  have c0 : w.cell? ⟨b, off + j * 4, none⟩ = some _ := elem_cell0 hE (by decide) rfl
  have c1 : w.cell? ⟨b, off + j * 4 + 1, none⟩ = some _ := elem_cell (j := 1) hE (by decide) rfl
  have c2 : w.cell? ⟨b, off + j * 4 + 2, none⟩ = some _ := elem_cell (j := 2) hE (by decide) rfl
  have c3 : w.cell? ⟨b, off + j * 4 + 3, none⟩ = some _ := elem_cell (j := 3) hE (by decide) rfl
  exact ⟨aj, cj, fps j, c0, c1, c2, c3, hR, hb, fun x hx => by rw [hfp]; exact List.mem_cons_of_mem _ (List.mem_flatMap.2 ⟨j, List.mem_range.2 hj, hx⟩)⟩
/-- A list of lists: the cell of one of them. -/
theorem rows_at {w : World} {b off n cap : Nat} {l : List (List Tok)} {fp : List Nat} (H : (sSlice (sSlice sTok)).R w [.slice (some ⟨b, off, none⟩) n cap] l fp) {j : Nat} (hj : j < l.length) :
    ∃ (aj : Option Addr) (cj : Nat) (fj : List Nat), w.cell? ⟨b, off + j, none⟩ = some (.slice aj l[j].length cj) ∧ (sSlice sTok).R w [.slice aj l[j].length cj] l[j] fj ∧ b < w.heap.size ∧ ∀ x ∈ fj, x ∈ fp := by
  obtain ⟨a, cap', hv, hc, hm, hrow⟩ := open_rows H
  obtain ⟨b', off', fps, ha, hb, hfp, he⟩ := hrow (by omega)
  simp only [Value.slice.injEq] at hv
  obtain ⟨rfl, rfl, rfl⟩ := hv
  simp only [Option.some.injEq, Addr.mk.injEq, and_true] at ha
  obtain ⟨rfl, rfl⟩ := ha
  obtain ⟨es, hE, hR⟩ := he j hj
  obtain ⟨aj, cj, rfl⟩ := cells_slice hR
  have c0 : w.cell? ⟨b, off + j * 1, none⟩ = some _ := elem_cell0 hE (by decide) rfl
  rw [Nat.mul_one] at c0
  exact ⟨aj, cj, fps j, c0, hR, hb, fun x hx => by rw [hfp]; exact List.mem_cons_of_mem _ (List.mem_flatMap.2 ⟨j, List.mem_range.2 hj, hx⟩)⟩
/-- What l10Part hands back. -/
def PartOf (P : List Tok × Nat × Bool) (B : Nat) (w : World) (e : Ending) (w' : World) : Prop :=
  ∃ (v : Value) (L : List (Elem Tok)), e = .returned (.tuple #[v, .int .i64 (P.2.1 : Nat), .bool P.2.2]) ∧ RowN sTok w.heap.size 35 v L w' ∧ L.map (·.d) = P.1 ∧ (∀ x ∈ L, ∀ b ∈ x.fp, b < B) ∧ Below w.heap.size w w'
theorem hash_toList : (⟨#[35]⟩ : ByteArray).toList = [35] := by rw [ByteArray.toList_eq]
theorem hash2_toList : (⟨#[35, 35]⟩ : ByteArray).toList = [35, 35] := by rw [ByteArray.toList_eq]

set_option maxHeartbeats 16000000 in
set_option maxRecDepth 100000 in
theorem spec_l10Part (csM : List Value) (m : DMacro) (fpM : List Nat) (vr vy : Value) (raw ready : List (List Tok)) (fpr fpy : List Nat) (k : Nat) (w : World) (hv : macOk m = true) (ha : argsOk m raw = true) (hy : argsOk m ready = true) (hk : k < m.body.length)
    (B : Nat) (hBm : ∀ b ∈ fpM, b < B) (hBr : ∀ b ∈ fpr, b < B) (hBy : ∀ b ∈ fpy, b < B) (HM : sMacro.R w csM m fpM) (Hr : (sSlice (sSlice sTok)).R w [vr] raw fpr) (Hy : (sSlice (sSlice sTok)).R w [vy] ready fpy) :
    Calls Try.prog 64 #[.agg csM.toArray, vr, vy, .int .i64 k] w (PartOf (partAt m raw ready k) B w) := by
  have HM0 := HM
  obtain ⟨h2, h3, q2, q3, rfl, -, K2, K3, hfpM⟩ := HM
  obtain ⟨a2, c2, rfl, -⟩ := open_strs K2
  obtain ⟨a3, c3, rfl, hc3, hm3, hrow3⟩ := open_rows K3
  obtain ⟨bb, ob, -, rfl, -, -, -⟩ := hrow3 (by omega)
  unfold maxLen at hm3
  have hmlt : ∀ b ∈ q3, b < B := fun b hb => hBm b (by rw [hfpM]; exact List.mem_append_right _ hb)
  have hlen20 : m.body.length ≤ 20 := (macOk_facts hv).1.2.2.2.2
  have hraw : Hid (raw.length = m.params.length) := by show _ = _; unfold argsOk at ha; rw [Bool.and_eq_true, decide_eq_true_eq] at ha; exact ha.1
  have hrdy : Hid (ready.length = m.params.length) := by show _ = _; unfold argsOk at hy; rw [Bool.and_eq_true, decide_eq_true_eq] at hy; exact hy.1
  have HRA : Hid (∀ l ∈ raw, toksOk l = true) := by show ∀ l ∈ raw, _; unfold argsOk at ha; rw [Bool.and_eq_true, List.all_eq_true] at ha; exact ha.2
  have HYA : Hid (∀ l ∈ ready, toksOk l = true) := by show ∀ l ∈ ready, _; unfold argsOk at hy; rw [Bool.and_eq_true, List.all_eq_true] at hy; exact hy.2
  have HLr := Lib.hid hBr
  have HLy := Lib.hid hBy
  obtain ⟨ak, ck, fk, e0, e1, e2, e3, Rk, hbb, hfk⟩ := tok_at K3 hk
  have HB3 := Lib.hid K3
  have HV := Lib.hid hv
  have b0 := alloc_below' w (.cells #[.string m.name, .bool m.function, .slice a2 m.params.length c2, .slice (some ⟨bb, ob, none⟩) m.body.length c3] 26)
  have b1 := alloc_below' (w.alloc (.cells #[.string m.name, .bool m.function, .slice a2 m.params.length c2, .slice (some ⟨bb, ob, none⟩) m.body.length c3] 26)) (.cells #[.int .i64 m.body[k].kind, .string m.body[k].text, .bool m.body[k].spaced, .slice ak m.body[k].hidden.length ck] 35)
  have b2 : Below w.heap.size w ((w.alloc (.cells #[.string m.name, .bool m.function, .slice a2 m.params.length c2, .slice (some ⟨bb, ob, none⟩) m.body.length c3] 26)).alloc (.cells #[.int .i64 m.body[k].kind, .string m.body[k].text, .bool m.body[k].spaced, .slice ak m.body[k].hidden.length ck] 35)) := b0.trans (b1.mono b0.size)
  have HX := Lib.hid (alloc2_blk w #[.string m.name, .bool m.function, .slice a2 m.params.length c2, .slice (some ⟨bb, ob, none⟩) m.body.length c3] #[.int .i64 m.body[k].kind, .string m.body[k].text, .bool m.body[k].spaced, .slice ak m.body[k].hidden.length ck] 26 35)
  have g0 : (w.alloc (.cells #[.string m.name, .bool m.function, .slice a2 m.params.length c2, .slice (some ⟨bb, ob, none⟩) m.body.length c3] 26)).cell? ⟨bb, ob + k * 4, none⟩ = some _ := (b0.cell (p := ⟨bb, ob + k * 4, none⟩) hbb).trans e0
  have g1 : (w.alloc (.cells #[.string m.name, .bool m.function, .slice a2 m.params.length c2, .slice (some ⟨bb, ob, none⟩) m.body.length c3] 26)).cell? ⟨bb, ob + k * 4 + 1, none⟩ = some _ := (b0.cell (p := ⟨bb, ob + k * 4 + 1, none⟩) hbb).trans e1
  have g2 : (w.alloc (.cells #[.string m.name, .bool m.function, .slice a2 m.params.length c2, .slice (some ⟨bb, ob, none⟩) m.body.length c3] 26)).cell? ⟨bb, ob + k * 4 + 2, none⟩ = some _ := (b0.cell (p := ⟨bb, ob + k * 4 + 2, none⟩) hbb).trans e2
  have g3 : (w.alloc (.cells #[.string m.name, .bool m.function, .slice a2 m.params.length c2, .slice (some ⟨bb, ob, none⟩) m.body.length c3] 26)).cell? ⟨bb, ob + k * 4 + 3, none⟩ = some _ := (b0.cell (p := ⟨bb, ob + k * 4 + 3, none⟩) hbb).trans e3
  have HRk := Lib.hid (sTok.below Rk b2)
  have HMr := Lib.hid (sMacro.below HM0 b2)
  have HRR := Lib.hid ((sSlice (sSlice sTok)).below Hr b2)
  have HYY := Lib.hid ((sSlice (sSlice sTok)).below Hy b2)
  have HB2 := Lib.hid ((sSlice sTok).below K3 b2)
  have hi0 : (0 : Int) ≤ (k : Int) := by omega
  have hi1 : (k : Int) < (m.body.length : Int) := by omega
  have hs2 : ((w.alloc (.cells #[.string m.name, .bool m.function, .slice a2 m.params.length c2, .slice (some ⟨bb, ob, none⟩) m.body.length c3] 26)).alloc (.cells #[.int .i64 m.body[k].kind, .string m.body[k].text, .bool m.body[k].spaced, .slice ak m.body[k].hidden.length ck] 35)).heap.size = w.heap.size + 2 := by show ((w.heap.push _).push _).size = _; simp
  have HFK : Hid (∀ b ∈ fk, b < B) := fun b hb => hmlt b (hfk b hb)
  clear HM0 K2 K3 Hr Hy Rk b0 b1 e0 e1 e2 e3 hv ha hy hfk hfpM hrow3
  go_enter Try.func64, Try.ntmps64
  go_upto_region 2 with fail
  clear g0 g1 g2 g3
  have hbs := b2.size
  generalize ((w.alloc (.cells #[.string m.name, .bool m.function, .slice a2 m.params.length c2, .slice (some ⟨bb, ob, none⟩) m.body.length c3] 26)).alloc (.cells #[.int .i64 m.body[k].kind, .string m.body[k].text, .bool m.body[k].spaced, .slice ak m.body[k].hidden.length ck] 35)) = W2 at *
  go_cut [26] from 16 (fun d wr => d = .bool (m.function && isM m.body[k] [35]) ∧ Below W2.heap.size W2 wr)
  case first =>
    have p0 := cell_of_row W2 (w.heap.size) 0 _ _ _ HX.out.1
    have p1 := cell_of_row W2 (w.heap.size) 1 _ _ _ HX.out.1
    have p2 := cell_of_row W2 (w.heap.size) 2 _ _ _ HX.out.1
    have p3 := cell_of_row W2 (w.heap.size) 3 _ _ _ HX.out.1
    rcases Bool.eq_false_or_eq_true m.function with hf | hf
    · have HFN := Lib.hid hf
      rw [hf] at p1
      clear hf
      have q0 := cell_of_row W2 (w.heap.size + 1) 0 _ _ _ HX.out.2
      have q1 := cell_of_row W2 (w.heap.size + 1) 1 _ _ _ HX.out.2
      have q2 := cell_of_row W2 (w.heap.size + 1) 2 _ _ _ HX.out.2
      have q3 := cell_of_row W2 (w.heap.size + 1) 3 _ _ _ HX.out.2
      have HIS := Lib.hid (spec_l7IsS _ m.body[k] fk W2 ⟨#[35]⟩ HRk.out)
      rw [hash_toList] at HIS
      have HE : Hid ((decide (m.body[k].kind = 4) && (m.body[k].text.toList == [35])) = isM m.body[k] [35]) := rfl
      rw [HE.out] at HIS
      go_wp2_with fail
      refine HIS.out.mono ?_
      rintro e w3 ⟨rfl, hb3⟩
      go_wp2
      go_meet
      case rel => exact ⟨by rw [HFN.out]; simp, hb3⟩
    · have HFN := Lib.hid hf
      rw [hf] at p1
      clear hf
      go_wp2
      go_meet
      case rel => exact ⟨by rw [HFN.out]; rfl, Below.refl _ _⟩
  obtain ⟨rfl, hbc⟩ := hcut
  generalize wc = W3 at *
  have HX3 := Lib.hid (And.intro (mbox HX.out.1 hbc) (mbox HX.out.2 hbc))
  cases hfi : (m.function && isM m.body[k] [35])
  rotate_left
  · skip
    obtain ⟨hft, hmt⟩ := Bool.and_eq_true_iff.1 hfi
    obtain ⟨hk1, n, hn, hnp⟩ := hash_next HV.out hk hft hmt
    have hnr : n < raw.length := by have := hraw.out; omega
    have HAR := Lib.hid (argAt_in (a := raw) hn hnr)
    have HPN := Lib.hid hn
    obtain ⟨kk, s, okb, hx, hkk0, hkk4, hsz⟩ := txt_bare raw[n]
    have HX0 := Lib.hid hx
    have HF := Lib.hid (part_text (raw := raw) (ready := ready) hk1 hft hmt (u := ⟨kk, s, false, []⟩) (o := okb) (by rw [HAR.out]; exact hx))
    obtain ⟨ya, yc, yf, yq0, yq1, yq2, yq3, yR, ybb, -⟩ := tok_at HB2.out (j := k + 1) hk1
    have y0 : W3.cell? ⟨bb, ob + (k + 1) * 4, none⟩ = some _ := (hbc.cell (p := ⟨bb, ob + (k + 1) * 4, none⟩) ybb).trans yq0
    have y1 : W3.cell? ⟨bb, ob + (k + 1) * 4 + 1, none⟩ = some _ := (hbc.cell (p := ⟨bb, ob + (k + 1) * 4 + 1, none⟩) ybb).trans yq1
    have y2 : W3.cell? ⟨bb, ob + (k + 1) * 4 + 2, none⟩ = some _ := (hbc.cell (p := ⟨bb, ob + (k + 1) * 4 + 2, none⟩) ybb).trans yq2
    have y3 : W3.cell? ⟨bb, ob + (k + 1) * 4 + 3, none⟩ = some _ := (hbc.cell (p := ⟨bb, ob + (k + 1) * 4 + 3, none⟩) ybb).trans yq3
    obtain ⟨ar, cr, rfl, -, -, hrowR⟩ := open_rows HRR.out
    obtain ⟨br, orr, -, rfl, -, -, -⟩ := hrowR (by omega)
    obtain ⟨aj, cj, fj, dq, Rj, hbr, -⟩ := rows_at HRR.out hnr
    have hTV := toksOk_facts (HRA.out _ (List.getElem_mem hnr))
    have HLP := Lib.hid (fun (U : World) (hU : Below W3.heap.size W3 U) => spec_l5Param _ _ m (m.body[k + 1]'hk1) _ _ U (sMacro.below (sMacro.below HMr.out hbc) hU) (sTok.below (sTok.below yR hbc) hU))
    rw [hn] at HLP
    have HTT := Lib.hid (fun (U : World) (hU : Below W3.heap.size W3 U) => spec_TextToken _ raw[n] fj U (by omega) (fun j hj => by have := (hid_at (tok_hidOk (hTV.2 j hj))).1; omega) ((sSlice sTok).below ((sSlice sTok).below Rj hbc) hU))
    have hz3 : W2.heap.size ≤ W3.heap.size := hbc.size
    have HS : Hid (∀ U : World, Below W3.heap.size W3 U → U.heap[w.heap.size]? = some (.cells #[.string m.name, .bool m.function, .slice a2 m.params.length c2, .slice (some ⟨bb, ob, none⟩) m.body.length c3] 26 (0, 0)) ∧ U.cell? ⟨bb, ob + (k + 1) * 4, none⟩ = some (.int .i64 (m.body[k + 1]'hk1).kind) ∧ U.cell? ⟨bb, ob + (k + 1) * 4 + 1, none⟩ = some (.string (m.body[k + 1]'hk1).text) ∧ U.cell? ⟨bb, ob + (k + 1) * 4 + 2, none⟩ = some (.bool (m.body[k + 1]'hk1).spaced) ∧ U.cell? ⟨bb, ob + (k + 1) * 4 + 3, none⟩ = some (.slice ya (m.body[k + 1]'hk1).hidden.length yc) ∧ U.cell? ⟨br, orr + n, none⟩ = some (.slice aj raw[n].length cj)) := fun U hU => ⟨mbox HX3.out.1 hU, (hU.cell (by show bb < W3.heap.size; omega)).trans y0, (hU.cell (by show bb < W3.heap.size; omega)).trans y1, (hU.cell (by show bb < W3.heap.size; omega)).trans y2, (hU.cell (by show bb < W3.heap.size; omega)).trans y3, (hU.cell (by show br < W3.heap.size; omega)).trans ((hbc.cell (p := ⟨br, orr + n, none⟩) hbr).trans dq)⟩
    have hcs : Below W3.heap.size W3 W3.drew := belowN (Below.refl _ _) 1
    have hw1 : IntKind.i64.wrap ((k : Int) + 1) = (k : Int) + 1 := IntWalk.i64_in _ (by omega)
    have j1 : (0 : Int) ≤ (k : Int) + 1 := by omega
    have j2 : (k : Int) + 1 < (m.body.length : Int) := by omega
    have j3 : ((k : Int) + 1).toNat = k + 1 := by omega
    have j4 : (0 : Int) ≤ (n : Int) := by omega
    have j5 : (n : Int) < (raw.length : Int) := by omega
    have hbmm : 0 < m.body.length := by omega
    clear hx hn hft hmt hfi yq0 yq1 yq2 yq3 yR y0 y1 y2 y3 dq Rj hrowR hTV
    go_upto_region 3 with fail
    go_cut [12, 13] from 16 (fun d b wr => ∃ (gB : Nat) (ax : Option Addr) (cx : Nat), d = .pointer (some ⟨gB, 0, none⟩) ∧ b = .bool okb ∧ wr.heap[gB]? = some (.cells #[.int .i64 kk, .string s, .bool false, .slice ax 0 cx] 35 (0, 0)) ∧ W3.heap.size ≤ gB ∧ gB < wr.heap.size ∧ cx ≤ maxLen ∧ Below W3.heap.size W3 wr)
    case first =>
      refine wp_region_noPanic ?_
      refine wp_region_held_drew (S := fun w' => w'.heap[w.heap.size]? = some (.cells #[.string m.name, .bool m.function, .slice a2 m.params.length c2, .slice (some ⟨bb, ob, none⟩) m.body.length c3] 26 (0, 0)) ∧ w'.cell? ⟨bb, ob + (k + 1) * 4, none⟩ = some (.int .i64 (m.body[k + 1]'hk1).kind) ∧ w'.cell? ⟨bb, ob + (k + 1) * 4 + 1, none⟩ = some (.string (m.body[k + 1]'hk1).text) ∧ w'.cell? ⟨bb, ob + (k + 1) * 4 + 2, none⟩ = some (.bool (m.body[k + 1]'hk1).spaced) ∧ w'.cell? ⟨bb, ob + (k + 1) * 4 + 3, none⟩ = some (.slice ya (m.body[k + 1]'hk1).hidden.length yc) ∧ w'.cell? ⟨br, orr + n, none⟩ = some (.slice aj raw[n].length cj)) (by kernel_rfl) (by exact HS.out _ hcs) (fun hHeld => ?_)
      generalize W3.drew = wd at *
      refine takeH2 0 28 (v := ?_) rfl rfl (by kernel_rfl) (by kernel_rfl) (by kernel_rfl) (fun _ _ _ h => h) (by rfl) (by assumption) ?_ ?_
      rotate_left
      · intro w hSw; go_simp; (first | done | with_reducible rfl | rfl)
      try simp only [Act.put, List.setIfInBounds_toArray, List.set_cons_zero, List.set_cons_succ]
      refine takeH2 1 29 (v := ?_) rfl rfl (by kernel_rfl) (by kernel_rfl) (by kernel_rfl) (fun _ _ _ h => h) (by rfl) (by assumption) ?_ ?_
      rotate_left
      · intro w hSw; obtain ⟨sm, s0, s1, s2, s3, sr⟩ := hSw; have m0 := cell_of_row _ _ 0 _ _ _ sm; have m1 := cell_of_row _ _ 1 _ _ _ sm; have m2 := cell_of_row _ _ 2 _ _ _ sm; have m3 := cell_of_row _ _ 3 _ _ _ sm; go_simp; (first | done | with_reducible rfl | rfl)
      try simp only [Act.put, List.setIfInBounds_toArray, List.set_cons_zero, List.set_cons_succ]
      refine takeH2 2 30 (v := ?_) rfl rfl (by kernel_rfl) (by kernel_rfl) (by kernel_rfl) (fun _ _ _ h => h) (by rfl) (by assumption) ?_ ?_
      rotate_left
      · intro w hSw; go_simp; (first | done | with_reducible rfl | rfl)
      try simp only [Act.put, List.setIfInBounds_toArray, List.set_cons_zero, List.set_cons_succ]
      refine takeH2 3 31 (v := ?_) rfl rfl (by kernel_rfl) (by kernel_rfl) (by kernel_rfl) (fun _ _ _ h => h) (by rfl) (by assumption) ?_ ?_
      rotate_left
      · intro w hSw; obtain ⟨sm, s0, s1, s2, s3, sr⟩ := hSw; have m0 := cell_of_row _ _ 0 _ _ _ sm; have m1 := cell_of_row _ _ 1 _ _ _ sm; have m2 := cell_of_row _ _ 2 _ _ _ sm; have m3 := cell_of_row _ _ 3 _ _ _ sm; go_simp; (first | done | with_reducible rfl | rfl)
      try simp only [Act.put, List.setIfInBounds_toArray, List.set_cons_zero, List.set_cons_succ]
      refine takeH2 4 32 (v := ?_) rfl rfl (by kernel_rfl) (by kernel_rfl) (by kernel_rfl) (fun _ _ _ h => h) (by rfl) (by assumption) ?_ ?_
      rotate_left
      · intro w hSw; go_simp; (first | done | with_reducible rfl | rfl)
      try simp only [Act.put, List.setIfInBounds_toArray, List.set_cons_zero, List.set_cons_succ]
      refine takeH2 5 33 (v := ?_) rfl rfl (by kernel_rfl) (by kernel_rfl) (by kernel_rfl) (fun _ _ _ h => h) (by rfl) (by assumption) ?_ ?_
      rotate_left
      · intro w hSw; go_simp; (first | done | with_reducible rfl | rfl)
      try simp only [Act.put, List.setIfInBounds_toArray, List.set_cons_zero, List.set_cons_succ]
      refine takeH2 6 34 (v := ?_) rfl rfl (by kernel_rfl) (by kernel_rfl) (by kernel_rfl) (fun _ _ _ h => h) (by rfl) (by assumption) ?_ ?_
      rotate_left
      · intro w hSw; go_simp; (first | done | with_reducible rfl | rfl)
      try simp only [Act.put, List.setIfInBounds_toArray, List.set_cons_zero, List.set_cons_succ]
      refine takeH2 7 35 (v := ?_) rfl rfl (by kernel_rfl) (by kernel_rfl) (by kernel_rfl) (fun _ _ _ h => h) (by rfl) (by assumption) ?_ ?_
      rotate_left
      · intro w hSw; obtain ⟨sm, s0, s1, s2, s3, sr⟩ := hSw; have m0 := cell_of_row _ _ 0 _ _ _ sm; have m1 := cell_of_row _ _ 1 _ _ _ sm; have m2 := cell_of_row _ _ 2 _ _ _ sm; have m3 := cell_of_row _ _ 3 _ _ _ sm; go_simp; (first | done | with_reducible rfl | rfl)
      try simp only [Act.put, List.setIfInBounds_toArray, List.set_cons_zero, List.set_cons_succ]
      refine wpAnyH_ready (rs := [8, 15]) (by kernel_rfl) (by simp) ?_
      refine AllReadyH.cons rfl (fun K hK => ?_) ?_
      · skip
        go_simp
        refine (HLP.out _ hcs).mono ?_
        rintro e wx1 ⟨rfl, br1⟩
        have hx1 := hcs.trans (br1.mono hcs.size)
        refine hK.out _ _ (HS.out _ hx1) (fun hHeld => ?_)
        clear hK K
        try simp only [Act.put, List.setIfInBounds_toArray, List.set_cons_zero, List.set_cons_succ]
        refine takeH2 9 37 (v := ?_) rfl rfl (by kernel_rfl) (by kernel_rfl) (by kernel_rfl) (fun _ _ _ h => h) (by rfl) (by assumption) ?_ ?_
        rotate_left
        · intro w hSw; go_simp; (first | done | with_reducible rfl | rfl)
        try simp only [Act.put, List.setIfInBounds_toArray, List.set_cons_zero, List.set_cons_succ]
        refine takeH2 10 38 (v := ?_) rfl rfl (by kernel_rfl) (by kernel_rfl) (by kernel_rfl) (fun _ _ _ h => h) (by rfl) (by assumption) ?_ ?_
        rotate_left
        · intro w hSw; obtain ⟨sm, s0, s1, s2, s3, sr⟩ := hSw; have m0 := cell_of_row _ _ 0 _ _ _ sm; have m1 := cell_of_row _ _ 1 _ _ _ sm; have m2 := cell_of_row _ _ 2 _ _ _ sm; have m3 := cell_of_row _ _ 3 _ _ _ sm; go_simp; (first | done | with_reducible rfl | rfl)
        try simp only [Act.put, List.setIfInBounds_toArray, List.set_cons_zero, List.set_cons_succ]
        refine wpAnyH_ready (rs := [11, 15]) (by kernel_rfl) (by simp) ?_
        refine AllReadyH.cons rfl (fun K hK => ?_) ?_
        · skip
          go_simp
          refine (HTT.out _ hx1).mono ?_
          rintro e wx2 hT2
          obtain ⟨k9, s9, b9, ax, cx, e9, rfl, -, -, -, hcx, br2⟩ := hT2.bare
          rw [HX0.out] at e9
          simp only [Prod.mk.injEq, Tok.mk.injEq, and_true] at e9
          obtain ⟨⟨rfl, rfl⟩, rfl⟩ := e9
          have hx2 := hx1.trans (br2.mono hx1.size)
          refine hK.out _ _ (HS.out _ hx2) (fun hHeld => ?_)
          clear hK K
          try simp only [Act.put, List.setIfInBounds_toArray, List.set_cons_zero, List.set_cons_succ]
          refine takeH2 12 27 (v := ?_) rfl rfl (by kernel_rfl) (by kernel_rfl) (by kernel_rfl) (fun _ _ _ h => h) (by rfl) (by assumption) ?_ ?_
          rotate_left
          · intro w hSw; go_simp; (first | done | with_reducible rfl | rfl)
          try simp only [Act.put, List.setIfInBounds_toArray, List.set_cons_zero, List.set_cons_succ]
          refine takeH2 13 40 (v := ?_) rfl rfl (by kernel_rfl) (by kernel_rfl) (by kernel_rfl) (fun _ _ _ h => h) (by rfl) (by assumption) ?_ ?_
          rotate_left
          · intro w hSw; go_simp; (first | done | with_reducible rfl | rfl)
          try simp only [Act.put, List.setIfInBounds_toArray, List.set_cons_zero, List.set_cons_succ]
          refine takeH2 14 41 (v := ?_) rfl rfl (by kernel_rfl) (by kernel_rfl) (by kernel_rfl) (fun _ _ _ h => h) (by rfl) (by assumption) ?_ ?_
          rotate_left
          · intro w hSw; go_simp; (first | done | with_reducible rfl | rfl)
          try simp only [Act.put, List.setIfInBounds_toArray, List.set_cons_zero, List.set_cons_succ]
          refine wpAnyH_ready (rs := [15]) (by kernel_rfl) (by simp) ?_
          refine AllReadyH.cons rfl (fun K hK => ?_) AllReadyH.nil
          go_simp
          have bk := alloc_below' wx2 (.cells #[.int .i64 0, .string ⟨#[]⟩, .bool false, .slice none 0 0] 35)
          have HB := Lib.hid (heap_alloc_new wx2 (.cells #[.int .i64 0, .string ⟨#[]⟩, .bool false, .slice none 0 0] 35))
          have hx3 := hx2.trans (bk.mono hx2.size)
          have hge := hx2.size
          refine hK.out _ _ (HS.out _ hx3) (fun hHeld => ?_)
          clear hK K bk
          try simp only [Act.put, List.setIfInBounds_toArray, List.set_cons_zero, List.set_cons_succ]
          generalize (wx2.alloc (.cells #[.int .i64 0, .string ⟨#[]⟩, .bool false, .slice none 0 0] 35)) = wx3 at *
          have zc0 := cell_of_row wx3 (wx2.heap.size) 0 _ _ _ HB.out
          have zf0 : wx3.frozen? ⟨wx2.heap.size, 0, none⟩ = false := frozen_of_row _ _ 0 _ _ HB.out
          have zc1 := cell_of_row wx3 (wx2.heap.size) 1 _ _ _ HB.out
          have zf1 : wx3.frozen? ⟨wx2.heap.size, 1, none⟩ = false := frozen_of_row _ _ 1 _ _ HB.out
          have zc2 := cell_of_row wx3 (wx2.heap.size) 2 _ _ _ HB.out
          have zf2 : wx3.frozen? ⟨wx2.heap.size, 2, none⟩ = false := frozen_of_row _ _ 2 _ _ HB.out
          have zc3 := cell_of_row wx3 (wx2.heap.size) 3 _ _ _ HB.out
          have zf3 : wx3.frozen? ⟨wx2.heap.size, 3, none⟩ = false := frozen_of_row _ _ 3 _ _ HB.out
          have HD1 := Lib.hid (set4_at HB.out (.int .i64 kk) (.string s) (.bool false) (.slice ax 0 cx))
          have HD2 := Lib.hid (set4_below (g := wx2.heap.size) hx3 hge (.int .i64 kk) (.string s) (.bool false) (.slice ax 0 cx))
          have HD3 : Hid (wx2.heap.size < (set4 wx3 (wx2.heap.size) (.int .i64 kk) (.string s) (.bool false) (.slice ax 0 cx)).heap.size) := by show _ < _; rw [set4_size]; exact mlt HB.out
          refine wpAnyH_ready (rs := [16]) (by kernel_rfl) (by simp) ?_
          refine AllReadyH.cons rfl (fun K hK => ?_) AllReadyH.nil
          go_simp
          change K _ (set4 wx3 (wx2.heap.size) (.int .i64 kk) (.string s) (.bool false) (.slice ax 0 cx))
          refine hK.out _ _ (HS.out _ HD2.out) (fun hHeld => ?_)
          clear hK K
          try simp only [Act.put, List.setIfInBounds_toArray, List.set_cons_zero, List.set_cons_succ]
          refine takeH2 17 13 (v := ?_) rfl rfl (by kernel_rfl) (by kernel_rfl) (by kernel_rfl) (fun _ _ _ h => h) (by rfl) (by assumption) ?_ ?_
          rotate_left
          · intro w hSw; go_simp; (first | done | with_reducible rfl | rfl)
          try simp only [Act.put, List.setIfInBounds_toArray, List.set_cons_zero, List.set_cons_succ]
          refine wpAnyH_done (by kernel_rfl) ?_ _
          refine NoPanic.normal ?_
          clear hHeld
          go_wp2
          go_meet
          case rel => exact ⟨_, ax, cx, rfl, rfl, HD1.out, hge, HD3.out, hcx, HD2.out⟩
        refine AllReadyH.cons rfl (fun K hK => ?_) AllReadyH.nil
        go_simp
        have bk := alloc_below' wx1 (.cells #[.int .i64 0, .string ⟨#[]⟩, .bool false, .slice none 0 0] 35)
        have HB := Lib.hid (heap_alloc_new wx1 (.cells #[.int .i64 0, .string ⟨#[]⟩, .bool false, .slice none 0 0] 35))
        have hx4 := hx1.trans (bk.mono hx1.size)
        have hge := hx1.size
        refine hK.out _ _ (HS.out _ hx4) (fun hHeld => ?_)
        clear hK K bk
        try simp only [Act.put, List.setIfInBounds_toArray, List.set_cons_zero, List.set_cons_succ]
        generalize (wx1.alloc (.cells #[.int .i64 0, .string ⟨#[]⟩, .bool false, .slice none 0 0] 35)) = wx4 at *
        refine wpAnyH_ready (rs := [11]) (by kernel_rfl) (by simp) ?_
        refine AllReadyH.cons rfl (fun K hK => ?_) AllReadyH.nil
        go_simp
        refine (HTT.out _ hx4).mono ?_
        rintro e wx5 hT5
        obtain ⟨k9, s9, b9, ax, cx, e9, rfl, -, -, -, hcx, br5⟩ := hT5.bare
        rw [HX0.out] at e9
        simp only [Prod.mk.injEq, Tok.mk.injEq, and_true] at e9
        obtain ⟨⟨rfl, rfl⟩, rfl⟩ := e9
        have hx5 := hx4.trans (br5.mono hx4.size)
        have HB5 := Lib.hid (mbox HB.out br5)
        refine hK.out _ _ (HS.out _ hx5) (fun hHeld => ?_)
        clear hK K
        try simp only [Act.put, List.setIfInBounds_toArray, List.set_cons_zero, List.set_cons_succ]
        refine takeH2 12 27 (v := ?_) rfl rfl (by kernel_rfl) (by kernel_rfl) (by kernel_rfl) (fun _ _ _ h => h) (by rfl) (by assumption) ?_ ?_
        rotate_left
        · intro w hSw; go_simp; (first | done | with_reducible rfl | rfl)
        try simp only [Act.put, List.setIfInBounds_toArray, List.set_cons_zero, List.set_cons_succ]
        refine takeH2 13 40 (v := ?_) rfl rfl (by kernel_rfl) (by kernel_rfl) (by kernel_rfl) (fun _ _ _ h => h) (by rfl) (by assumption) ?_ ?_
        rotate_left
        · intro w hSw; go_simp; (first | done | with_reducible rfl | rfl)
        try simp only [Act.put, List.setIfInBounds_toArray, List.set_cons_zero, List.set_cons_succ]
        refine takeH2 14 41 (v := ?_) rfl rfl (by kernel_rfl) (by kernel_rfl) (by kernel_rfl) (fun _ _ _ h => h) (by rfl) (by assumption) ?_ ?_
        rotate_left
        · intro w hSw; go_simp; (first | done | with_reducible rfl | rfl)
        try simp only [Act.put, List.setIfInBounds_toArray, List.set_cons_zero, List.set_cons_succ]
        have zc0 := cell_of_row wx5 (wx1.heap.size) 0 _ _ _ HB5.out
        have zf0 : wx5.frozen? ⟨wx1.heap.size, 0, none⟩ = false := frozen_of_row _ _ 0 _ _ HB5.out
        have zc1 := cell_of_row wx5 (wx1.heap.size) 1 _ _ _ HB5.out
        have zf1 : wx5.frozen? ⟨wx1.heap.size, 1, none⟩ = false := frozen_of_row _ _ 1 _ _ HB5.out
        have zc2 := cell_of_row wx5 (wx1.heap.size) 2 _ _ _ HB5.out
        have zf2 : wx5.frozen? ⟨wx1.heap.size, 2, none⟩ = false := frozen_of_row _ _ 2 _ _ HB5.out
        have zc3 := cell_of_row wx5 (wx1.heap.size) 3 _ _ _ HB5.out
        have zf3 : wx5.frozen? ⟨wx1.heap.size, 3, none⟩ = false := frozen_of_row _ _ 3 _ _ HB5.out
        have HD1 := Lib.hid (set4_at HB5.out (.int .i64 kk) (.string s) (.bool false) (.slice ax 0 cx))
        have HD2 := Lib.hid (set4_below (g := wx1.heap.size) hx5 hge (.int .i64 kk) (.string s) (.bool false) (.slice ax 0 cx))
        have HD3 : Hid (wx1.heap.size < (set4 wx5 (wx1.heap.size) (.int .i64 kk) (.string s) (.bool false) (.slice ax 0 cx)).heap.size) := by show _ < _; rw [set4_size]; exact mlt HB5.out
        refine wpAnyH_ready (rs := [16]) (by kernel_rfl) (by simp) ?_
        refine AllReadyH.cons rfl (fun K hK => ?_) AllReadyH.nil
        go_simp
        change K _ (set4 wx5 (wx1.heap.size) (.int .i64 kk) (.string s) (.bool false) (.slice ax 0 cx))
        refine hK.out _ _ (HS.out _ HD2.out) (fun hHeld => ?_)
        clear hK K
        try simp only [Act.put, List.setIfInBounds_toArray, List.set_cons_zero, List.set_cons_succ]
        refine takeH2 17 13 (v := ?_) rfl rfl (by kernel_rfl) (by kernel_rfl) (by kernel_rfl) (fun _ _ _ h => h) (by rfl) (by assumption) ?_ ?_
        rotate_left
        · intro w hSw; go_simp; (first | done | with_reducible rfl | rfl)
        try simp only [Act.put, List.setIfInBounds_toArray, List.set_cons_zero, List.set_cons_succ]
        refine wpAnyH_done (by kernel_rfl) ?_ _
        refine NoPanic.normal ?_
        clear hHeld
        go_wp2
        go_meet
        case rel => exact ⟨_, ax, cx, rfl, rfl, HD1.out, hge, HD3.out, hcx, HD2.out⟩
      refine AllReadyH.cons rfl (fun K hK => ?_) AllReadyH.nil
      go_simp
      have bk := alloc_below' wd (.cells #[.int .i64 0, .string ⟨#[]⟩, .bool false, .slice none 0 0] 35)
      have HB := Lib.hid (heap_alloc_new wd (.cells #[.int .i64 0, .string ⟨#[]⟩, .bool false, .slice none 0 0] 35))
      have hx6 := hcs.trans (bk.mono hcs.size)
      have hge := hcs.size
      refine hK.out _ _ (HS.out _ hx6) (fun hHeld => ?_)
      clear hK K bk
      try simp only [Act.put, List.setIfInBounds_toArray, List.set_cons_zero, List.set_cons_succ]
      generalize (wd.alloc (.cells #[.int .i64 0, .string ⟨#[]⟩, .bool false, .slice none 0 0] 35)) = wx6 at *
      refine wpAnyH_ready (rs := [8]) (by kernel_rfl) (by simp) ?_
      refine AllReadyH.cons rfl (fun K hK => ?_) AllReadyH.nil
      go_simp
      refine (HLP.out _ hx6).mono ?_
      rintro e wx7 ⟨rfl, br7⟩
      have hx7 := hx6.trans (br7.mono hx6.size)
      have HB7 := Lib.hid (mbox HB.out br7)
      refine hK.out _ _ (HS.out _ hx7) (fun hHeld => ?_)
      clear hK K
      try simp only [Act.put, List.setIfInBounds_toArray, List.set_cons_zero, List.set_cons_succ]
      refine takeH2 9 37 (v := ?_) rfl rfl (by kernel_rfl) (by kernel_rfl) (by kernel_rfl) (fun _ _ _ h => h) (by rfl) (by assumption) ?_ ?_
      rotate_left
      · intro w hSw; go_simp; (first | done | with_reducible rfl | rfl)
      try simp only [Act.put, List.setIfInBounds_toArray, List.set_cons_zero, List.set_cons_succ]
      refine takeH2 10 38 (v := ?_) rfl rfl (by kernel_rfl) (by kernel_rfl) (by kernel_rfl) (fun _ _ _ h => h) (by rfl) (by assumption) ?_ ?_
      rotate_left
      · intro w hSw; obtain ⟨sm, s0, s1, s2, s3, sr⟩ := hSw; have m0 := cell_of_row _ _ 0 _ _ _ sm; have m1 := cell_of_row _ _ 1 _ _ _ sm; have m2 := cell_of_row _ _ 2 _ _ _ sm; have m3 := cell_of_row _ _ 3 _ _ _ sm; go_simp; (first | done | with_reducible rfl | rfl)
      try simp only [Act.put, List.setIfInBounds_toArray, List.set_cons_zero, List.set_cons_succ]
      refine wpAnyH_ready (rs := [11]) (by kernel_rfl) (by simp) ?_
      refine AllReadyH.cons rfl (fun K hK => ?_) AllReadyH.nil
      go_simp
      refine (HTT.out _ hx7).mono ?_
      rintro e wx8 hT8
      obtain ⟨k9, s9, b9, ax, cx, e9, rfl, -, -, -, hcx, br8⟩ := hT8.bare
      rw [HX0.out] at e9
      simp only [Prod.mk.injEq, Tok.mk.injEq, and_true] at e9
      obtain ⟨⟨rfl, rfl⟩, rfl⟩ := e9
      have hx8 := hx7.trans (br8.mono hx7.size)
      have HB8 := Lib.hid (mbox HB7.out br8)
      refine hK.out _ _ (HS.out _ hx8) (fun hHeld => ?_)
      clear hK K
      try simp only [Act.put, List.setIfInBounds_toArray, List.set_cons_zero, List.set_cons_succ]
      refine takeH2 12 27 (v := ?_) rfl rfl (by kernel_rfl) (by kernel_rfl) (by kernel_rfl) (fun _ _ _ h => h) (by rfl) (by assumption) ?_ ?_
      rotate_left
      · intro w hSw; go_simp; (first | done | with_reducible rfl | rfl)
      try simp only [Act.put, List.setIfInBounds_toArray, List.set_cons_zero, List.set_cons_succ]
      refine takeH2 13 40 (v := ?_) rfl rfl (by kernel_rfl) (by kernel_rfl) (by kernel_rfl) (fun _ _ _ h => h) (by rfl) (by assumption) ?_ ?_
      rotate_left
      · intro w hSw; go_simp; (first | done | with_reducible rfl | rfl)
      try simp only [Act.put, List.setIfInBounds_toArray, List.set_cons_zero, List.set_cons_succ]
      refine takeH2 14 41 (v := ?_) rfl rfl (by kernel_rfl) (by kernel_rfl) (by kernel_rfl) (fun _ _ _ h => h) (by rfl) (by assumption) ?_ ?_
      rotate_left
      · intro w hSw; go_simp; (first | done | with_reducible rfl | rfl)
      try simp only [Act.put, List.setIfInBounds_toArray, List.set_cons_zero, List.set_cons_succ]
      have zc0 := cell_of_row wx8 (wd.heap.size) 0 _ _ _ HB8.out
      have zf0 : wx8.frozen? ⟨wd.heap.size, 0, none⟩ = false := frozen_of_row _ _ 0 _ _ HB8.out
      have zc1 := cell_of_row wx8 (wd.heap.size) 1 _ _ _ HB8.out
      have zf1 : wx8.frozen? ⟨wd.heap.size, 1, none⟩ = false := frozen_of_row _ _ 1 _ _ HB8.out
      have zc2 := cell_of_row wx8 (wd.heap.size) 2 _ _ _ HB8.out
      have zf2 : wx8.frozen? ⟨wd.heap.size, 2, none⟩ = false := frozen_of_row _ _ 2 _ _ HB8.out
      have zc3 := cell_of_row wx8 (wd.heap.size) 3 _ _ _ HB8.out
      have zf3 : wx8.frozen? ⟨wd.heap.size, 3, none⟩ = false := frozen_of_row _ _ 3 _ _ HB8.out
      have HD1 := Lib.hid (set4_at HB8.out (.int .i64 kk) (.string s) (.bool false) (.slice ax 0 cx))
      have HD2 := Lib.hid (set4_below (g := wd.heap.size) hx8 hge (.int .i64 kk) (.string s) (.bool false) (.slice ax 0 cx))
      have HD3 : Hid (wd.heap.size < (set4 wx8 (wd.heap.size) (.int .i64 kk) (.string s) (.bool false) (.slice ax 0 cx)).heap.size) := by show _ < _; rw [set4_size]; exact mlt HB8.out
      refine wpAnyH_ready (rs := [16]) (by kernel_rfl) (by simp) ?_
      refine AllReadyH.cons rfl (fun K hK => ?_) AllReadyH.nil
      go_simp
      change K _ (set4 wx8 (wd.heap.size) (.int .i64 kk) (.string s) (.bool false) (.slice ax 0 cx))
      refine hK.out _ _ (HS.out _ HD2.out) (fun hHeld => ?_)
      clear hK K
      try simp only [Act.put, List.setIfInBounds_toArray, List.set_cons_zero, List.set_cons_succ]
      refine takeH2 17 13 (v := ?_) rfl rfl (by kernel_rfl) (by kernel_rfl) (by kernel_rfl) (fun _ _ _ h => h) (by rfl) (by assumption) ?_ ?_
      rotate_left
      · intro w hSw; go_simp; (first | done | with_reducible rfl | rfl)
      try simp only [Act.put, List.setIfInBounds_toArray, List.set_cons_zero, List.set_cons_succ]
      refine wpAnyH_done (by kernel_rfl) ?_ _
      refine NoPanic.normal ?_
      clear hHeld
      go_wp2
      go_meet
      case rel => exact ⟨_, ax, cx, rfl, rfl, HD1.out, hge, HD3.out, hcx, HD2.out⟩
    obtain ⟨gB, ax, cx, rfl, rfl, HG0, hg1, hg2, hcx, hbg⟩ := hcut
    generalize wc = W4 at *
    have HG := Lib.hid HG0
    have HTB := Lib.hid (mbox HX3.out.2 hbg)
    clear HG0 HS HLP HTT hcs
    have hx2 : w.heap.size + 1 < W3.heap.size := mlt HX3.out.2
    have t2 := cell_of_row W4 (w.heap.size + 1) 2 _ _ _ HTB.out
    have g0 := cell_of_row W4 (gB) 0 _ _ _ HG.out
    have g1 := cell_of_row W4 (gB) 1 _ _ _ HG.out
    have g2 := cell_of_row W4 (gB) 2 _ _ _ HG.out
    have g3 := cell_of_row W4 (gB) 3 _ _ _ HG.out
    have gf2 : W4.frozen? ⟨gB, 2, none⟩ = false := frozen_of_row _ _ 2 _ _ HG.out
    have hb4 := (b2.trans (hbc.mono b2.size)).trans (hbg.mono (b2.trans (hbc.mono b2.size)).size)
    have hb5 := hb4.setCell (p := ⟨gB, 2, none⟩) (by show w.heap.size ≤ gB; omega) (.bool m.body[k].spaced)
    have HG2 := Lib.hid (blk_set HG.out 2 (.bool m.body[k].spaced))
    go_upto_region 5 with fail
    clear t2 g0 g1 g2 g3 gf2 HG HTB hb4
    generalize W4.setCell ⟨gB, 2, none⟩ (.bool m.body[k].spaced) = W5 at *
    have g0 := cell_of_row W5 (gB) 0 _ _ _ HG2.out
    have g1 := cell_of_row W5 (gB) 1 _ _ _ HG2.out
    have g2 := cell_of_row W5 (gB) 2 _ _ _ HG2.out
    have g3 := cell_of_row W5 (gB) 3 _ _ _ HG2.out
    have hw2 : IntKind.i64.wrap ((k : Int) + 2) = (k : Int) + 2 := IntWalk.i64_in _ (by omega)
    have HL := Lib.hid (RowN.lit1 (S := sTok) (e := 35) (w := W5) (base := w.heap.size) (x := ⟨[.int .i64 kk, .string s, .bool m.body[k].spaced, .slice ax 0 cx], ⟨kk, s, m.body[k].spaced, []⟩, []⟩) hb5.size rfl (tok_bareA kk s _ ax cx W5 hkk0 hkk4 (by omega) hcx))
    have hbe := hb5.trans ((alloc_below' W5 (.cells #[.int .i64 kk, .string s, .bool m.body[k].spaced, .slice ax 0 cx] 35)).mono hb5.size)
    go_wp2
    go_ret3
    exact ⟨.slice (some ⟨W5.heap.size, 0, none⟩) 1 1, _, by rw [HF.out]; rfl, HL.out, by rw [HF.out]; rfl, fun x hx => by obtain rfl := List.mem_singleton.1 hx; intro b hb; simp at hb, hbe⟩
  have HNF : Hid (¬ (m.function = true ∧ isM m.body[k] [35] = true)) := fun h => by rw [h.1, h.2] at hfi; exact absurd hfi (by simp)
  clear hfi
  have p0 := cell_of_row W3 (w.heap.size) 0 _ _ _ HX3.out.1
  have p1 := cell_of_row W3 (w.heap.size) 1 _ _ _ HX3.out.1
  have p2 := cell_of_row W3 (w.heap.size) 2 _ _ _ HX3.out.1
  have p3 := cell_of_row W3 (w.heap.size) 3 _ _ _ HX3.out.1
  have q0 := cell_of_row W3 (w.heap.size + 1) 0 _ _ _ HX3.out.2
  have q1 := cell_of_row W3 (w.heap.size + 1) 1 _ _ _ HX3.out.2
  have q2 := cell_of_row W3 (w.heap.size + 1) 2 _ _ _ HX3.out.2
  have q3 := cell_of_row W3 (w.heap.size + 1) 3 _ _ _ HX3.out.2
  have HP := Lib.hid (spec_l5Param _ _ m m.body[k] _ _ W3 (sMacro.below HMr.out hbc) (sTok.below HRk.out hbc))
  go_wp2_with fail
  refine HP.out.mono ?_
  rintro e W4 ⟨rfl, hb4⟩
  clear p0 p1 p2 p3 q0 q1 q2 q3 HP
  have hbd := hbc.trans (hb4.mono hbc.size)
  have HX4 := Lib.hid (And.intro (mbox HX.out.1 hbd) (mbox HX.out.2 hbd))
  have hk1 : IntKind.i64.wrap ((k : Int) + 1) = (k : Int) + 1 := IntWalk.i64_in _ (by omega)
  by_cases hp : parOf m.params m.body[k] < 0
  · have HF := Lib.hid (part_self (raw := raw) (ready := ready) hk HNF.out hp)
    have q0 := cell_of_row W4 (w.heap.size + 1) 0 _ _ _ HX4.out.2
    have q1 := cell_of_row W4 (w.heap.size + 1) 1 _ _ _ HX4.out.2
    have q2 := cell_of_row W4 (w.heap.size + 1) 2 _ _ _ HX4.out.2
    have q3 := cell_of_row W4 (w.heap.size + 1) 3 _ _ _ HX4.out.2
    have HL := Lib.hid (RowN.lit1 (S := sTok) (e := 35) (w := W4) (base := w.heap.size) (x := ⟨[.int .i64 m.body[k].kind, .string m.body[k].text, .bool m.body[k].spaced, .slice ak m.body[k].hidden.length ck], m.body[k], fk⟩) (by have := hbd.size; omega) rfl (sTok.below HRk.out hbd))
    have hbe := (b2.trans (hbd.mono b2.size)).trans ((alloc_below' W4 (.cells #[.int .i64 m.body[k].kind, .string m.body[k].text, .bool m.body[k].spaced, .slice ak m.body[k].hidden.length ck] 35)).mono (b2.trans (hbd.mono b2.size)).size)
    generalize parOf m.params m.body[k] = pn at *
    go_wp2
    go_ret3
    exact ⟨.slice (some ⟨W4.heap.size, 0, none⟩) 1 1, _, by rw [HF.out]; rfl, HL.out, by rw [HF.out]; rfl, fun x hx => by obtain rfl := List.mem_singleton.1 hx; exact HFK.out, hbe⟩
  obtain ⟨n, hn, hnp⟩ := par_nat hp
  have HPN := Lib.hid hn
  have HPP := Lib.hid hp
  rw [hn]
  clear hn hp
  have hn0 : ¬ ((n : Int) < 0) := by omega
  have HI2 : Hid (∀ (cs : List Value) (x : Tok) (fp : List Nat) (W : World), sTok.R W cs x fp → Calls Try.prog 63 #[.agg cs.toArray, .string ⟨#[35, 35]⟩] W (Says (isM x [35, 35]) W)) := fun cs x fp W h => by have := spec_l7IsS cs x fp W ⟨#[35, 35]⟩ h; rw [hash2_toList] at this; exact this
  go_upto_region 9 with fail
  go_cut [15] from 16 (fun d wr => d = .bool (glueL m k || glueR m k) ∧ Below W2.heap.size W2 wr)
  case first =>
    have p0 := cell_of_row W4 (w.heap.size) 0 _ _ _ HX4.out.1
    have p1 := cell_of_row W4 (w.heap.size) 1 _ _ _ HX4.out.1
    have p2 := cell_of_row W4 (w.heap.size) 2 _ _ _ HX4.out.1
    have p3 := cell_of_row W4 (w.heap.size) 3 _ _ _ HX4.out.1
    by_cases hk0 : 0 < k
    · have i0 : (0 : Int) < (k : Int) := by omega
      have i1 : IntKind.i64.wrap ((k : Int) - 1) = (k : Int) - 1 := IntWalk.i64_in _ (by omega)
      have i2 : (0 : Int) ≤ (k : Int) - 1 := by omega
      have i3 : (k : Int) - 1 < (m.body.length : Int) := by omega
      have i4 : ((k : Int) - 1).toNat = k - 1 := by omega
      have i5 : (1 : Int) ≤ (k : Int) := by omega
      obtain ⟨xa, xc, xf, xq0, xq1, xq2, xq3, xR, xbb, -⟩ := tok_at HB2.out (j := k - 1) (by omega)
      have x0 : W4.cell? ⟨bb, ob + (k - 1) * 4, none⟩ = some _ := (hbd.cell (p := ⟨bb, ob + (k - 1) * 4, none⟩) xbb).trans xq0
      have x1 : W4.cell? ⟨bb, ob + (k - 1) * 4 + 1, none⟩ = some _ := (hbd.cell (p := ⟨bb, ob + (k - 1) * 4 + 1, none⟩) xbb).trans xq1
      have x2 : W4.cell? ⟨bb, ob + (k - 1) * 4 + 2, none⟩ = some _ := (hbd.cell (p := ⟨bb, ob + (k - 1) * 4 + 2, none⟩) xbb).trans xq2
      have x3 : W4.cell? ⟨bb, ob + (k - 1) * 4 + 3, none⟩ = some _ := (hbd.cell (p := ⟨bb, ob + (k - 1) * 4 + 3, none⟩) xbb).trans xq3
      have HC := Lib.hid (HI2.out _ (m.body[k - 1]'(by omega)) _ W4 (sTok.below xR hbd))
      have HG0 : Hid (glueL m k = isM (m.body[k - 1]'(by omega)) [35, 35]) := by show _ = _; unfold glueL; rw [dif_pos ⟨hk0, by omega⟩]
      clear xq0 xq1 xq2 xq3 xR
      rcases Bool.eq_false_or_eq_true (isM (m.body[k - 1]'(by omega)) [35, 35]) with hg | hg
      · have HGT : Hid (glueL m k = true) := HG0.out.trans hg
        rw [hg] at HC
        clear hg HG0
        go_wp2_with fail
        refine HC.out.mono ?_
        rintro e w8 ⟨rfl, hb8⟩
        go_wp2
        go_meet
        case rel => exact ⟨by rw [HGT.out]; rfl, hbd.trans (hb8.mono hbd.size)⟩
      · have HGF : Hid (glueL m k = false) := HG0.out.trans hg
        rw [hg] at HC
        clear hg HG0
        go_wp2_with fail
        refine HC.out.mono ?_
        rintro e w8 ⟨rfl, hb8⟩
        have hbf := hbd.trans (hb8.mono hbd.size)
        clear p0 p1 p2 p3 x0 x1 x2 x3
        have HXr := Lib.hid (mbox HX.out.1 hbf)
        have r0 := cell_of_row w8 (w.heap.size) 0 _ _ _ HXr.out
        have r1 := cell_of_row w8 (w.heap.size) 1 _ _ _ HXr.out
        have r2 := cell_of_row w8 (w.heap.size) 2 _ _ _ HXr.out
        have r3 := cell_of_row w8 (w.heap.size) 3 _ _ _ HXr.out
        by_cases hk2 : k + 1 < m.body.length
        · have i1 : (0 : Int) ≤ (k : Int) + 1 := by omega
          have i2 : (k : Int) + 1 < (m.body.length : Int) := by omega
          have i3 : ((k : Int) + 1).toNat = k + 1 := by omega
          obtain ⟨ya, yc, yf, yq0, yq1, yq2, yq3, yR, ybb, -⟩ := tok_at HB2.out (j := k + 1) hk2
          have y0 : w8.cell? ⟨bb, ob + (k + 1) * 4, none⟩ = some _ := (hbf.cell (p := ⟨bb, ob + (k + 1) * 4, none⟩) ybb).trans yq0
          have y1 : w8.cell? ⟨bb, ob + (k + 1) * 4 + 1, none⟩ = some _ := (hbf.cell (p := ⟨bb, ob + (k + 1) * 4 + 1, none⟩) ybb).trans yq1
          have y2 : w8.cell? ⟨bb, ob + (k + 1) * 4 + 2, none⟩ = some _ := (hbf.cell (p := ⟨bb, ob + (k + 1) * 4 + 2, none⟩) ybb).trans yq2
          have y3 : w8.cell? ⟨bb, ob + (k + 1) * 4 + 3, none⟩ = some _ := (hbf.cell (p := ⟨bb, ob + (k + 1) * 4 + 3, none⟩) ybb).trans yq3
          have HC := Lib.hid (HI2.out _ (m.body[k + 1]'hk2) _ w8 (sTok.below yR hbf))
          have HG : Hid (glueR m k = isM (m.body[k + 1]'hk2) [35, 35]) := by show _ = _; unfold glueR; rw [dif_pos hk2]
          clear yq0 yq1 yq2 yq3 yR
          go_wp2_with fail
          refine HC.out.mono ?_
          rintro e w9 ⟨rfl, hb9⟩
          go_wp2
          go_meet
          case rel => exact ⟨by rw [HGF.out, HG.out]; simp, hbf.trans (hb9.mono hbf.size)⟩
        · have i2 : ¬ ((k : Int) + 1 < (m.body.length : Int)) := by omega
          have HG : Hid (glueR m k = false) := by show _ = _; unfold glueR; rw [dif_neg hk2]
          go_wp2
          go_meet
          case rel => exact ⟨by rw [HGF.out, HG.out]; rfl, hbf⟩
    · have i0 : ¬ (0 : Int) < (k : Int) := by omega
      have HGF : Hid (glueL m k = false) := by show _ = _; unfold glueL; rw [dif_neg (fun h => hk0 h.1)]
      clear p0 p1 p2 p3
      have HXr := Lib.hid (mbox HX.out.1 hbd)
      have r0 := cell_of_row W4 (w.heap.size) 0 _ _ _ HXr.out
      have r1 := cell_of_row W4 (w.heap.size) 1 _ _ _ HXr.out
      have r2 := cell_of_row W4 (w.heap.size) 2 _ _ _ HXr.out
      have r3 := cell_of_row W4 (w.heap.size) 3 _ _ _ HXr.out
      by_cases hk2 : k + 1 < m.body.length
      · have i1 : (0 : Int) ≤ (k : Int) + 1 := by omega
        have i2 : (k : Int) + 1 < (m.body.length : Int) := by omega
        have i3 : ((k : Int) + 1).toNat = k + 1 := by omega
        obtain ⟨ya, yc, yf, yq0, yq1, yq2, yq3, yR, ybb, -⟩ := tok_at HB2.out (j := k + 1) hk2
        have y0 : W4.cell? ⟨bb, ob + (k + 1) * 4, none⟩ = some _ := (hbd.cell (p := ⟨bb, ob + (k + 1) * 4, none⟩) ybb).trans yq0
        have y1 : W4.cell? ⟨bb, ob + (k + 1) * 4 + 1, none⟩ = some _ := (hbd.cell (p := ⟨bb, ob + (k + 1) * 4 + 1, none⟩) ybb).trans yq1
        have y2 : W4.cell? ⟨bb, ob + (k + 1) * 4 + 2, none⟩ = some _ := (hbd.cell (p := ⟨bb, ob + (k + 1) * 4 + 2, none⟩) ybb).trans yq2
        have y3 : W4.cell? ⟨bb, ob + (k + 1) * 4 + 3, none⟩ = some _ := (hbd.cell (p := ⟨bb, ob + (k + 1) * 4 + 3, none⟩) ybb).trans yq3
        have HC := Lib.hid (HI2.out _ (m.body[k + 1]'hk2) _ W4 (sTok.below yR hbd))
        have HG : Hid (glueR m k = isM (m.body[k + 1]'hk2) [35, 35]) := by show _ = _; unfold glueR; rw [dif_pos hk2]
        clear yq0 yq1 yq2 yq3 yR
        go_wp2_with fail
        refine HC.out.mono ?_
        rintro e w9 ⟨rfl, hb9⟩
        go_wp2
        go_meet
        case rel => exact ⟨by rw [HGF.out, HG.out]; simp, hbd.trans (hb9.mono hbd.size)⟩
      · have i2 : ¬ ((k : Int) + 1 < (m.body.length : Int)) := by omega
        have HG : Hid (glueR m k = false) := by show _ = _; unfold glueR; rw [dif_neg hk2]
        go_wp2
        go_meet
        case rel => exact ⟨by rw [HGF.out, HG.out]; rfl, hbd⟩
  obtain ⟨rfl, hbe⟩ := hcut
  generalize wc = W5 at *
  have HX5 := Lib.hid (And.intro (mbox HX.out.1 hbe) (mbox HX.out.2 hbe))
  clear HX4 hbd HX3 hbc HI2
  cases hg : (glueL m k || glueR m k)
  · skip
    have HF := Lib.hid (part_ready (raw := raw) (ready := ready) hk HNF.out (by have := HPP.out; omega) hg)
    have hnr : n < ready.length := by have := hraw.out; have := hrdy.out; omega
    have HAR := Lib.hid (argAt_in (a := ready) HPN.out hnr)
    obtain ⟨ar, cr, rfl, -, -, hrowR⟩ := open_rows HYY.out
    obtain ⟨br, orr, -, rfl, -, -, -⟩ := hrowR (by omega)
    obtain ⟨aj, cj, fj, dq, Rj, hbr, hfj⟩ := rows_at HYY.out hnr
    have hjl : (ready[n]).length ≤ 60 := (toksOk_facts (HYA.out _ (List.getElem_mem hnr))).1
    have HSP := Lib.hid (fun (U : World) (hU : Below W5.heap.size W5 U) => spec_l10Spaced _ ready[n] fj U m.body[k].spaced (by omega) ((sSlice sTok).below ((sSlice sTok).below Rj hbe) hU))
    have HFJ : Hid (∀ b ∈ fj, b < B) := fun b hb => HLy.out b (hfj b hb)
    have d0 : W5.drew.cell? ⟨br, orr + n, none⟩ = some (.slice aj (ready[n]).length cj) := (hbe.cell (p := ⟨br, orr + n, none⟩) hbr).trans dq
    have t2 : W5.drew.cell? ⟨w.heap.size + 1, 2, none⟩ = some (.bool m.body[k].spaced) := cell_of_row W5 (w.heap.size + 1) 2 _ _ _ HX5.out.2
    have hcs : Below W5.heap.size W5 W5.drew := belowN (Below.refl _ _) 1
    have hz : W2.heap.size ≤ W5.heap.size := hbe.size
    have HK1 : ∀ U : World, Below W5.drew.heap.size W5.drew U → U.cell? ⟨br, orr + n, none⟩ = some (.slice aj (ready[n]).length cj) ∧ U.cell? ⟨w.heap.size + 1, 2, none⟩ = some (.bool m.body[k].spaced) := fun U hU => ⟨(hU.cell (by show _ < W5.heap.size; simp only; omega)).trans d0, (hU.cell (by show _ < W5.heap.size; simp only; omega)).trans t2⟩
    have i6 : (0 : Int) ≤ (n : Int) := by omega
    have i7 : (n : Int) < (ready.length : Int) := by omega
    have i8 : n < ready.length := hnr
    clear dq Rj hfj hrowR hg
    go_wp2_with fail
    go_region_held3 (fun w' => w'.cell? ⟨br, orr + n, none⟩ = some (.slice aj (ready[n]).length cj) ∧ w'.cell? ⟨w.heap.size + 1, 2, none⟩ = some (.bool m.body[k].spaced))
      (first | (with_reducible exact ⟨d0, t2⟩) | (with_reducible exact HK1 _ hb9))
      (first | (go_at_call 83; (with_reducible refine (HSP.out _ hcs).mono ?_); rintro e w9 ⟨v9, L9, rfl, HR9, HD9, HF9, hb9⟩; obtain ⟨a9, c9, rfl, -⟩ := HR9.val))
    have hbx := (b2.trans (hbe.mono b2.size)).trans ((hcs.trans (hb9.mono (Nat.le_refl _))).mono (b2.trans (hbe.mono b2.size)).size)
    have HRF := Lib.hid (HR9.lower (base' := w.heap.size) (by show w.heap.size ≤ W5.heap.size; omega))
    have HDF : Hid (L9.map (·.d) = (partAt m raw ready k).1) := by show _ = _; rw [HD9, HF.out, HAR.out]
    have HFF : Hid (∀ x ∈ L9, ∀ b ∈ x.fp, b < B) := fun x hx b hb => HFJ.out b (HF9 x hx b hb)
    clear HR9 HD9 HF9 hb9 HSP
    go_wp2
    go_ret3
    exact ⟨.slice a9 L9.length c9, L9, by rw [HF.out]; rfl, HRF.out, HDF.out, HFF.out, hbx⟩
  · skip
    have HF := Lib.hid (part_raw (raw := raw) (ready := ready) hk HNF.out (by have := HPP.out; omega) hg)
    have hnr : n < raw.length := by have := hraw.out; have := hrdy.out; omega
    have HAR := Lib.hid (argAt_in (a := raw) HPN.out hnr)
    obtain ⟨ar, cr, rfl, -, -, hrowR⟩ := open_rows HRR.out
    obtain ⟨br, orr, -, rfl, -, -, -⟩ := hrowR (by omega)
    obtain ⟨aj, cj, fj, dq, Rj, hbr, hfj⟩ := rows_at HRR.out hnr
    have hjl : (raw[n]).length ≤ 60 := (toksOk_facts (HRA.out _ (List.getElem_mem hnr))).1
    have HSP := Lib.hid (fun (U : World) (hU : Below W5.heap.size W5 U) => spec_l10Spaced _ raw[n] fj U m.body[k].spaced (by omega) ((sSlice sTok).below ((sSlice sTok).below Rj hbe) hU))
    have HFJ : Hid (∀ b ∈ fj, b < B) := fun b hb => HLr.out b (hfj b hb)
    have d0 : W5.drew.cell? ⟨br, orr + n, none⟩ = some (.slice aj (raw[n]).length cj) := (hbe.cell (p := ⟨br, orr + n, none⟩) hbr).trans dq
    have t2 : W5.drew.cell? ⟨w.heap.size + 1, 2, none⟩ = some (.bool m.body[k].spaced) := cell_of_row W5 (w.heap.size + 1) 2 _ _ _ HX5.out.2
    have hcs : Below W5.heap.size W5 W5.drew := belowN (Below.refl _ _) 1
    have hz : W2.heap.size ≤ W5.heap.size := hbe.size
    have HK1 : ∀ U : World, Below W5.drew.heap.size W5.drew U → U.cell? ⟨br, orr + n, none⟩ = some (.slice aj (raw[n]).length cj) ∧ U.cell? ⟨w.heap.size + 1, 2, none⟩ = some (.bool m.body[k].spaced) := fun U hU => ⟨(hU.cell (by show _ < W5.heap.size; simp only; omega)).trans d0, (hU.cell (by show _ < W5.heap.size; simp only; omega)).trans t2⟩
    have i6 : (0 : Int) ≤ (n : Int) := by omega
    have i7 : (n : Int) < (raw.length : Int) := by omega
    have i8 : n < raw.length := hnr
    clear dq Rj hfj hrowR hg
    go_wp2_with fail
    go_region_held3 (fun w' => w'.cell? ⟨br, orr + n, none⟩ = some (.slice aj (raw[n]).length cj) ∧ w'.cell? ⟨w.heap.size + 1, 2, none⟩ = some (.bool m.body[k].spaced))
      (first | (with_reducible exact ⟨d0, t2⟩) | (with_reducible exact HK1 _ hb9))
      (first | (go_at_call 83; (with_reducible refine (HSP.out _ hcs).mono ?_); rintro e w9 ⟨v9, L9, rfl, HR9, HD9, HF9, hb9⟩; obtain ⟨a9, c9, rfl, -⟩ := HR9.val))
    have hbx := (b2.trans (hbe.mono b2.size)).trans ((hcs.trans (hb9.mono (Nat.le_refl _))).mono (b2.trans (hbe.mono b2.size)).size)
    have HRF := Lib.hid (HR9.lower (base' := w.heap.size) (by show w.heap.size ≤ W5.heap.size; omega))
    have HDF : Hid (L9.map (·.d) = (partAt m raw ready k).1) := by show _ = _; rw [HD9, HF.out, HAR.out]
    have HFF : Hid (∀ x ∈ L9, ∀ b ∈ x.fp, b < B) := fun x hx b hb => HFJ.out b (HF9 x hx b hb)
    clear HR9 HD9 HF9 hb9 HSP
    go_wp2
    go_ret3
    exact ⟨.slice a9 L9.length c9, L9, by rw [HF.out]; rfl, HRF.out, HDF.out, HFF.out, hbx⟩

end Go.Proofs.Ytflbdanlcpojbaa

/- Arguments put into a body (spec l10Body). (Made by gen_sub3.py.) -/
namespace Go.Proofs.Ytflbdanlcpojbaa
open Go.RowKit

theorem argAt_ok {a : List (List Tok)} (h : ∀ l ∈ a, toksOk l = true) (n : Int) : toksOk (argAt a n) = true := by
  unfold argAt
  by_cases hn : n.toNat < a.length
  · rw [List.getD_eq_getElem?_getD, List.getElem?_eq_getElem hn]
    exact h _ (List.getElem_mem hn)
  · rw [List.getD_eq_getElem?_getD, List.getElem?_eq_none (by omega)]
    rfl
theorem spc_hid {b : Bool} {l : List Tok} (h : toksOk l = true) : (spc b l).length ≤ 60 ∧ ∀ t ∈ spc b l, t.hidden.length ≤ 60 := by
  have hf := toksOk_facts h
  refine ⟨by rw [spc_len]; exact hf.1, fun t ht => ?_⟩
  have key : ∀ u ∈ l, u.hidden.length ≤ 60 := fun u hu => by
    obtain ⟨j, hj, rfl⟩ := List.getElem_of_mem hu
    exact (hid_at (tok_hidOk (hf.2 j hj))).1
  cases l with
  | nil => simp [spc] at ht
  | cons x r =>
    rcases List.mem_cons.1 ht with rfl | ht
    · exact key x (by simp)
    · exact key t (by simp [ht])
theorem args_all {m : DMacro} {a : List (List Tok)} (h : argsOk m a = true) : ∀ l ∈ a, toksOk l = true := by
  unfold argsOk at h; rw [Bool.and_eq_true, List.all_eq_true] at h; exact h.2
/-- What stands for a place is small. -/
theorem part_small {m : DMacro} {raw ready : List (List Tok)} (hv : macOk m = true) (ha : argsOk m raw = true) (hy : argsOk m ready = true) {k : Nat} (hk : k < m.body.length) {P : List Tok} {nx : Nat} {ok : Bool} (h : partAt m raw ready k = (P, nx, ok)) :
    P.length ≤ 60 ∧ nx ≤ m.body.length ∧ k < nx ∧ ∀ t ∈ P, t.hidden.length ≤ 60 := by
  have hnx := part_next m raw ready k
  rw [h] at hnx
  by_cases h1 : m.function = true ∧ isM m.body[k] [35] = true
  · obtain ⟨hk1, -⟩ := hash_next hv hk h1.1 h1.2
    obtain ⟨kk, s, b, hx, -⟩ := txt_bare (argAt raw (parOf m.params m.body[k + 1]))
    rw [part_text hk1 h1.1 h1.2 hx] at h
    simp only [Prod.mk.injEq] at h
    obtain ⟨rfl, rfl, -⟩ := h
    exact ⟨by simp, by omega, hnx, fun t ht => by rw [List.mem_singleton.1 ht]; exact Nat.zero_le _⟩
  · by_cases h2 : parOf m.params m.body[k] < 0
    · rw [part_self hk h1 h2] at h
      simp only [Prod.mk.injEq] at h
      obtain ⟨rfl, rfl, -⟩ := h
      refine ⟨by simp, by omega, hnx, fun t ht => ?_⟩
      rw [List.mem_singleton.1 ht, (bodOk_facts hk ((macOk_facts hv).2.2 k hk)).2.1]
      exact Nat.zero_le _
    · cases h3 : (glueL m k || glueR m k)
      · rw [part_ready hk h1 h2 h3] at h
        simp only [Prod.mk.injEq] at h
        obtain ⟨rfl, rfl, -⟩ := h
        have := spc_hid (b := m.body[k].spaced) (argAt_ok (args_all hy) (parOf m.params m.body[k]))
        exact ⟨this.1, by omega, hnx, this.2⟩
      · rw [part_raw hk h1 h2 h3] at h
        simp only [Prod.mk.injEq] at h
        obtain ⟨rfl, rfl, -⟩ := h
        have := spc_hid (b := m.body[k].spaced) (argAt_ok (args_all ha) (parOf m.params m.body[k]))
        exact ⟨this.1, by omega, hnx, this.2⟩
theorem set_last {α : Type} {l : List α} (h : l ≠ []) (z : α) : l.set (l.length - 1) z = l.dropLast ++ [z] := by
  have hl : 0 < l.length := List.length_pos_iff.2 h
  rw [List.set_eq_take_append_cons_drop, if_pos (by omega), List.dropLast_eq_take, List.drop_of_length_le (by omega)]
/-- What l10Body hands back. -/
def BodyOf (P : List Tok × Bool) (w : World) (e : Ending) (w' : World) : Prop :=
  ∃ (v : Value) (L : List (Elem Tok)), e = .returned (.tuple #[v, .bool P.2]) ∧ RowN sTok w.heap.size 35 v L w' ∧ L.map (·.d) = P.1 ∧ L.length ≤ 5000 ∧ (∀ x ∈ L, x.d.hidden.length ≤ 60) ∧ Below w.heap.size w w'
theorem bodyOf_no {P : List Tok × Bool} {w W : World} (h : P = ([], false)) (hb : Below w.heap.size w W) : BodyOf P w (.returned (.tuple #[.slice (some ⟨W.heap.size, 0, none⟩) 0 0, .bool false])) (W.alloc (.cells #[] 35)) :=
  ⟨_, [], by rw [h], RowN.lit0 sTok 35 W hb.size, by rw [h]; rfl, by simp, by simp, hb.alloc hb.size _⟩

set_option maxHeartbeats 16000000 in
set_option maxRecDepth 100000 in
theorem spec_l10Body (csM : List Value) (m : DMacro) (fpM : List Nat) (vr vy : Value) (raw ready : List (List Tok)) (fpr fpy : List Nat) (w : World) (hv : macOk m = true) (ha : argsOk m raw = true) (hy : argsOk m ready = true)
    (HM : sMacro.R w csM m fpM) (Hr : (sSlice (sSlice sTok)).R w [vr] raw fpr) (Hy : (sSlice (sSlice sTok)).R w [vy] ready fpy) :
    Calls Try.prog 33 #[.agg csM.toArray, vr, vy] w (BodyOf (subGo m raw ready 0 [] true false) w) := by
  have HM0 := HM
  obtain ⟨h2, h3, q2, q3, rfl, -, K2, K3, hfpM⟩ := HM
  obtain ⟨a2, c2, rfl, -⟩ := open_strs K2
  obtain ⟨a3, c3, rfl, hc3, hm3, hrow3⟩ := open_rows K3
  obtain ⟨ar, cr, rfl, -⟩ := open_rows Hr
  obtain ⟨ay, cy, rfl, -⟩ := open_rows Hy
  unfold maxLen at hm3
  have hlen20 : m.body.length ≤ 20 := (macOk_facts hv).1.2.2.2.2
  have b0 := alloc_below' w (.cells #[.string m.name, .bool m.function, .slice a2 m.params.length c2, .slice a3 m.body.length c3] 26)
  have HX := Lib.hid (heap_alloc_new w (.cells #[.string m.name, .bool m.function, .slice a2 m.params.length c2, .slice a3 m.body.length c3] 26))
  have HPT := Lib.hid (fun (k : Nat) (hk : k < m.body.length) (U : World) (hU : Below w.heap.size w U) => spec_l10Part _ m fpM _ _ raw ready fpr fpy k U hv ha hy hk w.heap.size (fun b hb => sMacro.lt HM0 b hb) (fun b hb => (sSlice (sSlice sTok)).lt Hr b hb) (fun b hb => (sSlice (sSlice sTok)).lt Hy b hb) (sMacro.below HM0 hU) ((sSlice (sSlice sTok)).below Hr hU) ((sSlice (sSlice sTok)).below Hy hU))
  unfold PartOf at HPT
  have HSM := Lib.hid (fun (k : Nat) (hk : k < m.body.length) (P : List Tok) (nx : Nat) (ok : Bool) (h : partAt m raw ready k = (P, nx, ok)) => part_small hv ha hy hk h)
  have HB3 := Lib.hid K3
  have hs1 : (w.alloc (.cells #[.string m.name, .bool m.function, .slice a2 m.params.length c2, .slice a3 m.body.length c3] 26)).heap.size = w.heap.size + 1 := by show (w.heap.push _).size = _; simp
  have HG0 := Lib.hid (RowN.lit0 sTok 35 (w.alloc (.cells #[.string m.name, .bool m.function, .slice a2 m.params.length c2, .slice a3 m.body.length c3] 26)) (base := w.heap.size) (by omega))
  rw [hs1] at HG0
  have b1 := b0.trans ((alloc_below' (w.alloc (.cells #[.string m.name, .bool m.function, .slice a2 m.params.length c2, .slice a3 m.body.length c3] 26)) (.cells #[] 35)).mono b0.size)
  have HX1 := Lib.hid (mbox HX.out (alloc_below' (w.alloc (.cells #[.string m.name, .bool m.function, .slice a2 m.params.length c2, .slice a3 m.body.length c3] 26)) (.cells #[] 35)))
  have HI2 : Hid (∀ (cs : List Value) (x : Tok) (fp : List Nat) (W : World), sTok.R W cs x fp → Calls Try.prog 63 #[.agg cs.toArray, .string ⟨#[35, 35]⟩] W (Says (isM x [35, 35]) W)) := fun cs x fp W h => by have := spec_l7IsS cs x fp W ⟨#[35, 35]⟩ h; rw [hash2_toList] at this; exact this
  clear HM0 K2 K3 Hr Hy hv ha hy hfpM b0 HX
  go_enter Try.func33, Try.ntmps33
  go_upto_region 2 with fail
  clear hs1
  generalize ((w.alloc (.cells #[.string m.name, .bool m.function, .slice a2 m.params.length c2, .slice a3 m.body.length c3] 26)).alloc (.cells #[] 35)) = W1 at *
  go_wp2
  go_loopw [8, 9, 10, 11] (fun vo ve vp va wr => ∃ (k : Nat) (L : List (Elem Tok)) (emp paste : Bool), k ≤ m.body.length ∧ va = .int .i64 k ∧ ve = .bool emp ∧ vp = .bool paste ∧ Hid (RowN sTok w.heap.size 35 vo L wr) ∧ Hid (vo.ownBlock ≠ some w.heap.size) ∧ Hid (subGo m raw ready 0 [] true false = subGo m raw ready k (L.map (·.d)) emp paste) ∧ Hid (emp = false → 0 < L.length) ∧ Hid (L.length ≤ 61 * k) ∧ Hid (∀ x ∈ L, x.d.hidden.length ≤ 60) ∧ Hid (wr.heap[w.heap.size]? = some (.cells #[.string m.name, .bool m.function, .slice a2 m.params.length c2, .slice a3 m.body.length c3] 26 (0, 0))) ∧ Below w.heap.size w wr) (fun _ _ _ va _ => m.body.length - (intOf va).toNat)
  case atStart => exact ⟨0, [], true, false, by omega, rfl, rfl, rfl, HG0.out, (fun h => by simp only [Value.ownBlock, Option.some.injEq] at h; omega), rfl, (fun h => by simp at h), (show (0 : Nat) ≤ _ by omega), (fun x hx => by simp at hx), HX1.out, b1⟩
  case round =>
    clear HG0 HX1 b1
    obtain ⟨k, L, emp, paste, hk, rfl, rfl, rfl, HR, HNB, HGO, HEM, HLL, HHD, HXr, hb⟩ := hrel
    obtain ⟨ao, co, rfl, -⟩ := HR.out.val
    obtain ⟨N, HN⟩ : ∃ N : Nat, Hid (N = L.length) := ⟨L.length, Lib.hid rfl⟩
    rw [show L.length = N from HN.out.symm] at HR HNB HEM HLL ⊢
    have p0 := cell_of_row wr (w.heap.size) 0 _ _ _ HXr.out
    have p1 := cell_of_row wr (w.heap.size) 1 _ _ _ HXr.out
    have p2 := cell_of_row wr (w.heap.size) 2 _ _ _ HXr.out
    have p3 := cell_of_row wr (w.heap.size) 3 _ _ _ HXr.out
    by_cases hlt : k < m.body.length
    · obtain ⟨bb, ob, -, rfl, -, -, -⟩ := hrow3 (by omega)
      obtain ⟨xa, xc, xf, xq0, xq1, xq2, xq3, xR, hbb, -⟩ := tok_at HB3.out hlt
      have x0 : wr.cell? ⟨bb, ob + k * 4, none⟩ = some _ := (hb.cell (p := ⟨bb, ob + k * 4, none⟩) hbb).trans xq0
      have x1 : wr.cell? ⟨bb, ob + k * 4 + 1, none⟩ = some _ := (hb.cell (p := ⟨bb, ob + k * 4 + 1, none⟩) hbb).trans xq1
      have x2 : wr.cell? ⟨bb, ob + k * 4 + 2, none⟩ = some _ := (hb.cell (p := ⟨bb, ob + k * 4 + 2, none⟩) hbb).trans xq2
      have x3 : wr.cell? ⟨bb, ob + k * 4 + 3, none⟩ = some _ := (hb.cell (p := ⟨bb, ob + k * 4 + 3, none⟩) hbb).trans xq3
      have HC := Lib.hid (HI2.out _ m.body[k] _ wr (sTok.below xR hb))
      have HPK := Lib.hid (HPT.out k hlt)
      have HSK := Lib.hid (HSM.out k hlt)
      have i0 : (0 : Int) ≤ (k : Int) := by omega
      have i1 : (k : Int) < (m.body.length : Int) := by omega
      have hk1 : IntKind.i64.wrap ((k : Int) + 1) = (k : Int) + 1 := IntWalk.i64_in _ (by omega)
      clear xq0 xq1 xq2 xq3 xR hrow3
      go_upto_region 6 with fail
      go_cut [10, 32] from 18 to 94 (fun p d wx => p = .bool paste ∧ d = .bool (isM m.body[k] [35, 35] && !paste) ∧ Below wr.heap.size wr wx)
      case first =>
        go_wp2_with fail
        refine HC.out.mono ?_
        rintro e w2 ⟨rfl, hb2⟩
        clear HC
        rcases Bool.eq_false_or_eq_true (isM m.body[k] [35, 35]) with hq | hq
        · have HQ := Lib.hid hq
          rw [hq]
          clear hq
          go_wp2
          go_meet
          case rel => exact ⟨rfl, by rw [HQ.out]; simp, hb2⟩
        · have HQ := Lib.hid hq
          rw [hq]
          clear hq
          go_wp2
          go_meet
          case rel => exact ⟨rfl, by rw [HQ.out]; rfl, hb2⟩
      obtain ⟨rfl, rfl, hb2⟩ := hcut
      generalize wc = w2 at *
      replace HR := Lib.hid (HR.out.below hb2)
      replace HXr := Lib.hid (mbox HXr.out hb2)
      have hB := hb.trans (hb2.mono hb.size)
      clear x0 x1 x2 x3 p0 p1 p2 p3 HC hb2 hb
      cases hbm : (isM m.body[k] [35, 35] && !paste)
      rotate_left
      · obtain ⟨hm1, hm2⟩ := Bool.and_eq_true_iff.1 hbm
        obtain rfl : paste = false := by simpa using hm2
        have HN1 := Lib.hid (HGO.out.trans (sub_mark hlt hm1))
        have HLL1 : Hid (L.length ≤ 61 * (k + 1)) := by show _ ≤ _; have := HLL.out; have := HN.out; omega
        have HEM1 : Hid (emp = false → 0 < L.length) := fun h => by have := HEM.out h; have := HN.out; omega
        clear hm1 hm2 hbm HGO
        go_wp2
        go_roundw
        case rel => exact ⟨k + 1, L, emp, true, by omega, by go_num, rfl, by trivial, HR.out, HNB.out, HN1.out, HEM1.out, HLL1.out, HHD.out, HXr.out, hB⟩
        case measure => simp [intOf]; omega
      have HMK : Hid (¬ (isM m.body[k] [35, 35] = true ∧ paste = false)) := fun h => by rw [h.1, h.2] at hbm; exact absurd hbm (by simp)
      clear hbm
      rcases hP : partAt m raw ready k with ⟨P, nx, ok⟩
      have HS := Lib.hid (HSK.out P nx ok hP)
      have HPP := Lib.hid hP
      have HC := Lib.hid (HPK.out _ hB)
      rw [hP] at HC
      try dsimp only at HC
      clear hP HSK HPK
      have p0 := cell_of_row w2 (w.heap.size) 0 _ _ _ HXr.out
      have p1 := cell_of_row w2 (w.heap.size) 1 _ _ _ HXr.out
      have p2 := cell_of_row w2 (w.heap.size) 2 _ _ _ HXr.out
      have p3 := cell_of_row w2 (w.heap.size) 3 _ _ _ HXr.out
      go_wp2_with fail
      refine HC.out.mono ?_
      rintro e w3 ⟨v9, L9, rfl, HR9, HD9, HF9, hb3⟩
      have hmine := HR.out.mine
      replace HR := Lib.hid (HR.out.below hb3)
      replace HXr := Lib.hid (mbox HXr.out hb3)
      have hB3 := hB.trans (hb3.mono hB.size)
      obtain ⟨a9, c9, rfl, hc9, hm9, hv9⟩ := HR9.val
      have HR9' := Lib.hid HR9
      have HD9' := Lib.hid HD9
      have HF9' := Lib.hid HF9
      have HPL : Hid (P.length = L9.length) := by show _ = _; rw [← HD9, List.length_map]
      obtain ⟨fp9, r9, hf9, -⟩ := HR9.read
      have HMI : Hid (∀ b ∈ fp9, (Value.slice ao N co).ownBlock ≠ some b) := fun b hb h => by
        have h1 := hmine b h
        rcases hf9 b hb with h2 | ⟨x, hx, h2⟩
        · have := (HR9.mine b h2).1; omega
        · have := HF9 x hx b h2; omega
      rw [HD9] at r9
      have HRD := Lib.hid r9
      obtain ⟨N9, HN9⟩ : ∃ N9 : Nat, Hid (N9 = L9.length) := ⟨L9.length, Lib.hid rfl⟩
      rw [show L9.length = N9 from HN9.out.symm] at HRD HR9' hc9 ⊢
      have h960 : N9 ≤ 60 := by have := HS.out.1; have := HPL.out; have := HN9.out; omega
      clear p0 p1 p2 p3 HC hb3 HR9 HD9 HF9 r9 hf9 hmine hv9 hB
      cases ok
      · have HF := Lib.hid (HGO.out.trans (sub_bad hlt HMK.out HPP.out))
        go_wp2
        go_ret2
        exact bodyOf_no HF.out hB3
      go_upto_region 12 with fail
      go_cut [9, 10, 56] from 18 to 94 (fun e p d wx => e = .bool emp ∧ p = .bool paste ∧ d = .bool (paste && !emp && decide (0 < N9)) ∧ wx = w3)
      case first =>
        have hn9 : decide (0 < N9) = decide ((0 : Int) < (N9 : Int)) := decide_eq_decide.2 (by omega)
        obtain ⟨bp, HBP⟩ : ∃ b, Hid (b = paste) := ⟨paste, Lib.hid rfl⟩
        obtain ⟨be, HBE⟩ : ∃ b, Hid (b = emp) := ⟨emp, Lib.hid rfl⟩
        rw [show emp = be from HBE.out.symm, show paste = bp from HBP.out.symm]
        cases bp
        · go_wp2
          go_meet
          case rel => exact ⟨by rw [HBE.out], by rw [← HBP.out], by rw [← HBP.out]; rfl, by trivial⟩
        · cases be
          · by_cases h9 : 0 < N9
            · have h9' : (0 : Int) < (N9 : Int) := by omega
              go_wp2
              go_meet
              case rel => exact ⟨by rw [← HBE.out], by rw [← HBP.out], by rw [← HBP.out, ← HBE.out]; simp [h9], by trivial⟩
            · have h9' : ¬ (0 : Int) < (N9 : Int) := by omega
              go_wp2
              go_meet
              case rel => exact ⟨by rw [← HBE.out], by rw [← HBP.out], by rw [← HBP.out, ← HBE.out]; simp [h9], by trivial⟩
          · go_wp2
            go_meet
            case rel => exact ⟨by rw [← HBE.out], by rw [← HBP.out], by rw [← HBP.out, ← HBE.out]; rfl, by trivial⟩
      obtain ⟨rfl, rfl, rfl, rfl⟩ := hcut
      cases hcd : (paste && !emp && decide (0 < N9))
      · have HCD : Hid (¬ (paste = true ∧ emp = false ∧ 0 < P.length)) := fun h => by
          rw [h.1, h.2.1, show decide (0 < N9) = true from decide_eq_true (by have := h.2.2; have := HPL.out; have := HN9.out; omega)] at hcd
          exact absurd hcd (by simp)
        have HNX := Lib.hid (HGO.out.trans (sub_put hlt HMK.out HPP.out HCD.out))
        have HDP : Hid (decide (P.length = 0) = decide (N9 = 0)) := decide_eq_decide.2 (by have := HPL.out; have := HN9.out; omega)
        clear hcd
        go_upto_region 18 with fail
        go_cut [9, 10] from 18 to 94 (fun e p wx => e = .bool (decide (N9 = 0) && (emp || !paste)) ∧ p = .bool paste ∧ wx = wc)
        case first =>
          obtain ⟨bp, HBP⟩ : ∃ b, Hid (b = paste) := ⟨paste, Lib.hid rfl⟩
          obtain ⟨be, HBE⟩ : ∃ b, Hid (b = emp) := ⟨emp, Lib.hid rfl⟩
          rw [show emp = be from HBE.out.symm, show paste = bp from HBP.out.symm]
          by_cases h9 : N9 = 0
          · have h9' : ((N9 : Int) == 0) = true := by simp [h9]
            have H9 := Lib.hid h9
            clear h9
            cases be
            · cases bp
              · go_wp2
                go_meet
                case rel => exact ⟨by rw [← HBP.out, ← HBE.out, H9.out]; rfl, by rw [← HBP.out], by trivial⟩
              · go_wp2
                go_meet
                case rel => exact ⟨by rw [← HBP.out, ← HBE.out, H9.out]; rfl, by rw [← HBP.out], by trivial⟩
            · go_wp2
              go_meet
              case rel => exact ⟨by rw [← HBE.out, H9.out]; rfl, by rw [HBP.out], by trivial⟩
          · have h9' : ((N9 : Int) == 0) = false := by rw [beq_eq_false_iff_ne]; omega
            have H9 := Lib.hid h9
            clear h9
            go_wp2
            go_meet
            case rel => exact ⟨by rw [decide_eq_false H9.out]; rfl, by rw [HBP.out], by trivial⟩
        obtain ⟨rfl, rfl, rfl⟩ := hcut
        have hNL : N ≤ 61 * k := by have := HLL.out; exact this
        have hk20 : k ≤ 20 := by omega
        go_wp2_with (at_builtin; refine wp_append_anyN ti_tok rfl (by decide) tok_one1 wc rfl (.tmp 91) (.tmp 92) rfl w.heap.size (.slice ao N co) (.slice a9 N9 c9) (P) fp9 rfl HR.out rfl HRD.out HMI.out (by have := HPL.out; have := HN9.out; have := HN.out; simp [maxLen]; omega) (by have := HPL.out; have := HN9.out; have := HN.out; simp; omega) hB3.size ?_; intro v5 X w5 hX hXf hR5 hg5 hp5)
        have hb5 : Below w.heap.size w w5 := hB3.grown hg5 hB3.size (fun b hb => (HR.out.mine b hb).1)
        have HX5 := Lib.hid ((hg5.block w.heap.size (mlt HXr.out) (fun e => HNB.out e.symm)).trans HXr.out)
        have HNB5 : Hid (v5.ownBlock ≠ some w.heap.size) := fun e => by
          rcases hp5 with h | h
          · rw [h] at e; exact HNB.out e
          · rw [h] at e; have := mlt HXr.out; simp only [Option.some.injEq] at e; omega
        have HGO5 : Hid (subGo m raw ready 0 [] true false = subGo m raw ready nx ((L ++ X).map (·.d)) (decide (N9 = 0) && (emp || !paste)) false) := by
          show _ = _
          rw [HNX.out, HDP.out, List.map_append, hX]
        have hXl : X.length = N9 := by have := congrArg List.length hX; rw [List.length_map] at this; have := HPL.out; have := HN9.out; omega
        have HEM5 : Hid ((decide (N9 = 0) && (emp || !paste)) = false → 0 < (L ++ X).length) := fun h => by
          rw [List.length_append, hXl]
          by_cases h9 : N9 = 0
          · rw [h9] at h
            have he : emp = false := by
              have h2 : (emp || !paste) = false := by simpa using h
              exact (Bool.or_eq_false_iff.1 h2).1
            have := HEM.out he; have := HN.out; omega
          · omega
        have HLL5 : Hid ((L ++ X).length ≤ 61 * nx) := by show _ ≤ _; rw [List.length_append, hXl]; have := HS.out.2.2.1; have := HN.out; omega
        have HHD5 : Hid (∀ x ∈ L ++ X, x.d.hidden.length ≤ 60) := fun x hx => by
          rcases List.mem_append.1 hx with hx | hx
          · exact HHD.out x hx
          · have hm : x.d ∈ P := by rw [← hX]; exact List.mem_map.2 ⟨x, hx, rfl⟩
            exact HS.out.2.2.2 x.d hm
        have HR5 := Lib.hid hR5
        have hnx := HS.out.2.1
        have hnk := HS.out.2.2.1
        clear hX hXf hR5 hg5 hp5
        go_wp2
        go_roundw
        case rel => exact ⟨nx, L ++ X, _, false, hnx, by trivial, rfl, by trivial, HR5.out, HNB5.out, HGO5.out, HEM5.out, HLL5.out, HHD5.out, HX5.out, hb5⟩
        case measure => simp [intOf]; omega
      · skip
        obtain ⟨h12, h9b⟩ := Bool.and_eq_true_iff.1 hcd
        obtain ⟨h1p, h2e⟩ := Bool.and_eq_true_iff.1 h12
        obtain rfl : paste = true := h1p
        obtain rfl : emp = false := by simpa using h2e
        have h90 : 0 < N9 := of_decide_eq_true h9b
        have hN0 : 0 < N := HEM.out rfl
        have HCD : Hid (true = true ∧ false = false ∧ 0 < P.length) := ⟨rfl, rfl, by have := HPL.out; have := HN9.out; omega⟩
        clear hcd h12 h9b
        obtain ⟨g, rfl, hgw, hg3⟩ : ∃ g, ao = some ⟨g, 0, none⟩ ∧ w.heap.size ≤ g ∧ g < wc.heap.size := by
          obtain ⟨a8, c8, e8, -, -, h8⟩ := HR.out.val
          simp only [Value.slice.injEq] at e8
          obtain ⟨rfl, -, -⟩ := e8
          exact h8 (by have := HN.out; omega)
        obtain ⟨g9, rfl, hg9w, hg93⟩ : ∃ g9, a9 = some ⟨g9, 0, none⟩ ∧ w2.heap.size ≤ g9 ∧ g9 < wc.heap.size := by
          obtain ⟨a8, c8, e8, -, -, h8⟩ := HR9'.out.val
          simp only [Value.slice.injEq] at e8
          obtain ⟨rfl, -, -⟩ := e8
          exact h8 (by have := HN9.out; omega)
        have hNl : N - 1 < L.length := by have := HN.out; omega
        have hN9l : 0 < L9.length := by have := HN9.out; omega
        obtain ⟨y, hyd⟩ : ∃ y : Elem Tok, Hid (y = L[N - 1]'hNl) := ⟨L[N - 1]'hNl, Lib.hid rfl⟩
        obtain ⟨x, hxd⟩ : ∃ x : Elem Tok, Hid (x = L9[0]'hN9l) := ⟨L9[0]'hN9l, Lib.hid rfl⟩
        have hym : y ∈ L := by rw [hyd.out]; exact List.getElem_mem hNl
        have hxm : x ∈ L9 := by rw [hxd.out]; exact List.getElem_mem hN9l
        obtain ⟨hyv, hyc, -, -, KY⟩ := HR.out.el y hym
        obtain ⟨ya, yc, rfl, -⟩ := open_strs KY
        obtain ⟨hxv, hxc, -, -, KX⟩ := HR9'.out.el x hxm
        obtain ⟨xa, xc, rfl, -⟩ := open_strs KX
        clear KY KX
        have RY := HR.out.el y hym
        have RX := HR9'.out.el x hxm
        rw [hyc] at RY
        rw [hxc] at RX
        have y0 : wc.cell? ⟨g, (N - 1) * 4, none⟩ = some (.int .i64 y.d.kind) := HR.out.cellAt hNl (j := 0) (by decide) (by rw [← hyd.out, hyc]; rfl)
        have y1 : wc.cell? ⟨g, (N - 1) * 4 + 1, none⟩ = some (.string y.d.text) := HR.out.cellAt hNl (j := 1) (by decide) (by rw [← hyd.out, hyc]; rfl)
        have y2 : wc.cell? ⟨g, (N - 1) * 4 + 2, none⟩ = some (.bool y.d.spaced) := HR.out.cellAt hNl (j := 2) (by decide) (by rw [← hyd.out, hyc]; rfl)
        have y3 : wc.cell? ⟨g, (N - 1) * 4 + 3, none⟩ = some (.slice ya y.d.hidden.length yc) := HR.out.cellAt hNl (j := 3) (by decide) (by rw [← hyd.out, hyc]; rfl)
        have x0 : wc.cell? ⟨g9, 0, none⟩ = some (.int .i64 x.d.kind) := by have := HR9'.out.cellAt hN9l (j := 0) (by decide) (u := .int .i64 x.d.kind) (by rw [← hxd.out, hxc]; rfl); simpa using this
        have x1 : wc.cell? ⟨g9, 1, none⟩ = some (.string x.d.text) := by have := HR9'.out.cellAt hN9l (j := 1) (by decide) (u := .string x.d.text) (by rw [← hxd.out, hxc]; rfl); simpa using this
        have x2 : wc.cell? ⟨g9, 2, none⟩ = some (.bool x.d.spaced) := by have := HR9'.out.cellAt hN9l (j := 2) (by decide) (u := .bool x.d.spaced) (by rw [← hxd.out, hxc]; rfl); simpa using this
        have x3 : wc.cell? ⟨g9, 3, none⟩ = some (.slice xa x.d.hidden.length xc) := by have := HR9'.out.cellAt hN9l (j := 3) (by decide) (u := .slice xa x.d.hidden.length xc) (by rw [← hxd.out, hxc]; rfl); simpa using this
        have HYX : Hid ((L.map (·.d)).getLastD zTok = y.d ∧ P.headD zTok = x.d) := by
          refine ⟨?_, ?_⟩
          · have hne : L.map (·.d) ≠ [] := fun h => by have := congrArg List.length h; rw [List.length_map] at this; simp at this; rw [this] at hNl; simp at hNl
            rw [List.getLastD_eq_getLast?, List.getLast?_eq_some_getLast hne, Option.getD_some, List.getLast_eq_getElem, List.getElem_map, hyd.out]
            congr 2
            rw [List.length_map]; have := HN.out; omega
          · rw [← HD9'.out, hxd.out]
            cases L9 with
            | nil => simp at hN9l
            | cons q r => rfl
        have hyh : y.d.hidden.length ≤ 60 := HHD.out y hym
        have hxh : x.d.hidden.length ≤ 60 := HS.out.2.2.2 x.d (by rw [← HD9'.out]; exact List.mem_map.2 ⟨x, hxm, rfl⟩)
        rcases hpr : pasteRes y.d x.d with ⟨z, fine⟩
        have HPR := Lib.hid hpr
        have HPT2 := Lib.hid (fun (U : World) (hU : Below wc.heap.size wc U) => spec_PasteTokens [.int .i64 y.d.kind, .string y.d.text, .bool y.d.spaced, .slice ya y.d.hidden.length yc] [.int .i64 x.d.kind, .string x.d.text, .bool x.d.spaced, .slice xa x.d.hidden.length xc] y.d x.d y.fp x.fp U (by omega) (by omega) (sTok.below RY hU) (sTok.below RX hU))
        unfold PasteOf at HPT2
        rw [hpr] at HPT2
        try dsimp only at HPT2
        have HSS : Hid (∀ U : World, Below wc.heap.size wc U → U.cell? ⟨g, (N - 1) * 4, none⟩ = some (.int .i64 y.d.kind) ∧ U.cell? ⟨g, (N - 1) * 4 + 1, none⟩ = some (.string y.d.text) ∧ U.cell? ⟨g, (N - 1) * 4 + 2, none⟩ = some (.bool y.d.spaced) ∧ U.cell? ⟨g, (N - 1) * 4 + 3, none⟩ = some (.slice ya y.d.hidden.length yc) ∧ U.cell? ⟨g9, 0, none⟩ = some (.int .i64 x.d.kind) ∧ U.cell? ⟨g9, 1, none⟩ = some (.string x.d.text) ∧ U.cell? ⟨g9, 2, none⟩ = some (.bool x.d.spaced) ∧ U.cell? ⟨g9, 3, none⟩ = some (.slice xa x.d.hidden.length xc)) := fun U hU => ⟨(hU.cell hg3).trans y0, (hU.cell hg3).trans y1, (hU.cell hg3).trans y2, (hU.cell hg3).trans y3, (hU.cell hg93).trans x0, (hU.cell hg93).trans x1, (hU.cell hg93).trans x2, (hU.cell hg93).trans x3⟩
        have hcs : Below wc.heap.size wc wc.drew := belowN (Below.refl _ _) 1
        have hwn : IntKind.i64.wrap ((N : Int) - 1) = (N : Int) - 1 := IntWalk.i64_in _ (by have := HLL.out; have : N ≤ 61 * k := this; omega)
        have n1 : (0 : Int) ≤ (N : Int) - 1 := by omega
        have n2 : (N : Int) - 1 < (N : Int) := by omega
        have n3 : ((N : Int) - 1).toNat = N - 1 := by omega
        have n4 : (1 : Int) ≤ (N : Int) := by omega
        have n5 : (0 : Int) < (N9 : Int) := by omega
        clear y0 y1 y2 y3 x0 x1 x2 x3 hpr RY RX hxc
        generalize wc = wa at *
        go_upto_region 13 with fail
        go_cut [15, 16] from 18 to 94 (fun d e wx => ∃ (gB : Nat) (za : Option Addr) (zc : Nat) (fz : List Nat), d = .pointer (some ⟨gB, 0, none⟩) ∧ e = .bool fine ∧ wx.heap[gB]? = some (.cells #[.int .i64 z.kind, .string z.text, .bool z.spaced, .slice za z.hidden.length zc] 35 (0, 0)) ∧ wa.heap.size ≤ gB ∧ gB < wx.heap.size ∧ sTok.R wx [.int .i64 z.kind, .string z.text, .bool z.spaced, .slice za z.hidden.length zc] z fz ∧ (∀ b ∈ fz, wa.heap.size ≤ b) ∧ Below wa.heap.size wa wx)
        case first =>
          refine wp_region_noPanic ?_
          refine wp_region_held_drew (S := fun w' => w'.cell? ⟨g, (N - 1) * 4, none⟩ = some (.int .i64 y.d.kind) ∧ w'.cell? ⟨g, (N - 1) * 4 + 1, none⟩ = some (.string y.d.text) ∧ w'.cell? ⟨g, (N - 1) * 4 + 2, none⟩ = some (.bool y.d.spaced) ∧ w'.cell? ⟨g, (N - 1) * 4 + 3, none⟩ = some (.slice ya y.d.hidden.length yc) ∧ w'.cell? ⟨g9, 0, none⟩ = some (.int .i64 x.d.kind) ∧ w'.cell? ⟨g9, 1, none⟩ = some (.string x.d.text) ∧ w'.cell? ⟨g9, 2, none⟩ = some (.bool x.d.spaced) ∧ w'.cell? ⟨g9, 3, none⟩ = some (.slice xa x.d.hidden.length xc)) (by kernel_rfl) (by exact HSS.out _ hcs) (fun hHeld => ?_)
          generalize wa.drew = wd at *
          refine takeH2 0 58 (v := ?_) rfl rfl (by kernel_rfl) (by kernel_rfl) (by kernel_rfl) (fun _ _ _ h => h) (by rfl) (by assumption) ?_ ?_
          rotate_left
          · intro w hSw; go_simp; (first | done | with_reducible rfl | rfl)
          try simp only [Act.put, List.setIfInBounds_toArray, List.set_cons_zero, List.set_cons_succ]
          refine takeH2 1 59 (v := ?_) rfl rfl (by kernel_rfl) (by kernel_rfl) (by kernel_rfl) (fun _ _ _ h => h) (by rfl) (by assumption) ?_ ?_
          rotate_left
          · intro w hSw; go_simp; (first | done | with_reducible rfl | rfl)
          try simp only [Act.put, List.setIfInBounds_toArray, List.set_cons_zero, List.set_cons_succ]
          refine takeH2 2 60 (v := ?_) rfl rfl (by kernel_rfl) (by kernel_rfl) (by kernel_rfl) (fun _ _ _ h => h) (by rfl) (by assumption) ?_ ?_
          rotate_left
          · intro w hSw; go_simp; (first | done | with_reducible rfl | rfl)
          try simp only [Act.put, List.setIfInBounds_toArray, List.set_cons_zero, List.set_cons_succ]
          refine takeH2 3 61 (v := ?_) rfl rfl (by kernel_rfl) (by kernel_rfl) (by kernel_rfl) (fun _ _ _ h => h) (by rfl) (by assumption) ?_ ?_
          rotate_left
          · intro w hSw; go_simp; (first | done | with_reducible rfl | rfl)
          try simp only [Act.put, List.setIfInBounds_toArray, List.set_cons_zero, List.set_cons_succ]
          refine takeH2 4 62 (v := ?_) rfl rfl (by kernel_rfl) (by kernel_rfl) (by kernel_rfl) (fun _ _ _ h => h) (by rfl) (by assumption) ?_ ?_
          rotate_left
          · intro w hSw; go_simp; (first | done | with_reducible rfl | rfl)
          try simp only [Act.put, List.setIfInBounds_toArray, List.set_cons_zero, List.set_cons_succ]
          refine takeH2 5 63 (v := ?_) rfl rfl (by kernel_rfl) (by kernel_rfl) (by kernel_rfl) (fun _ _ _ h => h) (by rfl) (by assumption) ?_ ?_
          rotate_left
          · intro w hSw; obtain ⟨s0, s1, s2, s3, t0, t1, t2, t3⟩ := hSw; go_simp; (first | done | with_reducible rfl | rfl)
          try simp only [Act.put, List.setIfInBounds_toArray, List.set_cons_zero, List.set_cons_succ]
          refine takeH2 6 64 (v := ?_) rfl rfl (by kernel_rfl) (by kernel_rfl) (by kernel_rfl) (fun _ _ _ h => h) (by rfl) (by assumption) ?_ ?_
          rotate_left
          · intro w hSw; go_simp; (first | done | with_reducible rfl | rfl)
          try simp only [Act.put, List.setIfInBounds_toArray, List.set_cons_zero, List.set_cons_succ]
          refine takeH2 7 65 (v := ?_) rfl rfl (by kernel_rfl) (by kernel_rfl) (by kernel_rfl) (fun _ _ _ h => h) (by rfl) (by assumption) ?_ ?_
          rotate_left
          · intro w hSw; go_simp; (first | done | with_reducible rfl | rfl)
          try simp only [Act.put, List.setIfInBounds_toArray, List.set_cons_zero, List.set_cons_succ]
          refine takeH2 8 66 (v := ?_) rfl rfl (by kernel_rfl) (by kernel_rfl) (by kernel_rfl) (fun _ _ _ h => h) (by rfl) (by assumption) ?_ ?_
          rotate_left
          · intro w hSw; obtain ⟨s0, s1, s2, s3, t0, t1, t2, t3⟩ := hSw; go_simp; (first | done | with_reducible rfl | rfl)
          try simp only [Act.put, List.setIfInBounds_toArray, List.set_cons_zero, List.set_cons_succ]
          refine wpAnyH_ready (rs := [9, 13]) (by kernel_rfl) (by simp) ?_
          refine AllReadyH.cons rfl (fun K hK => ?_) ?_
          · skip
            go_simp
            refine (HPT2.out _ hcs).mono ?_
            rintro e wx1 ⟨czs, fz, rfl, rZ, oZ, brz⟩
            obtain ⟨hz, rfl, -, -, KZ⟩ := id rZ
            obtain ⟨za, zc, rfl, -⟩ := open_strs KZ
            clear KZ
            have hx1 := hcs.trans (brz.mono hcs.size)
            replace oZ := oZ.lower hcs.size
            refine hK.out _ _ (HSS.out _ hx1) (fun hHeld => ?_)
            clear hK K
            try simp only [Act.put, List.setIfInBounds_toArray, List.set_cons_zero, List.set_cons_succ]
            refine takeH2 10 57 (v := ?_) rfl rfl (by kernel_rfl) (by kernel_rfl) (by kernel_rfl) (fun _ _ _ h => h) (by rfl) (by assumption) ?_ ?_
            rotate_left
            · intro w hSw; go_simp; (first | done | with_reducible rfl | rfl)
            try simp only [Act.put, List.setIfInBounds_toArray, List.set_cons_zero, List.set_cons_succ]
            refine takeH2 11 68 (v := ?_) rfl rfl (by kernel_rfl) (by kernel_rfl) (by kernel_rfl) (fun _ _ _ h => h) (by rfl) (by assumption) ?_ ?_
            rotate_left
            · intro w hSw; go_simp; (first | done | with_reducible rfl | rfl)
            try simp only [Act.put, List.setIfInBounds_toArray, List.set_cons_zero, List.set_cons_succ]
            refine takeH2 12 69 (v := ?_) rfl rfl (by kernel_rfl) (by kernel_rfl) (by kernel_rfl) (fun _ _ _ h => h) (by rfl) (by assumption) ?_ ?_
            rotate_left
            · intro w hSw; go_simp; (first | done | with_reducible rfl | rfl)
            try simp only [Act.put, List.setIfInBounds_toArray, List.set_cons_zero, List.set_cons_succ]
            refine wpAnyH_ready (rs := [13]) (by kernel_rfl) (by simp) ?_
            refine AllReadyH.cons rfl (fun K hK => ?_) AllReadyH.nil
            go_simp
            have bk := alloc_below' wx1 (.cells #[.int .i64 0, .string ⟨#[]⟩, .bool false, .slice none 0 0] 35)
            have HBX := Lib.hid (heap_alloc_new wx1 (.cells #[.int .i64 0, .string ⟨#[]⟩, .bool false, .slice none 0 0] 35))
            have hx2 := hx1.trans (bk.mono hx1.size)
            have hge := hx1.size
            replace rZ := sTok.below rZ bk
            have hnz : wx1.heap.size ∉ fz := fun h => Nat.lt_irrefl _ (oZ.lt _ h)
            replace oZ := oZ.grow bk
            refine hK.out _ _ (HSS.out _ hx2) (fun hHeld => ?_)
            clear hK K bk
            try simp only [Act.put, List.setIfInBounds_toArray, List.set_cons_zero, List.set_cons_succ]
            generalize (wx1.alloc (.cells #[.int .i64 0, .string ⟨#[]⟩, .bool false, .slice none 0 0] 35)) = wx2 at *
            have zc0 := cell_of_row wx2 (wx1.heap.size) 0 _ _ _ HBX.out
            have zf0 : wx2.frozen? ⟨wx1.heap.size, 0, none⟩ = false := frozen_of_row _ _ 0 _ _ HBX.out
            have zc1 := cell_of_row wx2 (wx1.heap.size) 1 _ _ _ HBX.out
            have zf1 : wx2.frozen? ⟨wx1.heap.size, 1, none⟩ = false := frozen_of_row _ _ 1 _ _ HBX.out
            have zc2 := cell_of_row wx2 (wx1.heap.size) 2 _ _ _ HBX.out
            have zf2 : wx2.frozen? ⟨wx1.heap.size, 2, none⟩ = false := frozen_of_row _ _ 2 _ _ HBX.out
            have zc3 := cell_of_row wx2 (wx1.heap.size) 3 _ _ _ HBX.out
            have zf3 : wx2.frozen? ⟨wx1.heap.size, 3, none⟩ = false := frozen_of_row _ _ 3 _ _ HBX.out
            have HDN := Lib.hid (box_done HBX.out hge rZ oZ hnz hx2 (.int .i64 z.kind) (.string z.text) (.bool z.spaced) (.slice za z.hidden.length zc))
            refine wpAnyH_ready (rs := [14]) (by kernel_rfl) (by simp) ?_
            refine AllReadyH.cons rfl (fun K hK => ?_) AllReadyH.nil
            go_simp
            change K _ (set4 wx2 (wx1.heap.size) (.int .i64 z.kind) (.string z.text) (.bool z.spaced) (.slice za z.hidden.length zc))
            refine hK.out _ _ (HSS.out _ HDN.out.2.2.2.2.2) (fun hHeld => ?_)
            clear hK K
            try simp only [Act.put, List.setIfInBounds_toArray, List.set_cons_zero, List.set_cons_succ]
            refine takeH2 15 16 (v := ?_) rfl rfl (by kernel_rfl) (by kernel_rfl) (by kernel_rfl) (fun _ _ _ h => h) (by rfl) (by assumption) ?_ ?_
            rotate_left
            · intro w hSw; go_simp; (first | done | with_reducible rfl | rfl)
            try simp only [Act.put, List.setIfInBounds_toArray, List.set_cons_zero, List.set_cons_succ]
            refine wpAnyH_done (by kernel_rfl) ?_ _
            refine NoPanic.normal ?_
            clear hHeld
            go_wp2
            go_meet
            case rel => exact ⟨_, za, zc, _, rfl, rfl, HDN.out.1, HDN.out.2.1, HDN.out.2.2.1, HDN.out.2.2.2.1, fun b hb => (HDN.out.2.2.2.2.1.2 b hb).1, HDN.out.2.2.2.2.2⟩
          refine AllReadyH.cons rfl (fun K hK => ?_) AllReadyH.nil
          go_simp
          have bk := alloc_below' wd (.cells #[.int .i64 0, .string ⟨#[]⟩, .bool false, .slice none 0 0] 35)
          have HBX := Lib.hid (heap_alloc_new wd (.cells #[.int .i64 0, .string ⟨#[]⟩, .bool false, .slice none 0 0] 35))
          have hx3 := hcs.trans (bk.mono hcs.size)
          have hge := hcs.size
          refine hK.out _ _ (HSS.out _ hx3) (fun hHeld => ?_)
          clear hK K bk
          try simp only [Act.put, List.setIfInBounds_toArray, List.set_cons_zero, List.set_cons_succ]
          generalize (wd.alloc (.cells #[.int .i64 0, .string ⟨#[]⟩, .bool false, .slice none 0 0] 35)) = wx3 at *
          refine wpAnyH_ready (rs := [9]) (by kernel_rfl) (by simp) ?_
          refine AllReadyH.cons rfl (fun K hK => ?_) AllReadyH.nil
          go_simp
          refine (HPT2.out _ hx3).mono ?_
          rintro e wx4 ⟨czs, fz, rfl, rZ, oZ, brz⟩
          obtain ⟨hz, rfl, -, -, KZ⟩ := id rZ
          obtain ⟨za, zc, rfl, -⟩ := open_strs KZ
          clear KZ
          have hx4 := hx3.trans (brz.mono hx3.size)
          have hnz : wd.heap.size ∉ fz := fun h => by have h1 := (oZ.2 _ h).1; have h2 := mlt HBX.out; omega
          replace HBX := Lib.hid (mbox HBX.out brz)
          replace oZ := oZ.lower hx3.size
          refine hK.out _ _ (HSS.out _ hx4) (fun hHeld => ?_)
          clear hK K
          try simp only [Act.put, List.setIfInBounds_toArray, List.set_cons_zero, List.set_cons_succ]
          refine takeH2 10 57 (v := ?_) rfl rfl (by kernel_rfl) (by kernel_rfl) (by kernel_rfl) (fun _ _ _ h => h) (by rfl) (by assumption) ?_ ?_
          rotate_left
          · intro w hSw; go_simp; (first | done | with_reducible rfl | rfl)
          try simp only [Act.put, List.setIfInBounds_toArray, List.set_cons_zero, List.set_cons_succ]
          refine takeH2 11 68 (v := ?_) rfl rfl (by kernel_rfl) (by kernel_rfl) (by kernel_rfl) (fun _ _ _ h => h) (by rfl) (by assumption) ?_ ?_
          rotate_left
          · intro w hSw; go_simp; (first | done | with_reducible rfl | rfl)
          try simp only [Act.put, List.setIfInBounds_toArray, List.set_cons_zero, List.set_cons_succ]
          refine takeH2 12 69 (v := ?_) rfl rfl (by kernel_rfl) (by kernel_rfl) (by kernel_rfl) (fun _ _ _ h => h) (by rfl) (by assumption) ?_ ?_
          rotate_left
          · intro w hSw; go_simp; (first | done | with_reducible rfl | rfl)
          try simp only [Act.put, List.setIfInBounds_toArray, List.set_cons_zero, List.set_cons_succ]
          have zc0 := cell_of_row wx4 (wd.heap.size) 0 _ _ _ HBX.out
          have zf0 : wx4.frozen? ⟨wd.heap.size, 0, none⟩ = false := frozen_of_row _ _ 0 _ _ HBX.out
          have zc1 := cell_of_row wx4 (wd.heap.size) 1 _ _ _ HBX.out
          have zf1 : wx4.frozen? ⟨wd.heap.size, 1, none⟩ = false := frozen_of_row _ _ 1 _ _ HBX.out
          have zc2 := cell_of_row wx4 (wd.heap.size) 2 _ _ _ HBX.out
          have zf2 : wx4.frozen? ⟨wd.heap.size, 2, none⟩ = false := frozen_of_row _ _ 2 _ _ HBX.out
          have zc3 := cell_of_row wx4 (wd.heap.size) 3 _ _ _ HBX.out
          have zf3 : wx4.frozen? ⟨wd.heap.size, 3, none⟩ = false := frozen_of_row _ _ 3 _ _ HBX.out
          have HDN := Lib.hid (box_done HBX.out hge rZ oZ hnz hx4 (.int .i64 z.kind) (.string z.text) (.bool z.spaced) (.slice za z.hidden.length zc))
          refine wpAnyH_ready (rs := [14]) (by kernel_rfl) (by simp) ?_
          refine AllReadyH.cons rfl (fun K hK => ?_) AllReadyH.nil
          go_simp
          change K _ (set4 wx4 (wd.heap.size) (.int .i64 z.kind) (.string z.text) (.bool z.spaced) (.slice za z.hidden.length zc))
          refine hK.out _ _ (HSS.out _ HDN.out.2.2.2.2.2) (fun hHeld => ?_)
          clear hK K
          try simp only [Act.put, List.setIfInBounds_toArray, List.set_cons_zero, List.set_cons_succ]
          refine takeH2 15 16 (v := ?_) rfl rfl (by kernel_rfl) (by kernel_rfl) (by kernel_rfl) (fun _ _ _ h => h) (by rfl) (by assumption) ?_ ?_
          rotate_left
          · intro w hSw; go_simp; (first | done | with_reducible rfl | rfl)
          try simp only [Act.put, List.setIfInBounds_toArray, List.set_cons_zero, List.set_cons_succ]
          refine wpAnyH_done (by kernel_rfl) ?_ _
          refine NoPanic.normal ?_
          clear hHeld
          go_wp2
          go_meet
          case rel => exact ⟨_, za, zc, _, rfl, rfl, HDN.out.1, HDN.out.2.1, HDN.out.2.2.1, HDN.out.2.2.2.1, fun b hb => (HDN.out.2.2.2.2.1.2 b hb).1, HDN.out.2.2.2.2.2⟩
        obtain ⟨gB, za, zc, fz, rfl, rfl, HZB0, hgB1, hgB2, RZ, hfz, hbz⟩ := hcut
        generalize wc = wb at *
        have HZB := Lib.hid HZB0
        have hBb := hB3.trans (hbz.mono hB3.size)
        replace HR := Lib.hid (HR.out.below hbz)
        replace HXr := Lib.hid (mbox HXr.out hbz)
        have HRDb := Lib.hid ((sSlice sTok).below HRD.out hbz)
        have HP3 : Hid (pasteRes ((L.map (·.d)).getLastD zTok) (P.headD zTok) = (z, fine)) := by show _ = _; rw [HYX.out.1, HYX.out.2]; exact HPR.out
        clear HZB0 HPT2 HSS hcs HRD
        cases fine
        · have HF := Lib.hid (HGO.out.trans (sub_no hlt HMK.out HPP.out HCD.out HP3.out))
          go_wp2
          go_ret2
          exact bodyOf_no HF.out hBb
        have HNX := Lib.hid (HGO.out.trans (sub_yes hlt HMK.out HPP.out HCD.out HP3.out))
        have HZH : Hid (z.hidden.length ≤ 60) := by show _ ≤ _; have := (paste_fact HPR.out).2.2.2.2.2; omega
        have hgx : g ∉ fz := fun h => by have := hfz _ h; omega
        have hgf : g ∉ fp9 := fun h => HMI.out g h rfl
        have hgw2 : w.heap.size ≠ g := fun h => HNB.out (by rw [h]; rfl)
        have z0 := cell_of_row wb gB 0 _ _ _ HZB.out
        have z1 := cell_of_row wb gB 1 _ _ _ HZB.out
        have z2 := cell_of_row wb gB 2 _ _ _ HZB.out
        have z3 := cell_of_row wb gB 3 _ _ _ HZB.out
        have y0 : wb.cell? ⟨g, (N - 1) * 4, none⟩ = some (.int .i64 y.d.kind) := HR.out.cellAt hNl (j := 0) (by decide) (by rw [← hyd.out, hyc]; rfl)
        have y1 : wb.cell? ⟨g, (N - 1) * 4 + 1, none⟩ = some (.string y.d.text) := HR.out.cellAt hNl (j := 1) (by decide) (by rw [← hyd.out, hyc]; rfl)
        have y2 : wb.cell? ⟨g, (N - 1) * 4 + 2, none⟩ = some (.bool y.d.spaced) := HR.out.cellAt hNl (j := 2) (by decide) (by rw [← hyd.out, hyc]; rfl)
        have y3 : wb.cell? ⟨g, (N - 1) * 4 + 3, none⟩ = some (.slice ya y.d.hidden.length yc) := HR.out.cellAt hNl (j := 3) (by decide) (by rw [← hyd.out, hyc]; rfl)
        have f0 : wb.frozen? ⟨g, (N - 1) * 4, none⟩ = false := HR.out.frozen _
        have f1 : wb.frozen? ⟨g, (N - 1) * 4 + 1, none⟩ = false := HR.out.frozen _
        have f2 : wb.frozen? ⟨g, (N - 1) * 4 + 2, none⟩ = false := HR.out.frozen _
        have f3 : wb.frozen? ⟨g, (N - 1) * 4 + 3, none⟩ = false := HR.out.frozen _
        have HPUT : Hid (RowN sTok w.heap.size 35 (.slice (some ⟨g, 0, none⟩) N co) (L.set (N - 1) ⟨[.int .i64 z.kind, .string z.text, .bool z.spaced, .slice za z.hidden.length zc], z, fz⟩) ((((wb.setCell ⟨g, (N - 1) * 4, none⟩ (.int .i64 z.kind)).setCell ⟨g, (N - 1) * 4 + 1, none⟩ (.string z.text)).setCell ⟨g, (N - 1) * 4 + 2, none⟩ (.bool z.spaced)).setCell ⟨g, (N - 1) * 4 + 3, none⟩ (.slice za z.hidden.length zc))) := HR.out.put hNl ⟨[.int .i64 z.kind, .string z.text, .bool z.spaced, .slice za z.hidden.length zc], z, fz⟩ rfl RZ hgx
        have HRQ : Hid ((sSlice sTok).R ((((wb.setCell ⟨g, (N - 1) * 4, none⟩ (.int .i64 z.kind)).setCell ⟨g, (N - 1) * 4 + 1, none⟩ (.string z.text)).setCell ⟨g, (N - 1) * 4 + 2, none⟩ (.bool z.spaced)).setCell ⟨g, (N - 1) * 4 + 3, none⟩ (.slice za z.hidden.length zc)) [.slice (some ⟨g9, 0, none⟩) N9 c9] P fp9) := (sSlice sTok).setB ((sSlice sTok).setB ((sSlice sTok).setB ((sSlice sTok).setB HRDb.out hgf _ _) hgf _ _) hgf _ _) hgf _ _
        have HXQ := Lib.hid (blk_other (blk_other (blk_other (blk_other HXr.out hgw2 ((N - 1) * 4) (.int .i64 z.kind)) hgw2 ((N - 1) * 4 + 1) (.string z.text)) hgw2 ((N - 1) * 4 + 2) (.bool z.spaced)) hgw2 ((N - 1) * 4 + 3) (.slice za z.hidden.length zc))
        have hBQ : Below w.heap.size w ((((wb.setCell ⟨g, (N - 1) * 4, none⟩ (.int .i64 z.kind)).setCell ⟨g, (N - 1) * 4 + 1, none⟩ (.string z.text)).setCell ⟨g, (N - 1) * 4 + 2, none⟩ (.bool z.spaced)).setCell ⟨g, (N - 1) * 4 + 3, none⟩ (.slice za z.hidden.length zc)) := (((hBb.setCell (p := ⟨g, (N - 1) * 4, none⟩) hgw (.int .i64 z.kind)).setCell (p := ⟨g, (N - 1) * 4 + 1, none⟩) hgw (.string z.text)).setCell (p := ⟨g, (N - 1) * 4 + 2, none⟩) hgw (.bool z.spaced)).setCell (p := ⟨g, (N - 1) * 4 + 3, none⟩) hgw (.slice za z.hidden.length zc)
        go_upto_region 17 with fail
        clear z0 z1 z2 z3 y0 y1 y2 y3 f0 f1 f2 f3 HZB HR HXr HRDb hBb RZ
        generalize ((((wb.setCell ⟨g, (N - 1) * 4, none⟩ (.int .i64 z.kind)).setCell ⟨g, (N - 1) * 4 + 1, none⟩ (.string z.text)).setCell ⟨g, (N - 1) * 4 + 2, none⟩ (.bool z.spaced)).setCell ⟨g, (N - 1) * 4 + 3, none⟩ (.slice za z.hidden.length zc)) = wq at *
        obtain ⟨sv, HSV⟩ : ∃ sv : Value, Hid (sv = .slice (if c9 = 1 then some ⟨g9, 0, none⟩ else some ⟨g9, 4, none⟩) (N9 - 1) (c9 - 1)) := ⟨_, Lib.hid rfl⟩
        have o1 : (1 : Int) ≤ (N9 : Int) := by omega
        have o2 : 1 ≤ N9 := h90
        have o3 : 1 ≤ c9 := by omega
        have o4 : (1 : Int) ≤ (c9 : Int) := by omega
        go_cut [12] from 18 to 94 (fun d wx => d = sv ∧ wx = wq)
        case first =>
          by_cases h1 : c9 = 1
          · have HSV1 : Hid (sv = .slice (some ⟨g9, 0, none⟩) (N9 - 1) (c9 - 1)) := by show _ = _; rw [HSV.out, if_pos h1]
            have HC1 := Lib.hid h1
            go_wp2
            go_meet
            case rel => exact ⟨by rw [HSV1.out]; simp [HC1.out], by trivial⟩
          · have HSV1 : Hid (sv = .slice (some ⟨g9, 4, none⟩) (N9 - 1) (c9 - 1)) := by show _ = _; rw [HSV.out, if_neg h1]
            go_wp2
            go_meet
            case rel => exact ⟨by rw [HSV1.out], by trivial⟩
        obtain ⟨rfl, rfl⟩ := hcut
        obtain ⟨fps, RS0, hfs⟩ := slice_drop 1 (by have := HPL.out; have := HN9.out; omega : 1 ≤ P.length) HRQ.out
        have HRS : Hid ((sSlice sTok).R wc [u12] (P.drop 1) fps) := by show (sSlice sTok).R _ _ _ _; rw [HSV.out]; exact RS0
        have HMS : Hid (∀ b ∈ fps, (Value.slice (some ⟨g, 0, none⟩) N co).ownBlock ≠ some b) := fun b hb => HMI.out b (hfs b hb)
        have hPd : (P.drop 1).length = N9 - 1 := by rw [List.length_drop]; have := HPL.out; have := HN9.out; omega
        have HPD := Lib.hid hPd
        have hNk : N ≤ 61 * k := HLL.out
        have hls : Hid ((L.set (N - 1) ⟨[.int .i64 z.kind, .string z.text, .bool z.spaced, .slice za z.hidden.length zc], z, fz⟩).length = N) := by show _ = _; rw [List.length_set]; exact HN.out.symm
        obtain ⟨M, HM⟩ : ∃ M, Hid (M = L.set (N - 1) ⟨[.int .i64 z.kind, .string z.text, .bool z.spaced, .slice za z.hidden.length zc], z, fz⟩) := ⟨L.set (N - 1) ⟨[.int .i64 z.kind, .string z.text, .bool z.spaced, .slice za z.hidden.length zc], z, fz⟩, Lib.hid rfl⟩
        rw [show L.set (N - 1) ⟨[.int .i64 z.kind, .string z.text, .bool z.spaced, .slice za z.hidden.length zc], z, fz⟩ = M from HM.out.symm] at HPUT hls
        clear hPd RS0 hfs HRQ
        go_wp2_with (at_builtin; refine wp_append_anyN ti_tok rfl (by decide) tok_one1 wc rfl (.tmp 91) (.tmp 92) rfl w.heap.size (.slice (some ⟨g, 0, none⟩) N co) (u12) (P.drop 1) fps rfl HPUT.out rfl HRS.out HMS.out (by rw [hls.out, HPD.out]; unfold maxLen; omega) (by rw [hls.out, HPD.out]; omega) hBQ.size ?_; intro v5 X w5 hX hXf hR5 hg5 hp5)
        have hb5 : Below w.heap.size w w5 := hBQ.grown hg5 hBQ.size (fun b hb => (HPUT.out.mine b hb).1)
        have HX5 := Lib.hid ((hg5.block w.heap.size (mlt HXQ.out) (fun e => HNB.out e.symm)).trans HXQ.out)
        have HNB5 : Hid (v5.ownBlock ≠ some w.heap.size) := fun e => by
          rcases hp5 with h | h
          · rw [h] at e; exact HNB.out e
          · rw [h] at e; have := mlt HXQ.out; simp only [Option.some.injEq] at e; omega
        have hXl : X.length = N9 - 1 := by have := congrArg List.length hX; rw [List.length_map] at this; rw [this]; exact HPD.out
        have HGO5 : Hid (subGo m raw ready 0 [] true false = subGo m raw ready nx ((M ++ X).map (·.d)) false false) := by
          show _ = _
          rw [HNX.out]
          congr 1
          rw [List.map_append, hX, HM.out, List.map_set, show N - 1 = (L.map (·.d)).length - 1 by rw [List.length_map]; have := HN.out; omega, set_last (by intro h; have := congrArg List.length h; rw [List.length_map] at this; rw [List.length_nil] at this; omega), List.append_assoc, List.drop_one]; rfl
        have HEM5 : Hid (false = false → 0 < (M ++ X).length) := fun _ => by rw [List.length_append, hls.out]; omega
        have HLL5 : Hid ((M ++ X).length ≤ 61 * nx) := by show _ ≤ _; rw [List.length_append, hls.out, hXl]; have := HS.out.2.2.1; omega
        have HHD5 : Hid (∀ x ∈ M ++ X, x.d.hidden.length ≤ 60) := fun x hx => by
          rcases List.mem_append.1 hx with hx | hx
          · rw [HM.out] at hx
            rcases List.mem_or_eq_of_mem_set hx with hx | rfl
            · exact HHD.out x hx
            · exact HZH.out
          · have hm : x.d ∈ P.drop 1 := by rw [← hX]; exact List.mem_map.2 ⟨x, hx, rfl⟩
            exact HS.out.2.2.2 x.d (List.mem_of_mem_drop hm)
        have HR5 := Lib.hid hR5
        have hnx := HS.out.2.1
        have hnk := HS.out.2.2.1
        clear hX hXf hR5 hg5 hp5
        go_wp2
        go_roundw
        case rel => exact ⟨nx, M ++ X, false, false, hnx, by trivial, by trivial, by trivial, HR5.out, HNB5.out, HGO5.out, HEM5.out, HLL5.out, HHD5.out, HX5.out, hb5⟩
        case measure => simp [intOf]; omega
    · have HF : Hid (subGo m raw ready 0 [] true false = (L.map (·.d), true)) := by show _ = _; rw [HGO.out, sub_end (by omega)]
      have HLB : Hid (L.length ≤ 5000) := by show _ ≤ _; have := HLL.out; have := HN.out; omega
      go_wp2
      go_ret2
      exact ⟨.slice ao N co, L, by rw [HF.out]; rfl, HR.out, by rw [HF.out], HLB.out, HHD.out, hb⟩

end Go.Proofs.Ytflbdanlcpojbaa

/- Own copies of lists of lists (spec l1OwnRowsToken). -/
namespace Go.Proofs.Ytflbdanlcpojbaa
open Go.RowKit

theorem ti_rows : TI Try.prog 27 24 (.slice none 0 0) 1 24 := ⟨by kernel_rfl, by kernel_rfl⟩
/-- Lists of lists as the call's own copies. -/
def OwnRows (l : List (List Tok)) (w : World) (e : Ending) (w' : World) : Prop := ∃ v fp, e = .returned v ∧ (sSlice (sSlice sTok)).R w' [v] l fp ∧ (∀ b ∈ fp, w.heap.size ≤ b) ∧ Below w.heap.size w w'
def RowsSm (l : List (List Tok)) : Prop := ∀ k, (hk : k < l.length) → l[k].length ≤ 1048576 ∧ ∀ j, (hj : j < l[k].length) → l[k][j].hidden.length ≤ 2000000

set_option maxHeartbeats 4000000 in
set_option maxRecDepth 100000 in
theorem spec_l1OwnRowsToken (v : Value) (l : List (List Tok)) (fp : List Nat) (w : World) (hl : l.length ≤ 1048576) (hx : RowsSm l) (H : (sSlice (sSlice sTok)).R w [v] l fp) :
    Calls Try.prog 30 #[v] w (OwnRows l w) := by
  have HH := Lib.hid H
  obtain ⟨a, cap, rfl, hc, hm, hrow⟩ := open_rows H
  unfold maxLen at hm
  clear H
  have HG0 := Lib.hid (RowN.lit0 (sSlice sTok) 24 w (Nat.le_refl _))
  have hba := alloc_below' w (.cells #[] 24)
  have HX := Lib.hid hx
  clear hx
  go_enter Try.func30, Try.ntmps30
  go_wp2
  go_loopw [3, 4] (fun o i wr => ∃ (k : Nat) (L : List (Elem (List Tok))), k ≤ l.length ∧ i = .int .i64 k ∧ Hid (RowN (sSlice sTok) w.heap.size 24 o L wr) ∧ Hid (L.map (·.d) = l.take k) ∧ Hid (∀ x ∈ L, ∀ b ∈ x.fp, w.heap.size ≤ b) ∧ Below w.heap.size w wr) (fun _ i _ => l.length - (intOf i).toNat)
  case atStart => exact ⟨0, [], by omega, rfl, HG0.out, rfl, (fun x hx => by simp at hx), hba⟩
  case round =>
    clear HG0 hba
    obtain ⟨k, L, hk, rfl, HR, HD, HLO, hb⟩ := hrel
    obtain ⟨ao, co, rfl, -⟩ := HR.out.val
    by_cases hlt : k < l.length
    · obtain ⟨bb, ob, -, rfl, -, -, -⟩ := hrow (by omega)
      obtain ⟨aj, cj, fj, dq, Rj, hbb, -⟩ := rows_at HH.out hlt
      have c0 : wr.cell? ⟨bb, ob + k, none⟩ = some _ := (hb.cell (p := ⟨bb, ob + k, none⟩) hbb).trans dq
      have HC := Lib.hid (spec_l1OwnTokenList_s _ l[k] fj wr (HX.out k hlt).1 (HX.out k hlt).2 ((sSlice sTok).below Rj hb))
      have HLl : Hid (L.length = k) := by have := congrArg List.length HD.out; simp at this; show _ = _; omega
      clear dq Rj hrow
      go_wp2_with fail
      refine HC.out.mono ?_
      rintro e w2 ⟨v2, f2, rfl, R2, lo2, -, hb2⟩
      obtain ⟨a2, c2, rfl, -⟩ := open_rows R2
      have hmine := HR.out.mine
      have hba := alloc_below' w2 (.cells #[.slice a2 l[k].length c2] 24)
      have HR2 := Lib.hid (HR.out.below (hb2.trans (hba.mono hb2.size)))
      have hbw := hb.trans ((hb2.trans (hba.mono hb2.size)).mono hb.size)
      have HE := Lib.hid ((sSlice sTok).below R2 hba)
      have HAP : Hid (∀ b ∈ f2, (Value.slice ao L.length co).ownBlock ≠ some b) := fun b hb' h => by have h1 := hmine b h; have h2 := lo2 b hb'; omega
      have HLO2 : Hid (∀ b ∈ f2, w.heap.size ≤ b) := fun b hb' => by have h1 := lo2 b hb'; have h2 := hb.size; omega
      obtain ⟨N, HN⟩ : ∃ N : Nat, Hid (N = l[k].length) := ⟨l[k].length, Lib.hid rfl⟩
      clear c0 HC R2 lo2 hmine hb2 hba HR
      go_wp2_with (at_builtin; refine wp_append_rowN (X := [(⟨[.slice a2 l[k].length c2], l[k], f2⟩ : Elem (List Tok))]) ti_rows rfl (by decide) _ rfl (.tmp 12) (.tmp 18) rfl w.heap.size (.slice ao L.length co) rfl HR2.out ⟨w2.heap.size, 0, none⟩ 1 1 rfl rfl (fun x hx => by obtain rfl := List.mem_singleton.1 hx; exact ⟨rfl, HE.out, HAP.out⟩) (fun x hx => by obtain rfl := List.mem_singleton.1 hx; simp [Value.oneCell']) (fun j u hj => by
                      rw [Addr.add_lit, Nat.zero_add, World.cell?_alloc_at _ _ _ _ rfl]
                      simpa using hj) (by unfold maxLen; have := HLl.out; omega) (by have := HLl.out; omega) hbw.size ?_; intro v3 w3 hR3 hg3 hp3)
      have hb3 : Below w.heap.size w w3 := hbw.grown hg3 hbw.size (fun b hb => (HR2.out.mine b hb).1)
      have HR3 := Lib.hid hR3
      have HD3 : Hid ((L ++ [(⟨[.slice a2 l[k].length c2], l[k], f2⟩ : Elem (List Tok))]).map (·.d) = l.take (k + 1)) := by
        show _ = _
        rw [List.map_append, HD.out, List.take_succ_eq_append_getElem hlt]; rfl
      have HLO3 : Hid (∀ x ∈ L ++ [(⟨[.slice a2 l[k].length c2], l[k], f2⟩ : Elem (List Tok))], ∀ b ∈ x.fp, w.heap.size ≤ b) := fun x hx => by
        rcases List.mem_append.1 hx with hx | hx
        · exact HLO.out x hx
        · obtain rfl := List.mem_singleton.1 hx; exact HLO2.out
      clear hR3 hg3 hp3
      go_roundw
      case rel => exact ⟨k + 1, _, by omega, by go_num, HR3.out, HD3.out, HLO3.out, hb3⟩
      case measure => simp [intOf]; omega
    · obtain ⟨fpr, hr, hin, -⟩ := HR.out.read
      have hd := HD.out
      rw [List.take_of_length_le (by omega)] at hd
      rw [hd] at hr
      have HRR := Lib.hid hr
      have HF : Hid (∀ b ∈ fpr, w.heap.size ≤ b) := fun b hb' => by
        rcases hin b hb' with h | ⟨x, hx, h⟩
        · exact (HR.out.mine b h).1
        · exact HLO.out x hx b h
      clear hr hin hd
      go_wp2
      go_ret
      exact ⟨_, fpr, rfl, HRR.out, HF.out, hb⟩

end Go.Proofs.Ytflbdanlcpojbaa

/- Rows of the call's own whose elements may read memory of others, too: the elements' blocks lie before the row's. Over any program. -/
namespace Go.Proofs.Ytflbdanlcpojbaa
open Go.RowKit

structure RowG {α : Type} (S : Shape α) (base : Nat) (e : TypeId) (v : Value) (L : List (Elem α)) (w : World) : Prop where
  row : w.ownsRow base e S.m v L.length (L.flatMap (·.cells))
  len : ∀ x ∈ L, x.cells.length = S.m
  el : ∀ x ∈ L, S.R w x.cells x.d x.fp
  hi : ∀ x ∈ L, ∀ b ∈ x.fp, b < base

section
variable {α : Type} {S : Shape α} {base : Nat} {e : TypeId} {v v' : Value} {L : List (Elem α)} {w w' : World}
theorem RowG.nil (S : Shape α) (base : Nat) (e : TypeId) (w : World) : RowG S base e (.slice none 0 0) [] w := ⟨World.ownsRow_nil _ _ _ _, by simp, by simp, by simp⟩
theorem RowG.ap (h : RowG S base e v L w) : ∀ x ∈ L, ∀ b ∈ x.fp, v.ownBlock ≠ some b := fun x hx b hb hv => by
  have h1 := h.hi x hx b hb
  have h2 := (h.row.lt b hv).1
  omega
/-- An empty literal's row. -/
theorem RowG.lit0 (S : Shape α) (e : TypeId) (w : World) : RowG S w.heap.size e (.slice (some ⟨w.heap.size, 0, none⟩) 0 0) [] (w.alloc (.cells #[] e)) where
  row := World.ownsRow_lit (base := w.heap.size) (e := e) (size := S.m) w #[] 0 (Nat.le_refl _) (by unfold maxLen; omega) (by simp)
  len := by simp
  el := by simp
  hi := by simp
theorem RowG.same (h : RowG S base e v L w) (hv : ∀ g, v.ownBlock = some g → w'.heap[g]? = w.heap[g]?) (hb : ∀ x ∈ L, ∀ b ∈ x.fp, w'.heap[b]? = w.heap[b]?) : RowG S base e v L w' where
  row := ownsRow_same h.row hv
  len := h.len
  el := fun x hx => S.frame (fun b hb' => hb x hx b hb') (h.el x hx)
  hi := h.hi
theorem RowG.below (h : RowG S base e v L w) (hb : Below w.heap.size w w') : RowG S base e v L w' :=
  h.same (fun g hg => hb.block g (h.row.lt g hg).2) (fun x hx b hb' => hb.block b (S.lt (h.el x hx) b hb'))
theorem RowG.kept {K : List Nat} (h : RowG S base e v L w) (hk : Kept K w w') (hv : ∀ g, v.ownBlock = some g → g ∉ K) (hb : ∀ x ∈ L, ∀ b ∈ x.fp, b ∉ K) : RowG S base e v L w' :=
  h.same (fun g hg => hk.block g (h.row.lt g hg).2 (hv g hg)) (fun x hx b hb' => hk.block b (S.lt (h.el x hx) b hb') (hb x hx b hb'))
theorem RowG.val (h : RowG S base e v L w) : ∃ a cap, v = .slice a L.length cap ∧ L.length ≤ cap ∧ cap ≤ maxLen ∧ (0 < L.length → ∃ g, a = some ⟨g, 0, none⟩ ∧ base ≤ g ∧ g < w.heap.size) := by
  rcases h.row.2 with ⟨rfl, h0⟩ | ⟨g, cap, cur, rfl, hb, hg, hn, hc, _⟩
  · exact ⟨none, 0, by rw [h0], by omega, by simp, fun h => by omega⟩
  · exact ⟨_, cap, rfl, hn, hc, fun _ => ⟨g, rfl, hb, (Array.getElem?_eq_some_iff.1 hg).1⟩⟩
theorem RowG.mine (h : RowG S base e v L w) : ∀ b, v.ownBlock = some b → base ≤ b := fun b hb => (h.row.lt b hb).1
theorem RowG.read (h : RowG S base e v L w) : ∃ fp, (sSlice S).R w [v] (L.map (·.d)) fp ∧ (∀ b ∈ fp, v.ownBlock = some b ∨ ∃ x ∈ L, b ∈ x.fp) ∧ (Own w base (L.flatMap (·.fp)) → Own w base fp) := by
  obtain ⟨fp, h1, h2, h3⟩ := slice_of_row h.row fun x hx => ⟨h.len x hx, h.el x hx⟩
  refine ⟨fp, h1, fun b hb => ?_, fun ho => h3 ho fun g hg hm => ?_⟩
  · rcases h2 b hb with h | h
    · exact .inl h
    · obtain ⟨x, hx, hb'⟩ := List.mem_flatMap.1 h
      exact .inr ⟨x, hx, hb'⟩
  · obtain ⟨x, hx, hb'⟩ := List.mem_flatMap.1 hm
    exact h.ap x hx g hb' hg
theorem RowG.len_eq {g n cap : Nat} (h : RowG S base e (.slice (some ⟨g, 0, none⟩) n cap) L w) : L.length = n := by
  rcases h.row.2 with ⟨h', _⟩ | ⟨g', cap', cur, h', _⟩
  · cases h'
  · simp only [Value.slice.injEq] at h'; exact h'.2.1.symm
theorem RowG.frozen {g n cap : Nat} (h : RowG S base e (.slice (some ⟨g, 0, none⟩) n cap) L w) (o : Nat) : w.frozen? ⟨g, o, none⟩ = false := by
  rcases h.row.2 with ⟨h', _⟩ | ⟨g', cap', cur, h', _, hg, _⟩
  · cases h'
  · simp only [Value.slice.injEq, Option.some.injEq, Addr.mk.injEq, and_true] at h'
    obtain ⟨rfl, _⟩ := h'
    exact frozen_of_row w g o cur e hg
/-- An element's cells. -/
theorem RowG.cellAt {g n cap : Nat} (h : RowG S base e (.slice (some ⟨g, 0, none⟩) n cap) L w) {k : Nat} (hk : k < L.length) {j : Nat} (hj : j < S.m) {u : Value} (hu : L[k].cells[j]? = some u) : w.cell? ⟨g, k * S.m + j, none⟩ = some u := by
  have hn : L.length = n := h.len_eq
  subst hn
  rw [h.row.cellAt (k * S.m + j) (by have : (k + 1) * S.m ≤ L.length * S.m := Nat.mul_le_mul_right _ hk; rw [Nat.succ_mul] at this; omega)]
  exact (flatMap_at (f := Elem.cells) h.len hk hj).trans hu
/-- A store into an element. -/
theorem RowG.set {g n cap : Nat} (h : RowG S base e (.slice (some ⟨g, 0, none⟩) n cap) L w) {k : Nat} (hk : k < L.length) {j : Nat} (hj : j < S.m) (u : Value) (x' : Elem α) (hx : x'.cells = L[k].cells.set j u)
    (hR : S.R w x'.cells x'.d x'.fp) (hn : ∀ b ∈ x'.fp, b < base) :
    RowG S base e (.slice (some ⟨g, 0, none⟩) n cap) (L.set k x') (w.setCell ⟨g, k * S.m + j, none⟩ u) := by
  have hblk : ∀ b : Nat, b ≠ g → (w.setCell ⟨g, k * S.m + j, none⟩ u).heap[b]? = w.heap[b]? := fun b hb => Below.heap_setCell _ _ _ _ hb
  have hmem : ∀ x ∈ L.set k x', x = x' ∨ x ∈ L := fun x hx => by
    rcases List.mem_or_eq_of_mem_set hx with h | h
    · exact .inr h
    · exact .inl h
  have hne : ∀ x ∈ L, ∀ b ∈ x.fp, b ≠ g := fun x hx b hb e => h.ap x hx b hb (by rw [e]; rfl)
  refine ⟨?_, fun x hx' => ?_, fun x hx' => ?_, fun x hx' => ?_⟩
  · have hn := h.len_eq
    have hrow := h.row
    rw [hn] at hrow
    have := (hrow.stored (k * S.m + j) u).1
    rw [flatMap_set h.len hk hj u x' hx] at this
    rw [List.length_set, hn]
    exact this
  · rcases hmem x hx' with rfl | hx'
    · rw [hx, List.length_set]; exact h.len _ (List.getElem_mem hk)
    · exact h.len x hx'
  · rcases hmem x hx' with rfl | hx'
    · exact S.frame (fun b hb => hblk b (fun e => by have h1 := hn b hb; have h2 := (h.row.lt g rfl).1; omega)) hR
    · exact S.frame (fun b hb => hblk b (hne x hx' b hb)) (h.el x hx')
  · rcases hmem x hx' with rfl | hx'
    · exact hn
    · exact h.hi x hx'
/-- Elements appended. -/
theorem RowG.appended (h : RowG S base e v L w) {X : List (Elem α)} (hrow : w'.ownsRow base e S.m v' (L ++ X).length ((L ++ X).flatMap (·.cells))) (hg : w.grownBy w' v.ownBlock)
    (hX : ∀ x ∈ X, x.cells.length = S.m ∧ S.R w x.cells x.d x.fp ∧ ∀ b ∈ x.fp, b < base) :
    RowG S base e v' (L ++ X) w' := by
  have hall : ∀ x ∈ L ++ X, x.cells.length = S.m ∧ S.R w x.cells x.d x.fp ∧ ∀ b ∈ x.fp, b < base := fun x hx => by
    rcases List.mem_append.1 hx with hx | hx
    · exact ⟨h.len x hx, h.el x hx, h.hi x hx⟩
    · exact hX x hx
  refine ⟨hrow, fun x hx => (hall x hx).1, fun x hx => ?_, fun x hx => (hall x hx).2.2⟩
  refine S.frame (fun b hb => hg.block b (S.lt (hall x hx).2.1 b hb) fun hv => ?_) (hall x hx).2.1
  have h1 := (hall x hx).2.2 b hb
  have h2 := (h.row.lt b hv.symm).1
  omega
end
end Go.Proofs.Ytflbdanlcpojbaa

/- A macro's copy, and a table's, as the call's own memory. (Made by gen_ownm.py.) -/
namespace Go.Proofs.Ytflbdanlcpojbaa
open Go.RowKit

/-- A macro of the call's own. -/
def OwnMac (x : DMacro) (w : World) (e : Ending) (w' : World) : Prop :=
  ∃ (a2 a3 : Option Addr) (c2 c3 : Nat) (fp : List Nat), e = .returned (.agg #[.string x.name, .bool x.function, .slice a2 x.params.length c2, .slice a3 x.body.length c3]) ∧ sMacro.R w' [.string x.name, .bool x.function, .slice a2 x.params.length c2, .slice a3 x.body.length c3] x fp ∧
    (∀ b ∈ fp, w.heap.size ≤ b) ∧ NoMac w' fp ∧ Below w.heap.size w w'
/-- Four cells of a result. -/
def setM (w : World) (g : Nat) (v0 v1 v2 v3 : Value) : World := (((w.setCell ⟨g, 0, none⟩ v0).setCell ⟨g, 1, none⟩ v1).setCell ⟨g, 2, none⟩ v2).setCell ⟨g, 3, none⟩ v3
theorem setM_at {w : World} {g : Nat} {z0 z1 z2 z3 : Value} {ty : TypeId} (h : w.heap[g]? = some (.cells #[z0, z1, z2, z3] ty (0, 0))) (v0 v1 v2 v3 : Value) :
    (setM w g v0 v1 v2 v3).heap[g]? = some (.cells #[v0, v1, v2, v3] ty (0, 0)) := blk_set (blk_set (blk_set (blk_set h 0 _) 1 _) 2 _) 3 _
theorem setM_far {w : World} {g b : Nat} (h : b ≠ g) (v0 v1 v2 v3 : Value) : (setM w g v0 v1 v2 v3).heap[b]? = w.heap[b]? := by
  unfold setM
  rw [Below.heap_setCell _ _ _ _ h, Below.heap_setCell _ _ _ _ h, Below.heap_setCell _ _ _ _ h, Below.heap_setCell _ _ _ _ h]
theorem setM_below {B : Nat} {w0 w : World} (hB : Below B w0 w) {g : Nat} (hg : B ≤ g) (v0 v1 v2 v3 : Value) : Below B w0 (setM w g v0 v1 v2 v3) :=
  ((((hB).setCell (p := ⟨g, 0, none⟩) hg v0).setCell (p := ⟨g, 1, none⟩) hg v1).setCell (p := ⟨g, 2, none⟩) hg v2).setCell (p := ⟨g, 3, none⟩) hg v3
theorem NoMac.app {w : World} {a b : List Nat} (h1 : NoMac w a) (h2 : NoMac w b) : NoMac w (a ++ b) := fun c hc => by
  rcases List.mem_append.1 hc with h | h
  · exact h1 c h
  · exact h2 c h

set_option maxHeartbeats 8000000 in
set_option maxRecDepth 100000 in
theorem spec_l1OwnMacro (cs : List Value) (x : DMacro) (fp : List Nat) (w : World) (hp : x.params.length ≤ 2000000) (hl : x.body.length ≤ 1048576) (hx : ∀ k, (hk : k < x.body.length) → x.body[k].hidden.length ≤ 2000000) (H : sMacro.R w cs x fp) :
    Calls Try.prog 29 #[.agg cs.toArray] w (OwnMac x w) := by
  obtain ⟨h2, h3, p2, p3, rfl, hok, K2, K3, rfl⟩ := H
  obtain ⟨a2, c2, rfl, -, -, -, hsz⟩ := open_strs K2
  obtain ⟨a3, c3, rfl, -⟩ := open_rows K3
  have hb3 := below3 w #[.string x.name, .bool x.function, .slice a2 x.params.length c2, .slice a3 x.body.length c3] #[.string ⟨#[]⟩, .bool false, .slice none 0 0, .slice none 0 0] #[.string x.name, .bool x.function, .slice a2 x.params.length c2, .slice a3 x.body.length c3] 26 26 26
  have g0 := alloc3_blk0 w #[.string x.name, .bool x.function, .slice a2 x.params.length c2, .slice a3 x.body.length c3] #[.string ⟨#[]⟩, .bool false, .slice none 0 0, .slice none 0 0] #[.string x.name, .bool x.function, .slice a2 x.params.length c2, .slice a3 x.body.length c3] 26 26 26
  obtain ⟨g1, g2, hs3⟩ := alloc3_blk w #[.string x.name, .bool x.function, .slice a2 x.params.length c2, .slice a3 x.body.length c3] #[.string ⟨#[]⟩, .bool false, .slice none 0 0, .slice none 0 0] #[.string x.name, .bool x.function, .slice a2 x.params.length c2, .slice a3 x.body.length c3] 26 26 26
  have HK2 := Lib.hid ((sSlice sStr).below K2 hb3)
  have HK3 := Lib.hid ((sSlice sTok).below K3 hb3)
  have HSZ := Lib.hid hsz
  have HX := Lib.hid hx
  have HPL : Hid (∀ b ∈ p3, b < w.heap.size) := fun b hb => (sSlice sTok).lt K3 b hb
  clear K2 K3 hsz hx
  obtain ⟨hv, HV⟩ : ∃ hv : Value, Hid (hv = Value.slice a2 x.params.length c2) := ⟨_, rfl⟩
  go_enter Try.func29, Try.ntmps29
  go_upto_region 2 with fail
  generalize (((w.alloc (.cells #[.string x.name, .bool x.function, .slice a2 x.params.length c2, .slice a3 x.body.length c3] 26)).alloc (.cells #[.string ⟨#[]⟩, .bool false, .slice none 0 0, .slice none 0 0] 26)).alloc (.cells #[.string x.name, .bool x.function, .slice a2 x.params.length c2, .slice a3 x.body.length c3] 26)) = W3 at *
  have hba := alloc_below' W3 (.cells #[] 9)
  have c02 : (W3.alloc (.cells #[] 9)).cell? ⟨w.heap.size, 2, none⟩ = some hv := by
    rw [HV.out]
    exact (hba.cell (p := ⟨w.heap.size, 2, none⟩) (by show w.heap.size < _; omega)).trans (cell_of_row _ _ 2 _ _ _ g0)
  have hlit : Hid ((W3.alloc (.cells #[] 9)).ownsRow W3.heap.size 9 1 (.slice (some ⟨W3.heap.size, 0, none⟩) 0 0) ([] : List ByteArray).length (([] : List ByteArray).map Value.string)) :=
    World.ownsRow_lit (base := W3.heap.size) (e := 9) (size := 1) W3 #[] 0 (Nat.le_refl _) (by simp) rfl
  have HKV : Hid ((sSlice sStr).R (W3.alloc (.cells #[] 9)) [hv] x.params p2) := by show (sSlice sStr).R _ _ _ _; rw [HV.out]; exact (sSlice sStr).below HK2.out hba
  have HG := Lib.hid (And.intro g0 (And.intro g1 (And.intro g2 hs3)))
  have hb4 := Lib.hid (hb3.trans (hba.mono hb3.size))
  clear g0 g1 g2 hb3 hs3 hba
  go_wp2_with (
    at_builtin
    refine wp_append_strsR rfl (.tmp 5) (.tmp 7) rfl W3.heap.size (.slice (some ⟨W3.heap.size, 0, none⟩) 0 0) hv [] x.params _ rfl hlit.out rfl HKV.out (by simp; omega) (by simp) ?_
    intro v5 w1 hown hgrow
    rw [List.nil_append] at hown
    obtain ⟨fp1, R1, O1, hfp⟩ := own_flat (ok := okStr) hown HSZ.out
    have hs3 := HG.out.2.2.2
    have hblk : ∀ k, k < W3.heap.size → w1.heap[k]? = W3.heap[k]? := fun k hk => (hgrow.block k (by simp; omega) (by simp [Value.ownBlock]; omega)).trans ((alloc_below' W3 _).block k hk)
    have HG1 : Hid (w1.heap[w.heap.size]? = some (.cells #[.string x.name, .bool x.function, .slice a2 x.params.length c2, .slice a3 x.body.length c3] 26 (0, 0)) ∧ w1.heap[w.heap.size + 1]? = some (.cells #[.string ⟨#[]⟩, .bool false, .slice none 0 0, .slice none 0 0] 26 (0, 0)) ∧ w1.heap[w.heap.size + 1 + 1]? = some (.cells #[.string x.name, .bool x.function, .slice a2 x.params.length c2, .slice a3 x.body.length c3] 26 (0, 0))) :=
      ⟨(hblk _ (by omega)).trans HG.out.1, (hblk _ (by omega)).trans HG.out.2.1, (hblk _ (by omega)).trans HG.out.2.2.1⟩
    have hb : Below w.heap.size w w1 := hb4.out.grown hgrow (by simp; omega) (fun b hb => by simp [Value.ownBlock] at hb; omega)
    have hbW : Below W3.heap.size W3 w1 := ((Below.refl W3.heap.size W3).alloc (Nat.le_refl _) (.cells #[] 9)).grown hgrow (by simp) (fun b hb => by simp [Value.ownBlock] at hb; omega)
    have hty : NoMac w1 fp1 := fun b hb' => by
      have hv := hfp b hb'
      rcases hown.2 with ⟨rfl, _⟩ | ⟨g, cap, cur, rfl, _, hg, _⟩
      · simp [Value.ownBlock] at hv
      · simp only [Value.ownBlock, Option.some.injEq] at hv
        subst hv
        exact ⟨_, _, _, hg, by decide⟩
    have hlo : ∀ b ∈ fp1, w.heap.size + 3 ≤ b := fun b hb => by have := (O1.2 b hb).1; omega
    have hK3' := (sSlice sTok).below HK3.out hbW
    have hW1 : w.heap.size + 3 ≤ w1.heap.size := by have := hbW.size; omega
    clear HG hblk hgrow hown hfp O1 c02 hb4 HKV hlit hs3 hbW
    obtain ⟨a1, cap1, rfl, hq⟩ := open_rows R1
    clear hq
    have c22 : w1.cell? ⟨w.heap.size + 1 + 1, 2, none⟩ = some (.slice a2 x.params.length c2) := cell_of_row w1 (w.heap.size + 1 + 1) 2 _ _ _ HG1.out.2.2
    have f22 : w1.frozen? ⟨w.heap.size + 1 + 1, 2, none⟩ = false := frozen_of_row w1 (w.heap.size + 1 + 1) 2 _ _ HG1.out.2.2
    have e03 : w1.cell? ⟨w.heap.size, 3, none⟩ = some (.slice a3 x.body.length c3) := cell_of_row w1 w.heap.size 3 _ _ _ HG1.out.1
    have far : ∀ b, b ≠ w.heap.size + 1 + 1 → (w1.setCell ⟨w.heap.size + 1 + 1, 2, none⟩ (.slice a1 x.params.length cap1)).heap[b]? = w1.heap[b]? := fun b hb => Below.heap_setCell _ _ _ _ hb
    have e03' : (w1.setCell ⟨w.heap.size + 1 + 1, 2, none⟩ (.slice a1 x.params.length cap1)).cell? ⟨w.heap.size, 3, none⟩ = some (.slice a3 x.body.length c3) := cell_of_row _ w.heap.size 3 _ _ _ ((far _ (by omega)).trans HG1.out.1)
    have HG2 : Hid ((w1.setCell ⟨w.heap.size + 1 + 1, 2, none⟩ (.slice a1 x.params.length cap1)).heap[w.heap.size + 1]? = some (.cells #[.string ⟨#[]⟩, .bool false, .slice none 0 0, .slice none 0 0] 26 (0, 0)) ∧ (w1.setCell ⟨w.heap.size + 1 + 1, 2, none⟩ (.slice a1 x.params.length cap1)).heap[w.heap.size + 1 + 1]? = some (.cells #[.string x.name, .bool x.function, .slice a1 x.params.length cap1, .slice a3 x.body.length c3] 26 (0, 0))) :=
      ⟨(far _ (by omega)).trans HG1.out.2.1, blk_set HG1.out.2.2 2 _⟩
    have HR2 : Hid ((sSlice sStr).R (w1.setCell ⟨w.heap.size + 1 + 1, 2, none⟩ (.slice a1 x.params.length cap1)) [.slice a1 x.params.length cap1] x.params fp1) := (sSlice sStr).frame (fun b hb => far b (by have := hlo b hb; omega)) R1
    have HNM2 : Hid (NoMac (w1.setCell ⟨w.heap.size + 1 + 1, 2, none⟩ (.slice a1 x.params.length cap1)) fp1) := hty.same fun b hb _ => far b (by have := hlo b hb; omega)
    have HP3 : Hid (∀ b ∈ p3, b ≠ w.heap.size + 1 + 1) := fun b hb => by have := HPL.out b hb; omega
    have HK4 : Hid ((sSlice sTok).R (w1.setCell ⟨w.heap.size + 1 + 1, 2, none⟩ (.slice a1 x.params.length cap1)) [.slice a3 x.body.length c3] x.body p3) := (sSlice sTok).frame (fun b hb => far b (HP3.out b hb)) hK3'
    have HB2 := Lib.hid (hb.setCell (p := ⟨w.heap.size + 1 + 1, 2, none⟩) (by show w.heap.size ≤ w.heap.size + 1 + 1; omega) (.slice a1 x.params.length cap1))
    have HLO1 := Lib.hid hlo
    have HS2 : Hid ((w1.setCell ⟨w.heap.size + 1 + 1, 2, none⟩ (.slice a1 x.params.length cap1)).heap.size = w1.heap.size) := by show _ = _; simp
    clear HG1 hty hlo hb R1 far hK3' HK3)
  have hs2 := HS2.out
  generalize (w1.setCell ⟨w.heap.size + 1 + 1, 2, none⟩ (.slice a1 x.params.length cap1)) = w2 at *
  clear c22 f22 e03
  refine (spec_l1OwnTokenList_t _ x.body p3 w2 hl HX.out HK4.out).mono ?_
  rintro e w3 ⟨v3, fp3, rfl, R3, hlo3, hn3, hb3⟩
  obtain ⟨a4, c4, rfl, -⟩ := open_rows R3
  have hs3 := hb3.size
  have HG3 : Hid (w3.heap[w.heap.size + 1]? = some (.cells #[.string ⟨#[]⟩, .bool false, .slice none 0 0, .slice none 0 0] 26 (0, 0)) ∧ w3.heap[w.heap.size + 1 + 1]? = some (.cells #[.string x.name, .bool x.function, .slice a1 x.params.length cap1, .slice a3 x.body.length c3] 26 (0, 0))) :=
    ⟨(hb3.block _ (by omega)).trans HG2.out.1, (hb3.block _ (by omega)).trans HG2.out.2⟩
  have far : ∀ b, b ≠ w.heap.size + 1 + 1 → (w3.setCell ⟨w.heap.size + 1 + 1, 3, none⟩ (.slice a4 x.body.length c4)).heap[b]? = w3.heap[b]? := fun b hb => Below.heap_setCell _ _ _ _ hb
  have HG4 : Hid ((w3.setCell ⟨w.heap.size + 1 + 1, 3, none⟩ (.slice a4 x.body.length c4)).heap[w.heap.size + 1]? = some (.cells #[.string ⟨#[]⟩, .bool false, .slice none 0 0, .slice none 0 0] 26 (0, 0)) ∧ (w3.setCell ⟨w.heap.size + 1 + 1, 3, none⟩ (.slice a4 x.body.length c4)).heap[w.heap.size + 1 + 1]? = some (.cells #[.string x.name, .bool x.function, .slice a1 x.params.length cap1, .slice a4 x.body.length c4] 26 (0, 0))) :=
    ⟨(far _ (by omega)).trans HG3.out.1, blk_set HG3.out.2 3 _⟩
  have HRF : Hid (sMacro.R (setM (w3.setCell ⟨w.heap.size + 1 + 1, 3, none⟩ (.slice a4 x.body.length c4)) (w.heap.size + 1) (.string x.name) (.bool x.function) (.slice a1 x.params.length cap1) (.slice a4 x.body.length c4)) [.string x.name, .bool x.function, .slice a1 x.params.length cap1, .slice a4 x.body.length c4] x (fp1 ++ fp3)) :=
    ⟨_, _, fp1, fp3, rfl, hok, (sSlice sStr).frame (fun b hb => (setM_far (by have := HLO1.out b hb; omega) _ _ _ _).trans (far b (by have := HLO1.out b hb; omega))) ((sSlice sStr).below HR2.out hb3), (sSlice sTok).frame (fun b hb => (setM_far (by have := hlo3 b hb; omega) _ _ _ _).trans (far b (by have := hlo3 b hb; omega))) R3, rfl⟩
  have HNF : Hid (NoMac (setM (w3.setCell ⟨w.heap.size + 1 + 1, 3, none⟩ (.slice a4 x.body.length c4)) (w.heap.size + 1) (.string x.name) (.bool x.function) (.slice a1 x.params.length cap1) (.slice a4 x.body.length c4)) (fp1 ++ fp3)) :=
    NoMac.app ((HNM2.out.below hb3).same fun b hb _ => (setM_far (by have := HLO1.out b hb; omega) _ _ _ _).trans (far b (by have := HLO1.out b hb; omega))) (hn3.same fun b hb _ => (setM_far (by have := hlo3 b hb; omega) _ _ _ _).trans (far b (by have := hlo3 b hb; omega)))
  have HLF : Hid (∀ b ∈ fp1 ++ fp3, w.heap.size ≤ b) := fun b hb => by
    rcases List.mem_append.1 hb with h | h
    · have := HLO1.out b h; omega
    · have := hlo3 b h; omega
  have HBF := Lib.hid (setM_below (g := w.heap.size + 1) ((HB2.out.trans (hb3.mono HB2.out.size)).setCell (p := ⟨w.heap.size + 1 + 1, 3, none⟩) (by show w.heap.size ≤ w.heap.size + 1 + 1; omega) (.slice a4 x.body.length c4)) (by omega) (.string x.name) (.bool x.function) (.slice a1 x.params.length cap1) (.slice a4 x.body.length c4))
  have HSF := Lib.hid (setM_at HG4.out.1 (.string x.name) (.bool x.function) (.slice a1 x.params.length cap1) (.slice a4 x.body.length c4))
  have d3 : w3.cell? ⟨w.heap.size + 1 + 1, 3, none⟩ = some (.slice a3 x.body.length c3) := cell_of_row w3 (w.heap.size + 1 + 1) 3 _ _ _ HG3.out.2
  have df3 : w3.frozen? ⟨w.heap.size + 1 + 1, 3, none⟩ = false := frozen_of_row w3 (w.heap.size + 1 + 1) 3 _ _ HG3.out.2
  clear far HG2 HG3 HR2 HNM2 HK4 HB2 HLO1 hb3 hn3 hlo3 R3 HP3
  have y0 : (w3.setCell ⟨w.heap.size + 1 + 1, 3, none⟩ (.slice a4 x.body.length c4)).cell? ⟨w.heap.size + 1 + 1, 0, none⟩ = some (.string x.name) := cell_of_row _ _ 0 _ _ _ HG4.out.2
  have z0 : (w3.setCell ⟨w.heap.size + 1 + 1, 3, none⟩ (.slice a4 x.body.length c4)).cell? ⟨w.heap.size + 1, 0, none⟩ = some (.string ⟨#[]⟩) := cell_of_row _ _ 0 _ _ _ HG4.out.1
  have zf0 : (w3.setCell ⟨w.heap.size + 1 + 1, 3, none⟩ (.slice a4 x.body.length c4)).frozen? ⟨w.heap.size + 1, 0, none⟩ = false := frozen_of_row _ _ 0 _ _ HG4.out.1
  have y1 : (w3.setCell ⟨w.heap.size + 1 + 1, 3, none⟩ (.slice a4 x.body.length c4)).cell? ⟨w.heap.size + 1 + 1, 1, none⟩ = some (.bool x.function) := cell_of_row _ _ 1 _ _ _ HG4.out.2
  have z1 : (w3.setCell ⟨w.heap.size + 1 + 1, 3, none⟩ (.slice a4 x.body.length c4)).cell? ⟨w.heap.size + 1, 1, none⟩ = some (.bool false) := cell_of_row _ _ 1 _ _ _ HG4.out.1
  have zf1 : (w3.setCell ⟨w.heap.size + 1 + 1, 3, none⟩ (.slice a4 x.body.length c4)).frozen? ⟨w.heap.size + 1, 1, none⟩ = false := frozen_of_row _ _ 1 _ _ HG4.out.1
  have y2 : (w3.setCell ⟨w.heap.size + 1 + 1, 3, none⟩ (.slice a4 x.body.length c4)).cell? ⟨w.heap.size + 1 + 1, 2, none⟩ = some (.slice a1 x.params.length cap1) := cell_of_row _ _ 2 _ _ _ HG4.out.2
  have z2 : (w3.setCell ⟨w.heap.size + 1 + 1, 3, none⟩ (.slice a4 x.body.length c4)).cell? ⟨w.heap.size + 1, 2, none⟩ = some (.slice none 0 0) := cell_of_row _ _ 2 _ _ _ HG4.out.1
  have zf2 : (w3.setCell ⟨w.heap.size + 1 + 1, 3, none⟩ (.slice a4 x.body.length c4)).frozen? ⟨w.heap.size + 1, 2, none⟩ = false := frozen_of_row _ _ 2 _ _ HG4.out.1
  have y3 : (w3.setCell ⟨w.heap.size + 1 + 1, 3, none⟩ (.slice a4 x.body.length c4)).cell? ⟨w.heap.size + 1 + 1, 3, none⟩ = some (.slice a4 x.body.length c4) := cell_of_row _ _ 3 _ _ _ HG4.out.2
  have z3 : (w3.setCell ⟨w.heap.size + 1 + 1, 3, none⟩ (.slice a4 x.body.length c4)).cell? ⟨w.heap.size + 1, 3, none⟩ = some (.slice none 0 0) := cell_of_row _ _ 3 _ _ _ HG4.out.1
  have zf3 : (w3.setCell ⟨w.heap.size + 1 + 1, 3, none⟩ (.slice a4 x.body.length c4)).frozen? ⟨w.heap.size + 1, 3, none⟩ = false := frozen_of_row _ _ 3 _ _ HG4.out.1
  go_wp2
  refine bodyPost_ret (results_cell_row rfl _ _ (w.heap.size + 1) _ _ _ _ rfl HSF.out Try.underlying26 rfl (by kernel_rfl)) rfl ?_
  exact ⟨a1, a4, cap1, c4, fp1 ++ fp3, rfl, HRF.out, HLF.out, HNF.out, HBF.out⟩

end Go.Proofs.Ytflbdanlcpojbaa

/- A table's copy, as the call's own memory (spec). -/
namespace Go.Proofs.Ytflbdanlcpojbaa
open Go.RowKit
/-- A macro of no great size. -/
def MacSm (x : DMacro) : Prop := x.params.length ≤ 2000000 ∧ x.body.length ≤ 1048576 ∧ ∀ k, (hk : k < x.body.length) → x.body[k].hidden.length ≤ 2000000
end Go.Proofs.Ytflbdanlcpojbaa
