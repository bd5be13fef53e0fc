/- Texts that the proof of U stands on, in one file. -/
import Derived.Test.YthbojipdhgidlaaZU8
import Derived.Test.YthbojipdhgidlaaZU5
import Derived.Test.YthbojipdhgidlaaZU4
import Derived.Test.YthbojipdhgidlaaShelf
import Derived.IntWalk
import Derived.Test.YthbojipdhgidlaaZU6
import Derived.OwnWalk
set_option linter.unusedVariables false
set_option linter.unusedSimpArgs false
/- MacroOf of both, as the exact law calls them. -/
namespace Go.Proofs.Ythbojipdhgidlaa
open Go.RowKit

theorem wtTokenS_len {l : List Tok} (h : wtTokenS l ≤ 1048576) : l.length ≤ 1048576 := by unfold wtTokenS at h; omega
theorem wtTokenS_hid {l : List Tok} (h : wtTokenS l ≤ 1048576) : ∀ k, (hk : k < l.length) → l[k].hidden.length ≤ 2000000 := fun k hk => by
  have h1 := wsum_at wtToken l k hk
  unfold wtTokenS at h
  have h2 : wtToken l[k] = l[k].text.size + (l[k].hidden.length + (l[k].hidden.map (·.size)).sum) := rfl
  omega
theorem cnt_bare : ∀ {l : List Tok}, (∀ t ∈ l, t.hidden = []) → cntTokenS l = 3 * l.length
  | [], _ => rfl
  | t :: l, h => by
    have ih := cnt_bare (l := l) (fun t ht => h t (by simp [ht]))
    have h1 : cntTokenS (t :: l) = cntToken t + cntTokenS l := by unfold cntTokenS cntAll; simp
    have h2 : cntToken t = 3 + t.hidden.length := rfl
    rw [h1, ih, h2, h t (by simp)]
    simp; omega
theorem cntTokenS_le : ∀ l : List Tok, cntTokenS l ≤ 3 * wtTokenS l
  | [] => Nat.zero_le _
  | t :: l => by
    have ih := cntTokenS_le l
    have h1 : cntTokenS (t :: l) = cntToken t + cntTokenS l := by unfold cntTokenS cntAll; simp
    have h2 : cntToken t = 3 + t.hidden.length := rfl
    have h3 : wtTokenS (t :: l) = 1 + wtToken t + wtTokenS l := by unfold wtTokenS; simp; omega
    have h4 : wtToken t = t.text.size + (t.hidden.length + (t.hidden.map (·.size)).sum) := rfl
    omega
theorem cntMacro_le (x : DMacro) : cntMacro x ≤ 2 + 3 * wtMacro x := by
  have h1 := cntTokenS_le x.body
  have h2 : wtMacro x = x.name.size + (x.params.length + (x.params.map (·.size)).sum) + wtTokenS x.body := rfl
  have h3 : cntMacro x = 2 + x.params.length + cntTokenS x.body := rfl
  omega
theorem cntVMacro_le (x : DMacro) : cntVMacro x ≤ 3 * wtMacro x := by
  have h1 := cntTokenS_le x.body
  have h2 : wtMacro x = x.name.size + (x.params.length + (x.params.map (·.size)).sum) + wtTokenS x.body := rfl
  have h3 : cntVMacro x = x.params.length + cntTokenS x.body := rfl
  omega
theorem cntMacroS_le : ∀ l : List DMacro, cntMacroS l ≤ 3 * wtMacroS l
  | [] => Nat.zero_le _
  | m :: l => by
    have ih := cntMacroS_le l
    have h1 : cntMacroS (m :: l) = cntMacro m + cntMacroS l := by unfold cntMacroS cntAll; simp
    have h2 := cntMacro_le m
    have h3 : wtMacroS (m :: l) = 1 + wtMacro m + wtMacroS l := by unfold wtMacroS; simp; omega
    omega
theorem macOk_cnt {m : DMacro} (h : macOk m = true) : cntVMacro m ≤ 64 := by
  obtain ⟨⟨h1, h2, h3, h4, h5⟩, h6, h7⟩ := macOk_facts h
  have := cnt_bare (l := m.body) (fun t ht => by
    obtain ⟨k, hk, rfl⟩ := List.getElem_of_mem ht
    exact (bodOk_facts hk (h7 k hk)).2.1)
  unfold cntVMacro
  omega
theorem MacroOf_cnt (l : List Tok) : cntVMacro (macOf l).1 ≤ 1000 := by
  rcases h : macOf l with ⟨m, ok⟩
  cases ok
  · have := macOf_no h
    subst this
    show cntVMacro zeroMac ≤ 1000
    decide
  · have := macOk_cnt (macOf_ok h)
    show cntVMacro m ≤ 1000
    omega
theorem spec_MacroOf_w (v : Value) (l : List Tok) (fp : List Nat) (w : World) (hw : wtTokenS l ≤ 1048576) (H : (sSlice sTok).R w [v] l fp) :
    Calls Try.prog 63 #[v] w (MOf l w) := spec_MacroOf v l fp w (wtTokenS_len hw) (wtTokenS_hid hw) H
end Go.Proofs.Ythbojipdhgidlaa

/- Lists of lists of tokens: the laws' own helpers. -/
namespace Go.Proofs.Ythbojipdhgidlaa
open Go.RowKit Go.ChangeShapes Go.WideShapes Go.Deep

abbrev sToks : Shape (List Tok) := sSlice sTok
theorem ti_toks : TI Try.prog 34 30 (.slice none 0 0) 1 24 := ⟨by kernel_rfl, by kernel_rfl⟩
def mkTokenSS (k : Int) (l : List (List Tok)) : List (List Tok) := mkAll mkTokenS cntTokenS k l
def cntTokenSS (l : List (List Tok)) : Nat := cntAll cntTokenS l
def wtTokenSS (l : List (List Tok)) : Nat := l.length + (l.map wtTokenS).sum
theorem cntTokenSS_le : ∀ l : List (List Tok), cntTokenSS l ≤ 3 * wtTokenSS l
  | [] => Nat.zero_le _
  | t :: l => by
    have ih := cntTokenSS_le l
    have h1 : cntTokenSS (t :: l) = cntTokenS t + cntTokenSS l := by unfold cntTokenSS cntAll; simp
    have h2 := cntTokenS_le t
    have h3 : wtTokenSS (t :: l) = 1 + wtTokenS t + wtTokenSS l := by unfold wtTokenSS; simp; omega
    omega
theorem cells_slice {α : Type} {S : Shape α} {w : World} {cs : List Value} {l : List α} {fp : List Nat} (H : (sSlice S).R w cs l fp) : ∃ a cap, cs = [.slice a l.length cap] := by
  obtain ⟨a, cap, h, -⟩ := H
  exact ⟨a, cap, h⟩
theorem elem_one {w : World} {b off i : Nat} {v : Value} (h : ElemAt w b off 1 i [v]) : w.cell? ⟨b, off + i, none⟩ = some v := by
  have := h.2 0 (by decide)
  simpa using this

set_option maxHeartbeats 8000000 in
set_option maxRecDepth 100000 in
theorem eqTokenSS_same (v1 v2 : Value) (l : List (List Tok)) (fp1 fp2 : List Nat) (w : World) (H1 : (sSlice sToks).R w [v1] l fp1) (H2 : (sSlice sToks).R w [v2] l fp2) :
    Calls Try.prog 14 #[v1, v2] w fun e w' => e = .returned (.bool true) ∧ Below w.heap.size w w' := by
  obtain ⟨a1, cap1, rfl, hc1, hm1, hrow1⟩ := open_rows H1
  obtain ⟨a2, cap2, rfl, hc2, hm2, hrow2⟩ := open_rows H2
  unfold maxLen at hm1 hm2
  have hnb : ((l.length : Int) != (l.length : Int)) = false := by simp
  go_enter Try.func14, Try.ntmps14
  go_wp2
  go_loopw [5] (fun i wr => ∃ k : Nat, k ≤ l.length ∧ i = .int .i64 k ∧ Below w.heap.size w wr) (fun i _ => l.length - (intOf i).toNat)
  case atStart => exact ⟨0, by omega, rfl, Below.refl _ _⟩
  case round =>
    obtain ⟨k, hk, rfl, hb⟩ := hrel
    by_cases hlt : k < l.length
    · obtain ⟨b1, off1, fps1, rfl, hb1, rfl, he1⟩ := hrow1 (by omega)
      obtain ⟨b2, off2, fps2, rfl, hb2, rfl, he2⟩ := hrow2 (by omega)
      obtain ⟨es1, hE1, hR1⟩ := he1 k hlt
      obtain ⟨es2, hE2, hR2⟩ := he2 k hlt
      clear hrow1 hrow2 he1 he2 H1 H2
      replace hE1 := hE1.frame (hb.block b1 hb1)
      replace hE2 := hE2.frame (hb.block b2 hb2)
      obtain ⟨q1, d1, rfl⟩ := cells_slice hR1
      obtain ⟨q2, d2, rfl⟩ := cells_slice hR2
      have HC : Hid (∀ W, Below wr.heap.size wr W → Calls Try.prog 22 #[.slice q1 l[k].length d1, .slice q2 l[k].length d2] W fun e w' => e = .returned (.bool true) ∧ Below W.heap.size W w') := fun W hW => eqTokenS_same _ _ l[k] _ _ W (sToks.below (sToks.below hR1 hb) hW) (sToks.below (sToks.below hR2 hb) hW)
      have c1 := elem_one hE1
      have c2 := elem_one hE2
      clear hE1 hE2 hR1 hR2
      go_wp2_with fail
      go_still_tail 8, (by kernel_rfl)
      change wpList _ _ _ _ _ wr.drew
      have hd : Below wr.heap.size wr wr.drew := belowN (Below.refl _ _) 1
      generalize wr.drew = w2 at *
      go_wp2_with (go_at_call 22; refine (HC.out _ hd).mono ?_; rintro e w3 ⟨rfl, hb3⟩)
      go_roundw
      case rel => exact ⟨k + 1, by omega, by go_num, (hb.trans (hd.mono hb.size)).trans (hb3.mono (Nat.le_trans hb.size hd.size))⟩
      case measure => simp [intOf]; omega
    · go_wp2
      go_ret
      exact ⟨rfl, hb⟩

set_option maxHeartbeats 2000000 in
set_option maxRecDepth 100000 in
theorem szTokenSS (v : Value) (l : List (List Tok)) (fp : List Nat) (w : World) (B : Int) (h0 : 0 ≤ B) (h1 : B ≤ 1048576) (H : (sSlice sToks).R w [v] l fp) :
    Calls Try.prog 8 #[v, .int .i64 B] w fun e w' => ∃ r : Int, e = .returned (.int .i64 r) ∧ SzR B r (wtTokenSS l) ∧ Below w.heap.size w w' := by
  obtain ⟨a, cap, rfl, hc, hm, hrow⟩ := open_rows H
  unfold maxLen at hm
  clear H
  by_cases hl : B < l.length
  · have HN : Hid (SzR B (-1) (wtTokenSS l)) := SzR.no (by unfold wtTokenSS; omega)
    go_enter Try.func8, Try.ntmps8
    go_wp2
    go_ret
    exact ⟨-1, rfl, HN.out, Below.refl _ _⟩
  · go_enter Try.func8, Try.ntmps8
    go_wp2
    go_loopw [1, 5] (fun t i wr => ∃ (k : Nat) (r : Int), k ≤ l.length ∧ i = .int .i64 k ∧ t = .int .i64 r ∧ 0 ≤ r ∧ r ≤ B ∧ Hid (r = B - l.length - (((l.take k).map wtTokenS).sum : Nat)) ∧ Below w.heap.size w wr) (fun _ i _ => l.length - (intOf i).toNat)
    case atStart => exact ⟨0, _, by omega, rfl, rfl, by omega, by omega, by show _ = _; simp, Below.refl _ _⟩
    case round =>
      obtain ⟨k, r, hk, rfl, rfl, hr0, hr1, HA, hb⟩ := hrel
      by_cases hlt : k < l.length
      · obtain ⟨b1, off1, fps1, rfl, hb1, -, he1⟩ := hrow (by omega)
        obtain ⟨es1, hE1, hR1⟩ := he1 k hlt
        clear hrow he1
        have hR2 := sToks.below hR1 hb
        obtain ⟨q1, d1, rfl⟩ := cells_slice hR1
        have HC := Lib.hid (szTokenS _ _ _ wr r hr0 (by omega) hR2)
        clear hR2 hR1
        replace hE1 := hE1.frame (hb.block b1 hb1)
        have c10 := elem_one hE1
        clear hE1
        have HT := Lib.hid (wsum_succ wtTokenS l k hlt)
        have HT2 := Lib.hid (wsum_le wtTokenS l (k + 1))
        go_wp2_with fail
        refine (HC.out).mono ?_
        rintro e w1 ⟨r', rfl, hr', hb2⟩
        clear c10
        by_cases hn : r' < 0
        · have HN : Hid (SzR B (-1) (wtTokenSS l)) := SzR.no (by
            have hx : r < wtTokenS l[k] := by unfold SzR at hr'; split at hr' <;> omega
            have := HT2.out; have := HT.out; have := HA.out; unfold wtTokenSS; omega)
          go_wp2
          go_ret
          exact ⟨-1, rfl, HN.out, hb.trans (hb2.mono hb.size)⟩
        · have hg := hr'.good hn
          have hle := hr'.le hr0
          have HA' : Hid (r' = B - l.length - (((l.take (k + 1)).map wtTokenS).sum : Nat)) := by
            show _ = _
            have := HT.out; have := HA.out
            omega
          clear hr' hg
          go_wp2
          go_roundw
          case rel => exact ⟨k + 1, _, by omega, by go_num, rfl, by omega, by omega, HA'.out, hb.trans (hb2.mono hb.size)⟩
          case measure => simp [intOf]; omega
      · have HN : Hid (SzR B r (wtTokenSS l)) := by
          have h := HA.out
          rw [List.take_of_length_le (by omega)] at h
          exact SzR.yes (by unfold wtTokenSS; omega) (by unfold wtTokenSS; omega)
        go_wp2
        go_ret
        exact ⟨r, rfl, HN.out, hb⟩

set_option maxHeartbeats 4000000 in
set_option maxRecDepth 100000 in
theorem toTokenSS (v : Value) (l : List (List Tok)) (fp : List Nat) (w : World) (hW : wtTokenSS l ≤ 1048576) (H : (sSlice sToks).R w [v] l fp) :
    Calls Try.prog 11 #[v] w (Made (sSlice sToks) l w) := by
  have hB : l.length ≤ 1048576 := by unfold wtTokenSS at hW; omega
  have HW : Hid (∀ k, (hk : k < l.length) → wtTokenS l[k] ≤ 1048576) := fun k hk => by have := wsum_at wtTokenS l k hk; unfold wtTokenSS at hW; omega
  obtain ⟨a, cap, rfl, hc, hm, hrow⟩ := open_rows H
  unfold maxLen at hm
  clear H hW
  go_enter Try.func11, Try.ntmps11
  go_wp2_with (at_make; refine wp_make_full ti_toks _ rfl _ _ rfl w.heap.size l.length rfl rfl (by omega) (by unfold maxLen; omega) (Nat.le_refl _) ?_; intro w1 hown hgrow)
  have hbel := (Below.refl w.heap.size w).grown hgrow (Nat.le_refl _) (by simp)
  have HF0 := Filling.start (S := sToks) (l := l) hown
  clear hgrow hown
  go_loopw [4] (fun i wr => ∃ (k : Nat) (L : List (Elem (List Tok))) (R : List Value), k ≤ l.length ∧ i = .int .i64 k ∧ Hid (Filling sToks w.heap.size 30 l k wr L R) ∧ Below w.heap.size w wr) (fun i _ => l.length - (intOf i).toNat)
  case atStart => exact ⟨0, _, _, by omega, rfl, HF0, hbel⟩
  case round =>
    obtain ⟨k, L, R, hk, rfl, HF, hb⟩ := hrel
    clear HF0 hbel
    by_cases hlt : k < l.length
    · obtain ⟨b1, off1, fps1, rfl, hb1, -, he1⟩ := hrow (by omega)
      obtain ⟨es1, hE1, hR1⟩ := he1 k hlt
      clear hrow he1
      have hR2 := sToks.below hR1 hb
      obtain ⟨q1, d1, rfl⟩ := cells_slice hR1
      have HC := Lib.hid (toTokenS _ _ _ wr (HW.out k hlt) hR2)
      clear hR2 hR1
      replace hE1 := hE1.frame (hb.block b1 hb1)
      have c10 := elem_one hE1
      clear hE1
      go_wp2_with fail
      refine (HC.out).mono ?_
      rintro e w2 ⟨v2, fp2, rfl, hR2, hO2, hb2⟩
      have HN := Lib.hid (HF.out.next (cs := [v2]) hlt hb2 (by rfl) hR2 hO2)
      obtain ⟨ah2, caph2, rfl, -⟩ := open_rows hR2
      have HF2 := Lib.hid (HF.out.below hb2)
      obtain ⟨u0, d0⟩ : ∃ u, w2.cell? ⟨w.heap.size, k, none⟩ = some u := by
        have := HF2.out.cell hlt (j := 0) (by decide)
        have e : sToks.m = 1 := rfl
        rw [e, Nat.mul_one, Nat.add_zero] at this
        exact this
      have f0 := HF2.out.frozen k
      clear c10 hO2 hR2
      go_wp2
      obtain ⟨R', HN⟩ := HN.out
      go_roundw
      case rel => exact ⟨k + 1, _, R', by omega, by go_num, (by have e : sToks.m = 1 := rfl; rw [e, Nat.mul_one] at HN; exact HN), putAll_below (Nat.le_refl _) [_] _ k (hb.trans (hb2.mono hb.size))⟩
      case measure => simp [intOf]; omega
    · obtain ⟨fp', h1, h2⟩ := HF.out.done (by omega)
      go_wp2
      go_ret
      exact ⟨_, fp', rfl, h1, h2, hb⟩

set_option maxHeartbeats 8000000 in
set_option maxRecDepth 100000 in
theorem markTokenSS (v : Value) (l : List (List Tok)) (fp : List Nat) (lo : Nat) (k : Int) (w : World) (h0 : 0 ≤ k) (h1 : k + cntTokenSS l ≤ 2305843009213693952) (H : (sSlice sToks).R w [v] l fp) (O : Own w lo fp) :
    Calls Try.prog 24 #[v, .int .i64 k] w (Marked (sSlice sToks) v (mkTokenSS k l) fp lo (k + cntTokenSS l) w) := by
  have HI := Lib.hid H
  obtain ⟨a, cap, rfl, hc, hm, hrow0⟩ := open_rows H
  have hm' := hm
  unfold maxLen at hm
  clear H hrow0
  go_enter Try.func24, Try.ntmps24
  go_wp2
  go_loopw [1, 5] (fun t i wr => ∃ (j : Nat) (L : List (List Tok)) (kk : Int), j ≤ l.length ∧ i = .int .i64 j ∧ t = .int .i64 kk ∧ Hid (kk = k + cntAll cntTokenS (l.take j)) ∧ Hid (MkUpto mkTokenS cntTokenS k l j L) ∧ Hid ((sSlice sToks).R wr [.slice a l.length cap] L fp) ∧ Own wr lo fp ∧ Kept fp w wr) (fun _ i _ => l.length - (intOf i).toNat)
  case atStart => exact ⟨0, l, k, by omega, rfl, rfl, by show _ = _; simp [cntAll], MkUpto.zero _ _, HI.out, O, Kept.refl _ _⟩
  case round =>
    obtain ⟨j, L, kk, hj, rfl, rfl, HKK, HM, HR, HO, HK⟩ := hrel
    by_cases hlt : j < l.length
    · obtain ⟨a', cap', hv, hc', hm'', hrow⟩ := open_rows HR.out
      have hLl := HM.out.len
      obtain ⟨b, off, fps, hab, hb, hfp, he⟩ := hrow (by omega)
      simp only [Value.slice.injEq] at hv
      obtain ⟨rfl, hv2, rfl⟩ := hv
      subst hab
      clear hv2
      rw [hLl] at hfp
      subst hfp
      obtain ⟨es, hE, hR⟩ := he j (by omega)
      rw [HM.out.at hlt] at hR
      have hle := cntAll_le (c := cntTokenS) l (j + 1)
      rw [cntAll_take hlt] at hle
      have hKb : (0 : Int) ≤ kk ∧ kk + (cntTokenS l[j] : Int) ≤ 2305843009213693952 := by
        have := HKK.out
        unfold cntTokenSS at h1
        omega
      obtain ⟨hk0, hk1⟩ := hKb
      have HX := Lib.hid (HM.out.succ hlt)
      have HXK : Hid (kk + (cntTokenS l[j] : Int) = k + cntAll cntTokenS (l.take (j + 1))) := by
        show _ = _
        rw [cntAll_take hlt]
        have := HKK.out
        omega
      rw [← HKK.out] at HX
      obtain ⟨q1, d1, rfl⟩ := cells_slice hR
      have hnd := HO.1
      have hap := flat_apart hnd hlt
      have hbm : b ∈ b :: (List.range l.length).flatMap fps := by simp
      have Hrow : Hid (∀ (w' : World) (d : List Tok) (es' : List Value), Turned b (off + j * sToks.m) (off + j * sToks.m + sToks.m) (fps j) wr w' → ElemAt w' b off sToks.m j es' → sToks.R w' es' d (fps j) → (sSlice sToks).R w' [.slice (some ⟨b, off, none⟩) l.length cap] (L.set j d) (b :: (List.range l.length).flatMap fps)) :=
        fun w' d es' hT h1 h2 => row_turned hLl hc hm' hb he hlt hnd hT h1 h2
      clear he hrow hc' hm'' hle h1 hLl
      have hnj := flat_nodup hnd hlt
      have W0 := Lib.hid (Wr.start (fpj := fps j) hE HO hb hbm hap.1)
      have c0 := elem_one hE
      have HN2 := Lib.hid (HO.sub hnj (fun x hx => flat_sub hlt x hx))
      go_wp2_with fail
      refine (markTokenS _ _ _ lo _ _ (by omega) (by omega) hR HN2.out).mono ?_
      rintro e u2 ⟨rfl, R2, O2, hk2⟩
      have W4 := Lib.hid (W0.out.sub hk2 O2 (fun x hx => hx))
      have HRn := Lib.hid (Hrow.out _ (mkTokenS kk l[j]) _ W4.out.t W4.out.e R2)
      have HKn := Lib.hid (HK.trans (W4.out.t.keptAll hlt))
      have HOn := Lib.hid W4.out.o
      clear Hrow HR HO HK hnd hap hb W0 W4 R2 hk2 O2 HN2 c0 hR hE
      go_wp2
      go_roundw
      case rel => exact ⟨j + 1, _, _, by omega, by go_num, rfl, by show _ = _; have := HXK.out; omega, HX, HRn, HOn.out, HKn.out⟩
      case measure => simp [intOf]; omega
    · have HD := HM.out.done (by omega)
      have hjl : l.take j = l := List.take_of_length_le (by omega)
      have HKD := HKK.out
      rw [hjl] at HKD
      have HF := Lib.hid HKD
      have HRD := HR.out
      rw [HD] at HRD
      have HRF := Lib.hid HRD
      clear hjl HKD HRD HR HM HKK HD
      go_wp2
      go_ret
      exact ⟨by rw [HF.out]; rfl, HRF.out, HO, HK⟩

set_option maxHeartbeats 8000000 in
set_option maxRecDepth 100000 in
theorem heldTokenSS (v : Value) (l : List (List Tok)) (fp : List Nat) (k : Int) (w : World) (h0 : 0 ≤ k) (h1 : k + cntTokenSS l ≤ 2305843009213693952) (H : (sSlice sToks).R w [v] (mkTokenSS k l) fp) :
    Calls Try.prog 25 #[v, .int .i64 k] w fun e w' => e = .returned (.int .i64 (k + cntTokenSS l)) ∧ Below w.heap.size w w' := by
  obtain ⟨a, cap, rfl, hc, hm, hrow⟩ := open_rows H
  have hml : (mkTokenSS k l).length = l.length := mkAll_len _ _
  rw [hml] at hc ⊢
  unfold maxLen at hm
  have Hrow : Hid (∀ j, (hj : j < l.length) → ∃ (b off : Nat) (h2 : Value) (fp2 : List Nat), a = some ⟨b, off, none⟩ ∧ b < w.heap.size ∧ ∀ K : Int, K = k + cntAll cntTokenS (l.take j) → ElemAt w b off 1 j [h2] ∧ (sSlice sTok).R w [h2] (mkTokenS K l[j]) fp2) := by
    intro j hj
    obtain ⟨b, off, fps, hab, hb, _, he⟩ := hrow (by omega)
    obtain ⟨es, hE, hR⟩ := he j (by rw [hml]; exact hj)
    have hg : (mkTokenSS k l)[j]'(by rw [hml]; exact hj) = mkTokenS (k + cntAll cntTokenS (l.take j)) l[j] := mkAll_get k j hj
    rw [hg] at hR
    obtain ⟨q1, d1, rfl⟩ := cells_slice hR
    exact ⟨b, off, _, _, hab, hb, by rintro K rfl; exact ⟨hE, hR⟩⟩
  clear H hrow hml
  go_enter Try.func25, Try.ntmps25
  go_wp2
  go_loopw [1, 5] (fun t i wr => ∃ (j : Nat) (kk : Int), j ≤ l.length ∧ i = .int .i64 j ∧ t = .int .i64 kk ∧ Hid (kk = k + cntAll cntTokenS (l.take j)) ∧ Below w.heap.size w wr) (fun _ i _ => l.length - (intOf i).toNat)
  case atStart => exact ⟨0, k, by omega, rfl, rfl, by show _ = _; simp [cntAll], Below.refl _ _⟩
  case round =>
    obtain ⟨j, kk, hj, rfl, rfl, HKK, hbel⟩ := hrel
    by_cases hlt : j < l.length
    · obtain ⟨b, off, h2, fp2, rfl, hb, hEK⟩ := Hrow.out j hlt
      have hle := cntAll_le (c := cntTokenS) l (j + 1)
      rw [cntAll_take hlt] at hle
      have hKb : (0 : Int) ≤ kk ∧ kk + (cntTokenS l[j] : Int) ≤ 2305843009213693952 := by
        have := HKK.out
        unfold cntTokenSS at h1
        omega
      obtain ⟨hk0, hk1⟩ := hKb
      have HXK : Hid (kk + (cntTokenS l[j] : Int) = k + cntAll cntTokenS (l.take (j + 1))) := by
        show _ = _
        rw [cntAll_take hlt]
        have := HKK.out
        omega
      obtain ⟨hE, K2⟩ := hEK kk HKK.out
      replace hE := hE.frame (hbel.block b hb)
      clear Hrow h1 hle hEK
      replace K2 := (sSlice sTok).below K2 hbel
      have c0 := elem_one hE
      go_wp2_with fail
      refine (heldTokenS _ _ _ _ _ (by omega) (by omega) K2).mono ?_
      rintro e u3 ⟨rfl, hb3⟩
      have B3 := hbel.trans (hb3.mono hbel.size)
      clear c0 hb3 hE K2
      go_wp2
      go_roundw
      case rel => exact ⟨j + 1, _, by omega, by go_num, rfl, by show _ = _; have := HXK.out; omega, B3⟩
      case measure => simp [intOf]; omega
    · have hjl : l.take j = l := List.take_of_length_le (by omega)
      have HKD := HKK.out
      rw [hjl] at HKD
      have HF := Lib.hid HKD
      clear hjl HKD HKK
      go_wp2
      go_ret
      exact ⟨by rw [HF.out]; rfl, hbel⟩

end Go.Proofs.Ythbojipdhgidlaa

/- SameMacro of both. -/
namespace Go.Proofs.Ythbojipdhgidlaa
open Go.RowKit

/-! ### Lists that agree at every place -/
def EqU {α β : Type} (f : α → β) (a b : List α) (k : Nat) : Prop := ∀ j, (h : j < a.length) → (h' : j < b.length) → j < k → f a[j] = f b[j]
section
variable {α β : Type} {f : α → β} {a b : List α} {k : Nat}
theorem EqU.zero (f : α → β) (a b : List α) : EqU f a b 0 := by intro j _ _ h; omega
theorem EqU.succ (h : EqU f a b k) (h1 : k < a.length) (h2 : k < b.length) (e : f a[k] = f b[k]) : EqU f a b (k + 1) := by
  intro j hj hj' hjk
  by_cases e' : j = k
  · subst e'; exact e
  · exact h j hj hj' (by omega)
theorem EqU.yes (h : EqU f a b k) (hl : a.length = b.length) (hk : a.length ≤ k) : a.map f = b.map f := by
  refine List.ext_getElem (by simpa using hl) fun i h1 h2 => ?_
  simp only [List.length_map] at h1 h2
  rw [List.getElem_map, List.getElem_map]
  exact h i h1 h2 (by omega)
theorem eqU_no (h1 : k < a.length) (h2 : k < b.length) (e : f a[k] ≠ f b[k]) : a.map f ≠ b.map f := by
  intro e'
  have := List.getElem_of_eq e' (i := k) (by simpa using h1)
  rw [List.getElem_map, List.getElem_map] at this
  exact e this
end

def spOf (t : Tok) : Bool := t.spaced
def bodySame (a b : List Tok) : Bool := sameTx a b && decide (a.map spOf = b.map spOf)
def sameMac (x y : DMacro) : Bool := decide (x.name = y.name) && decide (x.function = y.function) && decide (x.params = y.params) && bodySame x.body y.body
theorem sameTx_len {a b : List Tok} (h : sameTx a b = true) : a.length = b.length := by
  by_cases e : a.length = b.length
  · exact e
  · rw [same_len e] at h; simp at h
theorem sameMac_name {x y : DMacro} (h : x.name ≠ y.name) : sameMac x y = false := by unfold sameMac; rw [decide_eq_false h]; rfl
theorem sameMac_fun {x y : DMacro} (h : x.function ≠ y.function) : sameMac x y = false := by unfold sameMac; rw [decide_eq_false h, Bool.and_false]; rfl
theorem sameMac_par {x y : DMacro} (h : x.params ≠ y.params) : sameMac x y = false := by unfold sameMac; rw [decide_eq_false h, Bool.and_false]; rfl
theorem sameMac_bod {x y : DMacro} (h : bodySame x.body y.body = false) : sameMac x y = false := by unfold sameMac; rw [h, Bool.and_false]
theorem sameMac_yes {x y : DMacro} (h0 : x.name = y.name) (h1 : x.function = y.function) (h2 : x.params = y.params) (h3 : bodySame x.body y.body = true) : sameMac x y = true := by
  unfold sameMac; rw [h3, decide_eq_true h0, decide_eq_true h1, decide_eq_true h2]; rfl
theorem bodySame_tx {a b : List Tok} (h : sameTx a b = false) : bodySame a b = false := by unfold bodySame; rw [h]; rfl
theorem bodySame_sp {a b : List Tok} (h : a.map spOf ≠ b.map spOf) : bodySame a b = false := by unfold bodySame; rw [decide_eq_false h, Bool.and_false]
theorem bodySame_yes {a b : List Tok} (h : sameTx a b = true) (h2 : a.map spOf = b.map spOf) : bodySame a b = true := by unfold bodySame; rw [h, decide_eq_true h2]; rfl

/-! ### slices.Equal at texts -/
theorem getD_at {l : List ByteArray} {j : Nat} (h : j < l.length) (d : ByteArray) : l.getD j d = l[j] := by simp [List.getD_eq_getElem?_getD, List.getElem?_eq_getElem h]
theorem blk2 {w w' : World} {a b : Nat} {x y : Obj} (h : w.heap[a]? = some x ∧ w.heap[b]? = some y) (hb : Below w.heap.size w w') : w'.heap[a]? = some x ∧ w'.heap[b]? = some y :=
  ⟨(hb.block _ (Array.getElem?_eq_some_iff.1 h.1).1).trans h.1, (hb.block _ (Array.getElem?_eq_some_iff.1 h.2).1).trans h.2⟩

end Go.Proofs.Ythbojipdhgidlaa

/- Validity of tables, of both. (Made by gen_tab2.py.) -/
namespace Go.Proofs.Ythbojipdhgidlaa
open Go.RowKit

section
variable {P : Program} {ops : Array Oper} {Q : Exit → Act → World → Prop} {md : Region.Mode} {S : World → Prop}
/-- An operation of a drawn region is taken first; its slot is written out. -/
theorem takeH (i d : Nat) {oi : Oper} {v : Value} {fuel : Nat} {listed : Array Bool} {a : Act} {w : World} (hi : ops[i]? = some oi) (hd : oi.dst = some d)
    (hs : Region.noSelect ops = true) (hf : Region.free md ops listed i = true) (hr : (Region.ready md ops listed).contains i = true)
    (hQ : ∀ c a w, Q (.panic c) (a.put (some d) v) w → Q (.panic c) a w) (hw : Region.wanted oi (yielded ops a.tmps) = true) (hS : S w)
    (hy : ∀ w, S w → (execOp a.eval oi).run P w = .ok (.value v) w)
    (h : wpAnyH P md ops Q S fuel (listed.setIfInBounds i true) (a.put (some d) v) w) : wpAnyH P md ops Q S (fuel + 1) listed a w :=
  wpAnyH_take hi hs hf hr (by rw [hd]; exact hQ) (.inl ⟨hw, hy⟩) hS (by rw [hd]; exact h)
/-- One whose guard is struck. -/
theorem skipH (i d : Nat) {oi : Oper} {fuel : Nat} {listed : Array Bool} {a : Act} {w : World} (hi : ops[i]? = some oi) (hd : oi.dst = some d)
    (hs : Region.noSelect ops = true) (hf : Region.free md ops listed i = true) (hr : (Region.ready md ops listed).contains i = true)
    (hQ : ∀ c a w, Q (.panic c) (a.put (some d) undef) w → Q (.panic c) a w) (hw : Region.wanted oi (yielded ops a.tmps) = false) (hS : S w)
    (h : wpAnyH P md ops Q S fuel (listed.setIfInBounds i true) (a.put (some d) undef) w) : wpAnyH P md ops Q S (fuel + 1) listed a w :=
  wpAnyH_take hi hs hf hr (by rw [hd]; exact hQ) (.inr ⟨hw, rfl⟩) hS (by rw [hd]; exact h)
end

def tabAt (l : List DMacro) (k : Nat) : Bool := if h : k < l.length then macOk l[k] && (decide (k = 0) || sLess (l[k - 1]'(by omega)).name l[k].name) else true
def tabOk (l : List DMacro) : Bool := decide (l.length ≤ 10) && (List.range l.length).all (tabAt l)
def TabUpto (l : List DMacro) (k : Nat) : Prop := ∀ j, j < k → tabAt l j = true
theorem TabUpto.zero (l : List DMacro) : TabUpto l 0 := fun j h => absurd h (by omega)
theorem TabUpto.succ {l : List DMacro} {k : Nat} (h : TabUpto l k) (hk : tabAt l k = true) : TabUpto l (k + 1) := fun j hj => by
  by_cases e : j = k
  · subst e; exact hk
  · exact h j (by omega)
theorem tabOk_long {l : List DMacro} (h : 10 < l.length) : tabOk l = false := by unfold tabOk; rw [decide_eq_false (by omega)]; rfl
theorem tabOk_no {l : List DMacro} {k : Nat} (hk : k < l.length) (h : tabAt l k = false) : tabOk l = false := by
  unfold tabOk
  rw [Bool.and_eq_false_iff]
  exact .inr (List.all_eq_false.2 ⟨k, List.mem_range.2 hk, by simp [h]⟩)
theorem tabOk_yes {l : List DMacro} (h : TabUpto l l.length) (hl : l.length ≤ 10) : tabOk l = true := by
  unfold tabOk
  rw [decide_eq_true hl, Bool.true_and, List.all_eq_true]
  exact fun k hk => h k (List.mem_range.1 hk)
theorem tabOk_upto {l : List DMacro} (h : TabUpto l l.length) : tabOk l = decide (l.length ≤ 10) := by
  unfold tabOk
  rw [show (List.range l.length).all (tabAt l) = true from List.all_eq_true.2 fun k hk => h k (List.mem_range.1 hk), Bool.and_true]
theorem tabOk_at {l : List DMacro} (h : tabOk l = true) : l.length ≤ 10 ∧ ∀ k, k < l.length → tabAt l k = true := by
  unfold tabOk at h
  rw [Bool.and_eq_true, decide_eq_true_eq, List.all_eq_true] at h
  exact ⟨h.1, fun k hk => h.2 k (List.mem_range.2 hk)⟩
theorem tabAt_bad {l : List DMacro} {k : Nat} (hk : k < l.length) (h : macOk l[k] = false) : tabAt l k = false := by unfold tabAt; rw [dif_pos hk, h]; rfl
theorem tabAt_first {l : List DMacro} (hk : 0 < l.length) (h : macOk l[0] = true) : tabAt l 0 = true := by unfold tabAt; rw [dif_pos hk, h]; rfl
theorem tabAt_less {l : List DMacro} {k : Nat} (hk : k < l.length) (h0 : 0 < k) (h : sLess (l[k - 1]'(by omega)).name l[k].name = false) : tabAt l k = false := by
  unfold tabAt; rw [dif_pos hk, h, decide_eq_false (by omega), Bool.or_false, Bool.and_false]
theorem tabAt_later {l : List DMacro} {k : Nat} (hk : k < l.length) (h : macOk l[k] = true) (h2 : sLess (l[k - 1]'(by omega)).name l[k].name = true) : tabAt l k = true := by
  unfold tabAt; rw [dif_pos hk, h, h2, Bool.or_true]; rfl

end Go.Proofs.Ythbojipdhgidlaa

/- ArgumentsFit of both. (Made by gen_argf.py.) -/
namespace Go.Proofs.Ythbojipdhgidlaa
open Go.RowKit

def argN (p : Nat) (A : List (List Tok)) : Nat := if h : A.length = 1 then (if p = 0 ∧ (A[0]'(by omega)).length = 0 then 0 else 1) else A.length
def fits (m : DMacro) (A : List (List Tok)) : Bool := macOk m && (m.function && decide (argN m.params.length A = m.params.length))
theorem fits_no {m : DMacro} {A : List (List Tok)} (h : macOk m = false) : fits m A = false := by unfold fits; rw [h]; rfl
theorem fits_nf {m : DMacro} {A : List (List Tok)} (h : m.function = false) : fits m A = false := by unfold fits; rw [h, Bool.false_and, Bool.and_false]
theorem fits_is {m : DMacro} {A : List (List Tok)} (h : macOk m = true) (h2 : m.function = true) : fits m A = decide (argN m.params.length A = m.params.length) := by unfold fits; rw [h, h2]; rfl
theorem argN_one {p : Nat} {A : List (List Tok)} (h : A.length = 1) : argN p A = if p = 0 ∧ (A[0]'(by omega)).length = 0 then 0 else 1 := by unfold argN; rw [dif_pos h]
theorem argN_other {p : Nat} {A : List (List Tok)} (h : A.length ≠ 1) : argN p A = A.length := by unfold argN; rw [dif_neg h]

set_option maxHeartbeats 4000000 in
set_option maxRecDepth 100000 in
theorem spec_l7Count (cs : List Value) (m : DMacro) (fpm : List Nat) (v : Value) (A : List (List Tok)) (fpa : List Nat) (w : World) (Hm : sMacro.R w cs m fpm) (Ha : (sSlice sToks).R w [v] A fpa) :
    Calls Try.prog 30 #[.agg cs.toArray, v] w fun e w' => e = .returned (.int .i64 (argN m.params.length A : Nat)) ∧ Below w.heap.size w w' := by
  obtain ⟨h2, h3, p2, p3, rfl, hok, K2, K3, rfl⟩ := Hm
  obtain ⟨a2, c2, rfl, -⟩ := open_strs K2
  obtain ⟨a3, c3, rfl, -⟩ := open_rows K3
  obtain ⟨a, cap, rfl, hc, hm, hrow⟩ := open_rows Ha
  unfold maxLen at hm
  have b0 := alloc_below' w (.cells #[.string m.name, .bool m.function, .slice a2 m.params.length c2, .slice a3 m.body.length c3] 32)
  clear K2 K3 Ha
  go_enter Try.func30, Try.ntmps30
  by_cases hp : m.params.length = 0
  · have e0 : ((m.params.length : Int) == 0) = true := by simp [hp]
    by_cases h1 : A.length = 1
    · have e1 : ((A.length : Int) == 1) = true := by simp [h1]
      obtain ⟨b, off, fps, rfl, hb, -, he⟩ := hrow (by omega)
      have hA0 : 0 < A.length := by omega
      obtain ⟨es, hE, hR⟩ := he 0 hA0
      obtain ⟨q, d, rfl⟩ := cells_slice hR
      replace hE := hE.frame (b0.block b hb)
      have c0 := elem_one hE
      have c0' : (w.alloc (.cells #[.string m.name, .bool m.function, .slice a2 m.params.length c2, .slice a3 m.body.length c3] 32)).cell? ⟨b, off, none⟩ = some (.slice q (A[0]'hA0).length d) := c0
      have hl : (0 : Int) < (A.length : Int) := by omega
      have HN := Lib.hid (argN_one (p := m.params.length) h1)
      by_cases hz : (A[0]'hA0).length = 0
      · have e2 : (((A[0]'hA0).length : Int) == 0) = true := by simp [hz]
        rw [if_pos ⟨hp, hz⟩] at HN
        clear hz hp h1 hE hR he hrow
        go_wp2
        go_ret
        exact ⟨by rw [HN.out]; rfl, b0⟩
      · have e2 : (((A[0]'hA0).length : Int) == 0) = false := by simp; intro h; exact hz (by rw [h]; rfl)
        rw [if_neg (fun h => hz h.2)] at HN
        have HA : Hid ((A.length : Int) = ((1 : Nat) : Int)) := by show _ = _; omega
        clear hz hp h1 hE hR he hrow
        go_wp2
        go_ret
        exact ⟨by rw [HN.out, HA.out]; rfl, b0⟩
    · have e1 : ((A.length : Int) == 1) = false := by simp; omega
      have HN := Lib.hid (argN_other (p := m.params.length) h1)
      clear hp h1 hrow
      go_wp2
      go_ret
      exact ⟨by rw [HN.out]; rfl, b0⟩
  · have e0 : ((m.params.length : Int) == 0) = false := by simp; intro h; exact hp (by rw [h]; rfl)
    have HN : Hid (argN m.params.length A = A.length) := by
      show _ = _
      by_cases h1 : A.length = 1
      · rw [argN_one h1, if_neg (fun h => hp h.1), h1]
      · exact argN_other h1
    clear hp hrow
    go_wp2
    go_ret
    exact ⟨by rw [HN.out]; rfl, b0⟩

set_option maxHeartbeats 4000000 in
set_option maxRecDepth 100000 in
theorem impl_ArgumentsFit (cs : List Value) (m : DMacro) (fpm : List Nat) (v : Value) (A : List (List Tok)) (fpa : List Nat) (w : World) (Hm : sMacro.R w cs m fpm) (Ha : (sSlice sToks).R w [v] A fpa) :
    Calls Try.prog 12 #[.agg cs.toArray, v] w (Says (fits m A) w) := by
  have HC := Lib.hid (fun W (hW : Below w.heap.size w W) => impl_MacroValid cs m fpm W (sMacro.below Hm hW))
  obtain ⟨h2, h3, p2, p3, rfl, hok, K2, K3, rfl⟩ := Hm
  obtain ⟨a2, c2, rfl, -⟩ := open_strs K2
  obtain ⟨a3, c3, rfl, -⟩ := open_rows K3
  obtain ⟨a, cap, rfl, hc, hm, hrow⟩ := open_rows Ha
  unfold maxLen at hm
  have b0 := alloc_below' w (.cells #[.string m.name, .bool m.function, .slice a2 m.params.length c2, .slice a3 m.body.length c3] 32)
  have HX := Lib.hid (heap_alloc_new w (.cells #[.string m.name, .bool m.function, .slice a2 m.params.length c2, .slice a3 m.body.length c3] 32))
  clear K2 K3 Ha
  go_enter Try.func12, Try.ntmps12
  cases hv : macOk m
  · rw [hv] at HC
    have HF := Lib.hid (fits_no (A := A) hv)
    clear hv hrow
    go_wp2_with fail
    refine (HC.out _ b0).mono ?_
    rintro e w2 ⟨rfl, hb2⟩
    go_wp2
    go_ret
    exact ⟨ret_bool HF.out.symm, b0.trans (hb2.mono b0.size)⟩
  rw [hv] at HC
  go_wp2_with fail
  refine (HC.out _ b0).mono ?_
  rintro e w2 ⟨rfl, hb2⟩
  have HX2 := Lib.hid ((hb2.block _ (Array.getElem?_eq_some_iff.1 HX.out).1).trans HX.out)
  have c1 : w2.cell? ⟨w.heap.size, 1, none⟩ = some (.bool m.function) := cell_of_row _ _ 1 _ _ _ HX2.out
  have c2' : w2.cell? ⟨w.heap.size, 2, none⟩ = some (.slice a2 m.params.length c2) := cell_of_row _ _ 2 _ _ _ HX2.out
  have hbx := b0.trans (hb2.mono b0.size)
  clear HC HX hb2 b0
  cases hf : m.function
  · rw [hf] at c1
    have HF := Lib.hid (fits_nf (A := A) hf)
    clear hv hf hrow
    go_wp2
    go_ret
    exact ⟨ret_bool HF.out.symm, hbx⟩
  rw [hf] at c1
  have HF := Lib.hid (fits_is (A := A) hv hf)
  clear hv hf
  by_cases hp : m.params.length = 0
  · have e0 : ((m.params.length : Int) == 0) = true := by simp [hp]
    by_cases h1 : A.length = 1
    · have e1 : ((A.length : Int) == 1) = true := by simp [h1]
      obtain ⟨b, off, fps, rfl, hb, -, he⟩ := hrow (by omega)
      have hA0 : 0 < A.length := by omega
      obtain ⟨es, hE, hR⟩ := he 0 hA0
      obtain ⟨q, d, rfl⟩ := cells_slice hR
      replace hE := hE.frame (hbx.block b hb)
      have c0 := elem_one hE
      have c0' : w2.cell? ⟨b, off, none⟩ = some (.slice q (A[0]'hA0).length d) := c0
      have hl : (0 : Int) < (A.length : Int) := by omega
      have HG : Hid (fits m A = (((A[0]'hA0).length : Int) == 0)) := by
        show _ = _
        rw [HF.out, argN_one h1, hp]
        by_cases hz : (A[0]'hA0).length = 0
        · rw [if_pos ⟨rfl, hz⟩, hz]; rfl
        · rw [if_neg (fun h => hz h.2)]
          have : (((A[0]'hA0).length : Int) == 0) = false := by simp; intro h; exact hz (by rw [h]; rfl)
          rw [this]; rfl
      clear hp h1 hE hR he hrow HF
      generalize hg : (((A[0]'hA0).length : Int) == 0) = g at *
      go_wp2
      go_ret
      exact ⟨ret_bool HG.out.symm, hbx⟩
    · have e1 : ((A.length : Int) == 1) = false := by simp; omega
      have HG : Hid (fits m A = ((A.length : Int) == (m.params.length : Int))) := by
        show _ = _
        rw [HF.out, argN_other h1]
        by_cases hz : A.length = m.params.length
        · rw [decide_eq_true hz, hz]; simp
        · rw [decide_eq_false hz]; symm; simp; omega
      clear hp h1 hrow HF
      generalize hg : ((A.length : Int) == (m.params.length : Int)) = g at *
      go_wp2
      go_ret
      exact ⟨ret_bool HG.out.symm, hbx⟩
  · have e0 : ((m.params.length : Int) == 0) = false := by simp; intro h; exact hp (by rw [h]; rfl)
    have HG : Hid (fits m A = ((A.length : Int) == (m.params.length : Int))) := by
      show _ = _
      have hN : argN m.params.length A = A.length := by
        by_cases h1 : A.length = 1
        · rw [argN_one h1, if_neg (fun h => hp h.1), h1]
        · exact argN_other h1
      rw [HF.out, hN]
      by_cases hz : A.length = m.params.length
      · rw [decide_eq_true hz, hz]; simp
      · rw [decide_eq_false hz]; symm; simp; omega
    clear hp hrow HF
    generalize hg : ((A.length : Int) == (m.params.length : Int)) = g at *
    go_wp2
    go_ret
    exact ⟨ret_bool HG.out.symm, hbx⟩

set_option maxHeartbeats 8000000 in
set_option maxRecDepth 100000 in
theorem spec_ArgumentsFit (cs : List Value) (m : DMacro) (fpm : List Nat) (v : Value) (A : List (List Tok)) (fpa : List Nat) (w : World) (Hm : sMacro.R w cs m fpm) (Ha : (sSlice sToks).R w [v] A fpa) :
    Calls Try.prog 9 #[.agg cs.toArray, v] w (Says (fits m A) w) := by
  have HC := Lib.hid (fun W (hW : Below w.heap.size w W) => spec_MacroValid cs m fpm W (sMacro.below Hm hW))
  have HN := Lib.hid (fun W (hW : Below w.heap.size w W) => spec_l7Count cs m fpm v A fpa W (sMacro.below Hm hW) ((sSlice sToks).below Ha hW))
  obtain ⟨h2, h3, p2, p3, rfl, hok, K2, K3, rfl⟩ := Hm
  obtain ⟨a2, c2, rfl, -⟩ := open_strs K2
  obtain ⟨a3, c3, rfl, -⟩ := open_rows K3
  obtain ⟨a, cap, rfl, hc, hm, -⟩ := open_rows Ha
  have b0 := alloc_below' w (.cells #[.string m.name, .bool m.function, .slice a2 m.params.length c2, .slice a3 m.body.length c3] 32)
  have HX := Lib.hid (heap_alloc_new w (.cells #[.string m.name, .bool m.function, .slice a2 m.params.length c2, .slice a3 m.body.length c3] 32))
  have bd := b0.drew
  clear K2 K3 Ha
  go_enter Try.func9, Try.ntmps9
  cases hv : macOk m
  · rw [hv] at HC
    have HF := Lib.hid (fits_no (A := A) hv)
    clear hv HN
    go_wp2_with fail
    refine wp_region_noPanic ?_
    refine wp_region_held_drew (S := fun w' => w'.heap[w.heap.size]? = some (.cells #[.string m.name, .bool m.function, .slice a2 m.params.length c2, .slice a3 m.body.length c3] 32 (0, 0))) (by kernel_rfl) (by exact HX.out) (fun hHeld => ?_)
    generalize (w.alloc (.cells #[.string m.name, .bool m.function, .slice a2 m.params.length c2, .slice a3 m.body.length c3] 32)).drew = wd at *
    refine takeH 0 5 (v := ?_) rfl rfl (by kernel_rfl) (by kernel_rfl) (by kernel_rfl) (fun _ _ _ h => h) (by rfl) (by assumption) ?_ ?_
    rotate_left
    · intro w hSw; have s0 := cell_of_row _ _ 0 _ _ _ hSw; have s1 := cell_of_row _ _ 1 _ _ _ hSw; have s2 := cell_of_row _ _ 2 _ _ _ hSw; have s3 := cell_of_row _ _ 3 _ _ _ hSw; go_simp; (first | done | with_reducible rfl | rfl)
    try simp only [Act.put, List.setIfInBounds_toArray, List.set_cons_zero, List.set_cons_succ]
    refine wpAnyH_ready (rs := [1]) (by kernel_rfl) (by simp) ?_
    refine AllReadyH.cons rfl (fun K hK => ?_) AllReadyH.nil
    go_simp
    refine (HC.out _ bd).mono ?_
    rintro e w2 ⟨rfl, b30⟩
    refine hK.out _ _ ((b30.block _ (Array.getElem?_eq_some_iff.1 hHeld).1).trans hHeld) (fun hHeld => ?_)
    clear hK K
    try simp only [Act.put, List.setIfInBounds_toArray, List.set_cons_zero, List.set_cons_succ]
    refine takeH 2 7 (v := ?_) rfl rfl (by kernel_rfl) (by kernel_rfl) (by kernel_rfl) (fun _ _ _ h => h) (by rfl) (by assumption) ?_ ?_
    rotate_left
    · intro w hSw; go_simp; (first | done | with_reducible rfl | rfl)
    try simp only [Act.put, List.setIfInBounds_toArray, List.set_cons_zero, List.set_cons_succ]
    refine skipH 3 8 rfl rfl (by kernel_rfl) (by kernel_rfl) (by kernel_rfl) (fun _ _ _ h => h) (by rfl) (by assumption) ?_
    try simp only [Act.put, List.setIfInBounds_toArray, List.set_cons_zero, List.set_cons_succ]
    refine skipH 4 9 rfl rfl (by kernel_rfl) (by kernel_rfl) (by kernel_rfl) (fun _ _ _ h => h) (by rfl) (by assumption) ?_
    try simp only [Act.put, List.setIfInBounds_toArray, List.set_cons_zero, List.set_cons_succ]
    refine takeH 5 10 (v := ?_) rfl rfl (by kernel_rfl) (by kernel_rfl) (by kernel_rfl) (fun _ _ _ h => h) (by rfl) (by assumption) ?_ ?_
    rotate_left
    · intro w hSw; go_simp; (first | done | with_reducible rfl | rfl)
    try simp only [Act.put, List.setIfInBounds_toArray, List.set_cons_zero, List.set_cons_succ]
    refine takeH 6 11 (v := ?_) rfl rfl (by kernel_rfl) (by kernel_rfl) (by kernel_rfl) (fun _ _ _ h => h) (by rfl) (by assumption) ?_ ?_
    rotate_left
    · intro w hSw; go_simp; (first | done | with_reducible rfl | rfl)
    try simp only [Act.put, List.setIfInBounds_toArray, List.set_cons_zero, List.set_cons_succ]
    refine skipH 7 12 rfl rfl (by kernel_rfl) (by kernel_rfl) (by kernel_rfl) (fun _ _ _ h => h) (by rfl) (by assumption) ?_
    try simp only [Act.put, List.setIfInBounds_toArray, List.set_cons_zero, List.set_cons_succ]
    refine skipH 8 13 rfl rfl (by kernel_rfl) (by kernel_rfl) (by kernel_rfl) (fun _ _ _ h => h) (by rfl) (by assumption) ?_
    try simp only [Act.put, List.setIfInBounds_toArray, List.set_cons_zero, List.set_cons_succ]
    refine skipH 9 14 rfl rfl (by kernel_rfl) (by kernel_rfl) (by kernel_rfl) (fun _ _ _ h => h) (by rfl) (by assumption) ?_
    try simp only [Act.put, List.setIfInBounds_toArray, List.set_cons_zero, List.set_cons_succ]
    refine skipH 10 15 rfl rfl (by kernel_rfl) (by kernel_rfl) (by kernel_rfl) (fun _ _ _ h => h) (by rfl) (by assumption) ?_
    try simp only [Act.put, List.setIfInBounds_toArray, List.set_cons_zero, List.set_cons_succ]
    refine skipH 11 16 rfl rfl (by kernel_rfl) (by kernel_rfl) (by kernel_rfl) (fun _ _ _ h => h) (by rfl) (by assumption) ?_
    try simp only [Act.put, List.setIfInBounds_toArray, List.set_cons_zero, List.set_cons_succ]
    refine skipH 12 17 rfl rfl (by kernel_rfl) (by kernel_rfl) (by kernel_rfl) (fun _ _ _ h => h) (by rfl) (by assumption) ?_
    try simp only [Act.put, List.setIfInBounds_toArray, List.set_cons_zero, List.set_cons_succ]
    refine skipH 13 18 rfl rfl (by kernel_rfl) (by kernel_rfl) (by kernel_rfl) (fun _ _ _ h => h) (by rfl) (by assumption) ?_
    try simp only [Act.put, List.setIfInBounds_toArray, List.set_cons_zero, List.set_cons_succ]
    refine takeH 14 19 (v := ?_) rfl rfl (by kernel_rfl) (by kernel_rfl) (by kernel_rfl) (fun _ _ _ h => h) (by rfl) (by assumption) ?_ ?_
    rotate_left
    · intro w hSw; go_simp; (first | done | with_reducible rfl | rfl)
    try simp only [Act.put, List.setIfInBounds_toArray, List.set_cons_zero, List.set_cons_succ]
    refine takeH 15 4 (v := ?_) rfl rfl (by kernel_rfl) (by kernel_rfl) (by kernel_rfl) (fun _ _ _ h => h) (by rfl) (by assumption) ?_ ?_
    rotate_left
    · intro w hSw; go_simp; (first | done | with_reducible rfl | rfl)
    try simp only [Act.put, List.setIfInBounds_toArray, List.set_cons_zero, List.set_cons_succ]
    refine wpAnyH_done (by kernel_rfl) ?_ _
    refine NoPanic.normal ?_
    clear hHeld
    have hbx := bd.trans (b30.mono bd.size)
    go_wp2
    go_ret
    exact ⟨ret_bool HF.out.symm, hbx⟩
  rw [hv] at HC
  cases hf : m.function
  · have HF := Lib.hid (fits_nf (A := A) hf)
    rw [hf] at HX HN bd b0 HC
    clear hv hf HN
    go_wp2_with fail
    refine wp_region_noPanic ?_
    refine wp_region_held_drew (S := fun w' => w'.heap[w.heap.size]? = some (.cells #[.string m.name, .bool false, .slice a2 m.params.length c2, .slice a3 m.body.length c3] 32 (0, 0))) (by kernel_rfl) (by exact HX.out) (fun hHeld => ?_)
    generalize (w.alloc (.cells #[.string m.name, .bool false, .slice a2 m.params.length c2, .slice a3 m.body.length c3] 32)).drew = wd at *
    refine takeH 0 5 (v := ?_) rfl rfl (by kernel_rfl) (by kernel_rfl) (by kernel_rfl) (fun _ _ _ h => h) (by rfl) (by assumption) ?_ ?_
    rotate_left
    · intro w hSw; have s0 := cell_of_row _ _ 0 _ _ _ hSw; have s1 := cell_of_row _ _ 1 _ _ _ hSw; have s2 := cell_of_row _ _ 2 _ _ _ hSw; have s3 := cell_of_row _ _ 3 _ _ _ hSw; go_simp; (first | done | with_reducible rfl | rfl)
    try simp only [Act.put, List.setIfInBounds_toArray, List.set_cons_zero, List.set_cons_succ]
    refine wpAnyH_ready (rs := [1]) (by kernel_rfl) (by simp) ?_
    refine AllReadyH.cons rfl (fun K hK => ?_) AllReadyH.nil
    go_simp
    refine (HC.out _ bd).mono ?_
    rintro e w2 ⟨rfl, b30⟩
    refine hK.out _ _ ((b30.block _ (Array.getElem?_eq_some_iff.1 hHeld).1).trans hHeld) (fun hHeld => ?_)
    clear hK K
    try simp only [Act.put, List.setIfInBounds_toArray, List.set_cons_zero, List.set_cons_succ]
    refine takeH 2 7 (v := ?_) rfl rfl (by kernel_rfl) (by kernel_rfl) (by kernel_rfl) (fun _ _ _ h => h) (by rfl) (by assumption) ?_ ?_
    rotate_left
    · intro w hSw; go_simp; (first | done | with_reducible rfl | rfl)
    try simp only [Act.put, List.setIfInBounds_toArray, List.set_cons_zero, List.set_cons_succ]
    refine takeH 3 8 (v := ?_) rfl rfl (by kernel_rfl) (by kernel_rfl) (by kernel_rfl) (fun _ _ _ h => h) (by rfl) (by assumption) ?_ ?_
    rotate_left
    · intro w hSw; have s0 := cell_of_row _ _ 0 _ _ _ hSw; have s1 := cell_of_row _ _ 1 _ _ _ hSw; have s2 := cell_of_row _ _ 2 _ _ _ hSw; have s3 := cell_of_row _ _ 3 _ _ _ hSw; go_simp; (first | done | with_reducible rfl | rfl)
    try simp only [Act.put, List.setIfInBounds_toArray, List.set_cons_zero, List.set_cons_succ]
    refine takeH 4 9 (v := ?_) rfl rfl (by kernel_rfl) (by kernel_rfl) (by kernel_rfl) (fun _ _ _ h => h) (by rfl) (by assumption) ?_ ?_
    rotate_left
    · intro w hSw; have s0 := cell_of_row _ _ 0 _ _ _ hSw; have s1 := cell_of_row _ _ 1 _ _ _ hSw; have s2 := cell_of_row _ _ 2 _ _ _ hSw; have s3 := cell_of_row _ _ 3 _ _ _ hSw; go_simp; (first | done | with_reducible rfl | rfl)
    try simp only [Act.put, List.setIfInBounds_toArray, List.set_cons_zero, List.set_cons_succ]
    refine takeH 5 10 (v := ?_) rfl rfl (by kernel_rfl) (by kernel_rfl) (by kernel_rfl) (fun _ _ _ h => h) (by rfl) (by assumption) ?_ ?_
    rotate_left
    · intro w hSw; go_simp; (first | done | with_reducible rfl | rfl)
    try simp only [Act.put, List.setIfInBounds_toArray, List.set_cons_zero, List.set_cons_succ]
    refine takeH 6 11 (v := ?_) rfl rfl (by kernel_rfl) (by kernel_rfl) (by kernel_rfl) (fun _ _ _ h => h) (by rfl) (by assumption) ?_ ?_
    rotate_left
    · intro w hSw; go_simp; (first | done | with_reducible rfl | rfl)
    try simp only [Act.put, List.setIfInBounds_toArray, List.set_cons_zero, List.set_cons_succ]
    refine skipH 7 12 rfl rfl (by kernel_rfl) (by kernel_rfl) (by kernel_rfl) (fun _ _ _ h => h) (by rfl) (by assumption) ?_
    try simp only [Act.put, List.setIfInBounds_toArray, List.set_cons_zero, List.set_cons_succ]
    refine skipH 8 13 rfl rfl (by kernel_rfl) (by kernel_rfl) (by kernel_rfl) (fun _ _ _ h => h) (by rfl) (by assumption) ?_
    try simp only [Act.put, List.setIfInBounds_toArray, List.set_cons_zero, List.set_cons_succ]
    refine skipH 9 14 rfl rfl (by kernel_rfl) (by kernel_rfl) (by kernel_rfl) (fun _ _ _ h => h) (by rfl) (by assumption) ?_
    try simp only [Act.put, List.setIfInBounds_toArray, List.set_cons_zero, List.set_cons_succ]
    refine skipH 10 15 rfl rfl (by kernel_rfl) (by kernel_rfl) (by kernel_rfl) (fun _ _ _ h => h) (by rfl) (by assumption) ?_
    try simp only [Act.put, List.setIfInBounds_toArray, List.set_cons_zero, List.set_cons_succ]
    refine skipH 11 16 rfl rfl (by kernel_rfl) (by kernel_rfl) (by kernel_rfl) (fun _ _ _ h => h) (by rfl) (by assumption) ?_
    try simp only [Act.put, List.setIfInBounds_toArray, List.set_cons_zero, List.set_cons_succ]
    refine skipH 12 17 rfl rfl (by kernel_rfl) (by kernel_rfl) (by kernel_rfl) (fun _ _ _ h => h) (by rfl) (by assumption) ?_
    try simp only [Act.put, List.setIfInBounds_toArray, List.set_cons_zero, List.set_cons_succ]
    refine skipH 13 18 rfl rfl (by kernel_rfl) (by kernel_rfl) (by kernel_rfl) (fun _ _ _ h => h) (by rfl) (by assumption) ?_
    try simp only [Act.put, List.setIfInBounds_toArray, List.set_cons_zero, List.set_cons_succ]
    refine takeH 14 19 (v := ?_) rfl rfl (by kernel_rfl) (by kernel_rfl) (by kernel_rfl) (fun _ _ _ h => h) (by rfl) (by assumption) ?_ ?_
    rotate_left
    · intro w hSw; go_simp; (first | done | with_reducible rfl | rfl)
    try simp only [Act.put, List.setIfInBounds_toArray, List.set_cons_zero, List.set_cons_succ]
    refine takeH 15 4 (v := ?_) rfl rfl (by kernel_rfl) (by kernel_rfl) (by kernel_rfl) (fun _ _ _ h => h) (by rfl) (by assumption) ?_ ?_
    rotate_left
    · intro w hSw; go_simp; (first | done | with_reducible rfl | rfl)
    try simp only [Act.put, List.setIfInBounds_toArray, List.set_cons_zero, List.set_cons_succ]
    refine wpAnyH_done (by kernel_rfl) ?_ _
    refine NoPanic.normal ?_
    clear hHeld
    have hbx := bd.trans (b30.mono bd.size)
    go_wp2
    go_ret
    exact ⟨ret_bool HF.out.symm, hbx⟩
  have HF : Hid (fits m A = ((argN m.params.length A : Int) == (m.params.length : Int))) := by
    show _ = _
    rw [fits_is hv hf]
    by_cases hz : argN m.params.length A = m.params.length
    · rw [decide_eq_true hz, hz]; simp
    · rw [decide_eq_false hz]; symm; simp; omega
  rw [hf] at HX HN bd b0 HC
  clear hv hf
  go_wp2_with fail
  refine wp_region_noPanic ?_
  refine wp_region_held_drew (S := fun w' => w'.heap[w.heap.size]? = some (.cells #[.string m.name, .bool true, .slice a2 m.params.length c2, .slice a3 m.body.length c3] 32 (0, 0))) (by kernel_rfl) (by exact HX.out) (fun hHeld => ?_)
  generalize (w.alloc (.cells #[.string m.name, .bool true, .slice a2 m.params.length c2, .slice a3 m.body.length c3] 32)).drew = wd at *
  refine takeH 0 5 (v := ?_) rfl rfl (by kernel_rfl) (by kernel_rfl) (by kernel_rfl) (fun _ _ _ h => h) (by rfl) (by assumption) ?_ ?_
  rotate_left
  · intro w hSw; have s0 := cell_of_row _ _ 0 _ _ _ hSw; have s1 := cell_of_row _ _ 1 _ _ _ hSw; have s2 := cell_of_row _ _ 2 _ _ _ hSw; have s3 := cell_of_row _ _ 3 _ _ _ hSw; go_simp; (first | done | with_reducible rfl | rfl)
  try simp only [Act.put, List.setIfInBounds_toArray, List.set_cons_zero, List.set_cons_succ]
  refine wpAnyH_ready (rs := [1]) (by kernel_rfl) (by simp) ?_
  refine AllReadyH.cons rfl (fun K hK => ?_) AllReadyH.nil
  go_simp
  refine (HC.out _ bd).mono ?_
  rintro e w2 ⟨rfl, b30⟩
  refine hK.out _ _ ((b30.block _ (Array.getElem?_eq_some_iff.1 hHeld).1).trans hHeld) (fun hHeld => ?_)
  clear hK K
  try simp only [Act.put, List.setIfInBounds_toArray, List.set_cons_zero, List.set_cons_succ]
  refine takeH 2 7 (v := ?_) rfl rfl (by kernel_rfl) (by kernel_rfl) (by kernel_rfl) (fun _ _ _ h => h) (by rfl) (by assumption) ?_ ?_
  rotate_left
  · intro w hSw; go_simp; (first | done | with_reducible rfl | rfl)
  try simp only [Act.put, List.setIfInBounds_toArray, List.set_cons_zero, List.set_cons_succ]
  refine takeH 3 8 (v := ?_) rfl rfl (by kernel_rfl) (by kernel_rfl) (by kernel_rfl) (fun _ _ _ h => h) (by rfl) (by assumption) ?_ ?_
  rotate_left
  · intro w hSw; have s0 := cell_of_row _ _ 0 _ _ _ hSw; have s1 := cell_of_row _ _ 1 _ _ _ hSw; have s2 := cell_of_row _ _ 2 _ _ _ hSw; have s3 := cell_of_row _ _ 3 _ _ _ hSw; go_simp; (first | done | with_reducible rfl | rfl)
  try simp only [Act.put, List.setIfInBounds_toArray, List.set_cons_zero, List.set_cons_succ]
  refine takeH 4 9 (v := ?_) rfl rfl (by kernel_rfl) (by kernel_rfl) (by kernel_rfl) (fun _ _ _ h => h) (by rfl) (by assumption) ?_ ?_
  rotate_left
  · intro w hSw; have s0 := cell_of_row _ _ 0 _ _ _ hSw; have s1 := cell_of_row _ _ 1 _ _ _ hSw; have s2 := cell_of_row _ _ 2 _ _ _ hSw; have s3 := cell_of_row _ _ 3 _ _ _ hSw; go_simp; (first | done | with_reducible rfl | rfl)
  try simp only [Act.put, List.setIfInBounds_toArray, List.set_cons_zero, List.set_cons_succ]
  refine takeH 5 10 (v := ?_) rfl rfl (by kernel_rfl) (by kernel_rfl) (by kernel_rfl) (fun _ _ _ h => h) (by rfl) (by assumption) ?_ ?_
  rotate_left
  · intro w hSw; go_simp; (first | done | with_reducible rfl | rfl)
  try simp only [Act.put, List.setIfInBounds_toArray, List.set_cons_zero, List.set_cons_succ]
  refine takeH 6 11 (v := ?_) rfl rfl (by kernel_rfl) (by kernel_rfl) (by kernel_rfl) (fun _ _ _ h => h) (by rfl) (by assumption) ?_ ?_
  rotate_left
  · intro w hSw; go_simp; (first | done | with_reducible rfl | rfl)
  try simp only [Act.put, List.setIfInBounds_toArray, List.set_cons_zero, List.set_cons_succ]
  have hb2 := bd.trans (b30.mono bd.size)
  refine takeH 7 12 (v := ?_) rfl rfl (by kernel_rfl) (by kernel_rfl) (by kernel_rfl) (fun _ _ _ h => h) (by rfl) (by assumption) ?_ ?_
  rotate_left
  · intro w hSw; have s0 := cell_of_row _ _ 0 _ _ _ hSw; have s1 := cell_of_row _ _ 1 _ _ _ hSw; have s2 := cell_of_row _ _ 2 _ _ _ hSw; have s3 := cell_of_row _ _ 3 _ _ _ hSw; go_simp; (first | done | with_reducible rfl | rfl)
  try simp only [Act.put, List.setIfInBounds_toArray, List.set_cons_zero, List.set_cons_succ]
  refine takeH 8 13 (v := ?_) rfl rfl (by kernel_rfl) (by kernel_rfl) (by kernel_rfl) (fun _ _ _ h => h) (by rfl) (by assumption) ?_ ?_
  rotate_left
  · intro w hSw; have s0 := cell_of_row _ _ 0 _ _ _ hSw; have s1 := cell_of_row _ _ 1 _ _ _ hSw; have s2 := cell_of_row _ _ 2 _ _ _ hSw; have s3 := cell_of_row _ _ 3 _ _ _ hSw; go_simp; (first | done | with_reducible rfl | rfl)
  try simp only [Act.put, List.setIfInBounds_toArray, List.set_cons_zero, List.set_cons_succ]
  refine takeH 10 15 (v := ?_) rfl rfl (by kernel_rfl) (by kernel_rfl) (by kernel_rfl) (fun _ _ _ h => h) (by rfl) (by assumption) ?_ ?_
  rotate_left
  · intro w hSw; have s0 := cell_of_row _ _ 0 _ _ _ hSw; have s1 := cell_of_row _ _ 1 _ _ _ hSw; have s2 := cell_of_row _ _ 2 _ _ _ hSw; have s3 := cell_of_row _ _ 3 _ _ _ hSw; go_simp; (first | done | with_reducible rfl | rfl)
  try simp only [Act.put, List.setIfInBounds_toArray, List.set_cons_zero, List.set_cons_succ]
  refine takeH 11 16 (v := ?_) rfl rfl (by kernel_rfl) (by kernel_rfl) (by kernel_rfl) (fun _ _ _ h => h) (by rfl) (by assumption) ?_ ?_
  rotate_left
  · intro w hSw; have s0 := cell_of_row _ _ 0 _ _ _ hSw; have s1 := cell_of_row _ _ 1 _ _ _ hSw; have s2 := cell_of_row _ _ 2 _ _ _ hSw; have s3 := cell_of_row _ _ 3 _ _ _ hSw; go_simp; (first | done | with_reducible rfl | rfl)
  try simp only [Act.put, List.setIfInBounds_toArray, List.set_cons_zero, List.set_cons_succ]
  refine takeH 12 17 (v := ?_) rfl rfl (by kernel_rfl) (by kernel_rfl) (by kernel_rfl) (fun _ _ _ h => h) (by rfl) (by assumption) ?_ ?_
  rotate_left
  · intro w hSw; have s0 := cell_of_row _ _ 0 _ _ _ hSw; have s1 := cell_of_row _ _ 1 _ _ _ hSw; have s2 := cell_of_row _ _ 2 _ _ _ hSw; have s3 := cell_of_row _ _ 3 _ _ _ hSw; go_simp; (first | done | with_reducible rfl | rfl)
  try simp only [Act.put, List.setIfInBounds_toArray, List.set_cons_zero, List.set_cons_succ]
  refine wpAnyH_ready (rs := [9]) (by kernel_rfl) (by simp) ?_
  refine AllReadyH.cons rfl (fun K hK => ?_) AllReadyH.nil
  go_simp
  refine (HN.out _ hb2).mono ?_
  rintro e w3 ⟨rfl, b31⟩
  refine hK.out _ _ ((b31.block _ (Array.getElem?_eq_some_iff.1 hHeld).1).trans hHeld) (fun hHeld => ?_)
  clear hK K
  try simp only [Act.put, List.setIfInBounds_toArray, List.set_cons_zero, List.set_cons_succ]
  refine takeH 13 18 (v := ?_) rfl rfl (by kernel_rfl) (by kernel_rfl) (by kernel_rfl) (fun _ _ _ h => h) (by rfl) (by assumption) ?_ ?_
  rotate_left
  · intro w hSw; have s0 := cell_of_row _ _ 0 _ _ _ hSw; have s1 := cell_of_row _ _ 1 _ _ _ hSw; have s2 := cell_of_row _ _ 2 _ _ _ hSw; have s3 := cell_of_row _ _ 3 _ _ _ hSw; go_simp; (first | done | with_reducible rfl | rfl)
  try simp only [Act.put, List.setIfInBounds_toArray, List.set_cons_zero, List.set_cons_succ]
  refine takeH 14 19 (v := ?_) rfl rfl (by kernel_rfl) (by kernel_rfl) (by kernel_rfl) (fun _ _ _ h => h) (by rfl) (by assumption) ?_ ?_
  rotate_left
  · intro w hSw; go_simp; (first | done | with_reducible rfl | rfl)
  try simp only [Act.put, List.setIfInBounds_toArray, List.set_cons_zero, List.set_cons_succ]
  refine takeH 15 4 (v := ?_) rfl rfl (by kernel_rfl) (by kernel_rfl) (by kernel_rfl) (fun _ _ _ h => h) (by rfl) (by assumption) ?_ ?_
  rotate_left
  · intro w hSw; go_simp; (first | done | with_reducible rfl | rfl)
  try simp only [Act.put, List.setIfInBounds_toArray, List.set_cons_zero, List.set_cons_succ]
  refine wpAnyH_done (by kernel_rfl) ?_ _
  refine NoPanic.normal ?_
  clear hHeld
  have hbx := hb2.trans (b31.mono hb2.size)
  go_wp2
  go_ret
  exact ⟨ret_bool HF.out.symm, hbx⟩

end Go.Proofs.Ythbojipdhgidlaa

/- Dividing arguments: the model, and what the program does. No program. -/
namespace Go.Proofs.Ythbojipdhgidlaa
open Go.RowKit

def isOpen (t : Tok) : Bool := t.text.toList == [40]
def isShut (t : Tok) : Bool := t.text.toList == [41]
def isCom (t : Tok) : Bool := t.text.toList == [44]
/-- By how much more the tokens behind are enclosed. -/
def opn (t : Tok) : Int := if isOpen t = true then 1 else if isShut t = true then -1 else 0
abbrev Args := List (List Tok)
/-- The model's way: depth, arguments done, argument under way, place. -/
def spGo : List Tok → Int → Args → List Tok → Nat → Args × Nat × Bool
  | [], _, args, _, _ => (args, 0, false)
  | t :: r, d, args, arg, k =>
    if d + opn t = 0 then (args ++ [arg], k + 1, true)
    else if d + opn t = 1 ∧ isCom t = true then spGo r (d + opn t) (args ++ [arg]) [] (k + 1)
    else spGo r (d + opn t) args (arg ++ [t]) (k + 1)
/-- The program's: first the closing place, ... -/
def clGo : List Tok → Int → Nat → Option Nat
  | [], _, _ => none
  | t :: r, d, k => if d + opn t = 0 then some k else clGo r (d + opn t) (k + 1)
/-- ... then the arguments before it. -/
def dvGo : List Tok → Int → Args → List Tok → Args
  | [], _, args, arg => args ++ [arg]
  | t :: r, d, args, arg => if d = 0 ∧ isCom t = true then dvGo r d (args ++ [arg]) [] else dvGo r (d + opn t) args (arg ++ [t])
theorem opn_com {t : Tok} (h : isCom t = true) : opn t = 0 := by
  have e : t.text = ⟨#[44]⟩ := txt_eq h
  have h1 : isOpen t = false := by unfold isOpen; rw [e, txt_dec]; decide
  have h2 : isShut t = false := by unfold isShut; rw [e, txt_dec]; decide
  unfold opn
  rw [h1, h2]; rfl
theorem clGo_ge : ∀ (l : List Tok) (d : Int) (k e : Nat), clGo l d k = some e → k ≤ e ∧ e < k + l.length
  | [], _, _, _, h => by simp [clGo] at h
  | t :: r, d, k, e, h => by
    unfold clGo at h
    split at h
    · simp only [Option.some.injEq] at h; subst h; simp
    · have := clGo_ge r _ _ _ h
      simp only [List.length_cons]
      omega
/-- The two ways agree. -/
theorem sp_dv : ∀ (l : List Tok) (d : Int) (args : Args) (arg : List Tok) (k : Nat),
    match clGo l (d + 1) k with
    | none => (spGo l (d + 1) args arg k).2 = (0, false)
    | some e => spGo l (d + 1) args arg k = (dvGo (l.take (e - k)) d args arg, e + 1, true)
  | [], d, args, arg, k => by simp [clGo, spGo]
  | t :: r, d, args, arg, k => by
    unfold clGo spGo
    by_cases h0 : d + 1 + opn t = 0
    · rw [if_pos h0, if_pos h0]
      simp [dvGo]
    · rw [if_neg h0, if_neg h0]
      by_cases hc : isCom t = true
      · have ho := opn_com hc
        have e1 : d + 1 + opn t = d + 1 := by omega
        rw [e1]
        by_cases hd : d = 0
        · rw [if_pos ⟨by omega, hc⟩]
          have ih := sp_dv r d (args ++ [arg]) [] (k + 1)
          split at ih
          · exact ih
          · rename_i e h
            have hg := clGo_ge r _ _ _ h
            show spGo _ _ _ _ _ = _
            rw [ih, show e - k = (e - (k + 1)) + 1 by omega, List.take_succ_cons, dvGo, if_pos ⟨hd, hc⟩]
        · rw [if_neg (fun h => hd (by omega))]
          have ih := sp_dv r d args (arg ++ [t]) (k + 1)
          split at ih
          · exact ih
          · rename_i e h
            have hg := clGo_ge r _ _ _ h
            show spGo _ _ _ _ _ = _
            rw [ih, show e - k = (e - (k + 1)) + 1 by omega, List.take_succ_cons, dvGo, if_neg (fun h => hd h.1), ho, Int.add_zero]
      · have e1 : d + 1 + opn t = d + opn t + 1 := by omega
        rw [e1, if_neg (fun h => hc h.2)]
        have ih := sp_dv r (d + opn t) args (arg ++ [t]) (k + 1)
        split at ih
        · exact ih
        · rename_i e h
          have hg := clGo_ge r _ _ _ h
          show spGo _ _ _ _ _ = _
          rw [ih, show e - k = (e - (k + 1)) + 1 by omega, List.take_succ_cons, dvGo, if_neg (fun h => hc h.2)]

/-- What SplitArguments answers. -/
def splitA (l : List Tok) (at_ : Int) : Args × Int × Bool :=
  if toksOk l = true then
    (if h : 0 ≤ at_ ∧ at_ < l.length then
      (if isOpen (l[at_.toNat]'(by omega)) = true then
        (match spGo (l.drop (at_.toNat + 1)) 1 [] [] (at_.toNat + 1) with
         | (a, e, true) => (a, (e : Int), true)
         | (_, _, false) => ([], 0, false))
       else ([], 0, false))
     else ([], 0, false))
  else ([], 0, false)
theorem splitA_bad {l : List Tok} {a : Int} (h : toksOk l = false) : splitA l a = ([], 0, false) := by unfold splitA; rw [h]; rfl
theorem splitA_out {l : List Tok} {a : Int} (h : ¬ (0 ≤ a ∧ a < l.length)) : splitA l a = ([], 0, false) := by
  unfold splitA
  by_cases ht : toksOk l = true
  · rw [if_pos ht, dif_neg h]
  · rw [if_neg ht]
theorem splitA_no {l : List Tok} {n : Nat} (hn : n < l.length) (h : isOpen l[n] = false) : splitA l n = ([], 0, false) := by
  unfold splitA
  split
  · rw [dif_pos ⟨by omega, by omega⟩]
    have : isOpen (l[((n : Nat) : Int).toNat]'(by simpa using hn)) = false := h
    rw [this]; rfl
  · rfl
theorem splitA_go {l : List Tok} {n : Nat} (hl : toksOk l = true) (hn : n < l.length) (h : isOpen l[n] = true) :
    splitA l n = match spGo (l.drop (n + 1)) 1 [] [] (n + 1) with
      | (a, e, true) => (a, (e : Int), true)
      | (_, _, false) => ([], 0, false) := by
  unfold splitA
  rw [if_pos hl, dif_pos ⟨by omega, by omega⟩]
  have : isOpen (l[((n : Nat) : Int).toNat]'(by simpa using hn)) = true := h
  rw [if_pos this]
  rfl
theorem splitA_none {l : List Tok} {n : Nat} (hl : toksOk l = true) (hn : n < l.length) (h : isOpen l[n] = true) (hc : clGo (l.drop (n + 1)) 1 (n + 1) = none) : splitA l n = ([], 0, false) := by
  rw [splitA_go hl hn h]
  have := sp_dv (l.drop (n + 1)) 0 [] [] (n + 1)
  rw [show (0 : Int) + 1 = 1 from rfl, hc] at this
  generalize spGo (l.drop (n + 1)) 1 [] [] (n + 1) = r at this
  obtain ⟨a, b, c⟩ := r
  obtain ⟨rfl, rfl⟩ : b = 0 ∧ c = false := by simpa using this
  rfl
theorem splitA_some {l : List Tok} {n e : Nat} (hl : toksOk l = true) (hn : n < l.length) (h : isOpen l[n] = true) (hc : clGo (l.drop (n + 1)) 1 (n + 1) = some e) : splitA l n = (dvGo ((l.drop (n + 1)).take (e - (n + 1))) 0 [] [], ((e + 1 : Nat) : Int), true) := by
  rw [splitA_go hl hn h]
  have := sp_dv (l.drop (n + 1)) 0 [] [] (n + 1)
  rw [show (0 : Int) + 1 = 1 from rfl, hc] at this
  rw [this]
/-- Brackets and commas of valid tokens are marks. -/
theorem kind_of_open {t : Tok} (h : tokOk t = true) (e : isOpen t = true) : t.kind = 4 := kind_head (c := 40) (l := []) h (txt_eq e)
theorem kind_of_shut {t : Tok} (h : tokOk t = true) (e : isShut t = true) : t.kind = 4 := kind_head (c := 41) (l := []) h (txt_eq e)
theorem kind_of_com {t : Tok} (h : tokOk t = true) (e : isCom t = true) : t.kind = 4 := kind_head (c := 44) (l := []) h (txt_eq e)
theorem opn_open {t : Tok} (h : isOpen t = true) : opn t = 1 := by unfold opn; rw [h]; rfl
theorem opn_shut {t : Tok} (h : isOpen t = false) (h2 : isShut t = true) : opn t = -1 := by unfold opn; rw [h, h2]; rfl
theorem opn_else {t : Tok} (h : isOpen t = false) (h2 : isShut t = false) : opn t = 0 := by unfold opn; rw [h, h2]; rfl
theorem open_not_shut {t : Tok} (h : isOpen t = true) : isShut t = false := by
  have e : t.text = ⟨#[40]⟩ := txt_eq h
  unfold isShut; rw [e, txt_dec]; decide
theorem opn_ge (t : Tok) : -1 ≤ opn t ∧ opn t ≤ 1 := by unfold opn; split <;> (try split) <;> omega

end Go.Proofs.Ythbojipdhgidlaa

/- Rows of the call's own whose elements may read memory of others, too: the elements' blocks lie before the row's. Over any program. -/
namespace Go.Proofs.Ythbojipdhgidlaa
open Go.RowKit

structure RowG {α : Type} (S : Shape α) (base : Nat) (e : TypeId) (v : Value) (L : List (Elem α)) (w : World) : Prop where
  row : w.ownsRow base e S.m v L.length (L.flatMap (·.cells))
  len : ∀ x ∈ L, x.cells.length = S.m
  el : ∀ x ∈ L, S.R w x.cells x.d x.fp
  hi : ∀ x ∈ L, ∀ b ∈ x.fp, b < base

section
variable {α : Type} {S : Shape α} {base : Nat} {e : TypeId} {v v' : Value} {L : List (Elem α)} {w w' : World}
theorem RowG.nil (S : Shape α) (base : Nat) (e : TypeId) (w : World) : RowG S base e (.slice none 0 0) [] w := ⟨World.ownsRow_nil _ _ _ _, by simp, by simp, by simp⟩
theorem RowG.ap (h : RowG S base e v L w) : ∀ x ∈ L, ∀ b ∈ x.fp, v.ownBlock ≠ some b := fun x hx b hb hv => by
  have h1 := h.hi x hx b hb
  have h2 := (h.row.lt b hv).1
  omega
/-- An empty literal's row. -/
theorem RowG.lit0 (S : Shape α) (e : TypeId) (w : World) : RowG S w.heap.size e (.slice (some ⟨w.heap.size, 0, none⟩) 0 0) [] (w.alloc (.cells #[] e)) where
  row := World.ownsRow_lit (base := w.heap.size) (e := e) (size := S.m) w #[] 0 (Nat.le_refl _) (by unfold maxLen; omega) (by simp)
  len := by simp
  el := by simp
  hi := by simp
theorem RowG.same (h : RowG S base e v L w) (hv : ∀ g, v.ownBlock = some g → w'.heap[g]? = w.heap[g]?) (hb : ∀ x ∈ L, ∀ b ∈ x.fp, w'.heap[b]? = w.heap[b]?) : RowG S base e v L w' where
  row := ownsRow_same h.row hv
  len := h.len
  el := fun x hx => S.frame (fun b hb' => hb x hx b hb') (h.el x hx)
  hi := h.hi
theorem RowG.below (h : RowG S base e v L w) (hb : Below w.heap.size w w') : RowG S base e v L w' :=
  h.same (fun g hg => hb.block g (h.row.lt g hg).2) (fun x hx b hb' => hb.block b (S.lt (h.el x hx) b hb'))
theorem RowG.kept {K : List Nat} (h : RowG S base e v L w) (hk : Kept K w w') (hv : ∀ g, v.ownBlock = some g → g ∉ K) (hb : ∀ x ∈ L, ∀ b ∈ x.fp, b ∉ K) : RowG S base e v L w' :=
  h.same (fun g hg => hk.block g (h.row.lt g hg).2 (hv g hg)) (fun x hx b hb' => hk.block b (S.lt (h.el x hx) b hb') (hb x hx b hb'))
theorem RowG.val (h : RowG S base e v L w) : ∃ a cap, v = .slice a L.length cap ∧ L.length ≤ cap ∧ cap ≤ maxLen ∧ (0 < L.length → ∃ g, a = some ⟨g, 0, none⟩ ∧ base ≤ g ∧ g < w.heap.size) := by
  rcases h.row.2 with ⟨rfl, h0⟩ | ⟨g, cap, cur, rfl, hb, hg, hn, hc, _⟩
  · exact ⟨none, 0, by rw [h0], by omega, by simp, fun h => by omega⟩
  · exact ⟨_, cap, rfl, hn, hc, fun _ => ⟨g, rfl, hb, (Array.getElem?_eq_some_iff.1 hg).1⟩⟩
theorem RowG.mine (h : RowG S base e v L w) : ∀ b, v.ownBlock = some b → base ≤ b := fun b hb => (h.row.lt b hb).1
theorem RowG.read (h : RowG S base e v L w) : ∃ fp, (sSlice S).R w [v] (L.map (·.d)) fp ∧ (∀ b ∈ fp, v.ownBlock = some b ∨ ∃ x ∈ L, b ∈ x.fp) ∧ (Own w base (L.flatMap (·.fp)) → Own w base fp) := by
  obtain ⟨fp, h1, h2, h3⟩ := slice_of_row h.row fun x hx => ⟨h.len x hx, h.el x hx⟩
  refine ⟨fp, h1, fun b hb => ?_, fun ho => h3 ho fun g hg hm => ?_⟩
  · rcases h2 b hb with h | h
    · exact .inl h
    · obtain ⟨x, hx, hb'⟩ := List.mem_flatMap.1 h
      exact .inr ⟨x, hx, hb'⟩
  · obtain ⟨x, hx, hb'⟩ := List.mem_flatMap.1 hm
    exact h.ap x hx g hb' hg
theorem RowG.len_eq {g n cap : Nat} (h : RowG S base e (.slice (some ⟨g, 0, none⟩) n cap) L w) : L.length = n := by
  rcases h.row.2 with ⟨h', _⟩ | ⟨g', cap', cur, h', _⟩
  · cases h'
  · simp only [Value.slice.injEq] at h'; exact h'.2.1.symm
theorem RowG.frozen {g n cap : Nat} (h : RowG S base e (.slice (some ⟨g, 0, none⟩) n cap) L w) (o : Nat) : w.frozen? ⟨g, o, none⟩ = false := by
  rcases h.row.2 with ⟨h', _⟩ | ⟨g', cap', cur, h', _, hg, _⟩
  · cases h'
  · simp only [Value.slice.injEq, Option.some.injEq, Addr.mk.injEq, and_true] at h'
    obtain ⟨rfl, _⟩ := h'
    exact frozen_of_row w g o cur e hg
/-- An element's cells. -/
theorem RowG.cellAt {g n cap : Nat} (h : RowG S base e (.slice (some ⟨g, 0, none⟩) n cap) L w) {k : Nat} (hk : k < L.length) {j : Nat} (hj : j < S.m) {u : Value} (hu : L[k].cells[j]? = some u) : w.cell? ⟨g, k * S.m + j, none⟩ = some u := by
  have hn : L.length = n := h.len_eq
  subst hn
  rw [h.row.cellAt (k * S.m + j) (by have : (k + 1) * S.m ≤ L.length * S.m := Nat.mul_le_mul_right _ hk; rw [Nat.succ_mul] at this; omega)]
  exact (flatMap_at (f := Elem.cells) h.len hk hj).trans hu
/-- A store into an element. -/
theorem RowG.set {g n cap : Nat} (h : RowG S base e (.slice (some ⟨g, 0, none⟩) n cap) L w) {k : Nat} (hk : k < L.length) {j : Nat} (hj : j < S.m) (u : Value) (x' : Elem α) (hx : x'.cells = L[k].cells.set j u)
    (hR : S.R w x'.cells x'.d x'.fp) (hn : ∀ b ∈ x'.fp, b < base) :
    RowG S base e (.slice (some ⟨g, 0, none⟩) n cap) (L.set k x') (w.setCell ⟨g, k * S.m + j, none⟩ u) := by
  have hblk : ∀ b : Nat, b ≠ g → (w.setCell ⟨g, k * S.m + j, none⟩ u).heap[b]? = w.heap[b]? := fun b hb => Below.heap_setCell _ _ _ _ hb
  have hmem : ∀ x ∈ L.set k x', x = x' ∨ x ∈ L := fun x hx => by
    rcases List.mem_or_eq_of_mem_set hx with h | h
    · exact .inr h
    · exact .inl h
  have hne : ∀ x ∈ L, ∀ b ∈ x.fp, b ≠ g := fun x hx b hb e => h.ap x hx b hb (by rw [e]; rfl)
  refine ⟨?_, fun x hx' => ?_, fun x hx' => ?_, fun x hx' => ?_⟩
  · have hn := h.len_eq
    have hrow := h.row
    rw [hn] at hrow
    have := (hrow.stored (k * S.m + j) u).1
    rw [flatMap_set h.len hk hj u x' hx] at this
    rw [List.length_set, hn]
    exact this
  · rcases hmem x hx' with rfl | hx'
    · rw [hx, List.length_set]; exact h.len _ (List.getElem_mem hk)
    · exact h.len x hx'
  · rcases hmem x hx' with rfl | hx'
    · exact S.frame (fun b hb => hblk b (fun e => by have h1 := hn b hb; have h2 := (h.row.lt g rfl).1; omega)) hR
    · exact S.frame (fun b hb => hblk b (hne x hx' b hb)) (h.el x hx')
  · rcases hmem x hx' with rfl | hx'
    · exact hn
    · exact h.hi x hx'
/-- Elements appended. -/
theorem RowG.appended (h : RowG S base e v L w) {X : List (Elem α)} (hrow : w'.ownsRow base e S.m v' (L ++ X).length ((L ++ X).flatMap (·.cells))) (hg : w.grownBy w' v.ownBlock)
    (hX : ∀ x ∈ X, x.cells.length = S.m ∧ S.R w x.cells x.d x.fp ∧ ∀ b ∈ x.fp, b < base) :
    RowG S base e v' (L ++ X) w' := by
  have hall : ∀ x ∈ L ++ X, x.cells.length = S.m ∧ S.R w x.cells x.d x.fp ∧ ∀ b ∈ x.fp, b < base := fun x hx => by
    rcases List.mem_append.1 hx with hx | hx
    · exact ⟨h.len x hx, h.el x hx, h.hi x hx⟩
    · exact hX x hx
  refine ⟨hrow, fun x hx => (hall x hx).1, fun x hx => ?_, fun x hx => (hall x hx).2.2⟩
  refine S.frame (fun b hb => hg.block b (S.lt (hall x hx).2.1 b hb) fun hv => ?_) (hall x hx).2.1
  have h1 := (hall x hx).2.2 b hb
  have h2 := (h.row.lt b hv.symm).1
  omega
end

/-- The elements of what can be read. -/
theorem elems_of {α : Type} {S : Shape α} {w : World} {u : Value} {M : List α} {fp : List Nat} (H : (sSlice S).R w [u] M fp) :
    ∃ (X : List (Elem α)) (a : Option Addr) (cap : Nat), X.map (·.d) = M ∧ X.length = M.length ∧ u = .slice a M.length cap ∧ M.length ≤ maxLen ∧ (∀ x ∈ X, x.cells.length = S.m ∧ S.R w x.cells x.d x.fp ∧ ∀ b ∈ x.fp, b ∈ fp) ∧
      (0 < M.length → ∃ b off, a = some ⟨b, off, none⟩ ∧ b < w.heap.size ∧ ∀ k, (hk : k < X.length) → ElemAt w b off S.m k X[k].cells) := by
  obtain ⟨a, cap, rfl, hc, hm, hrow⟩ := open_rows H
  by_cases h0 : 0 < M.length
  · obtain ⟨b, off, fps, rfl, hb, hfp, he⟩ := hrow h0
    have key : ∀ k : Fin M.length, ∃ x : Elem α, x.d = M[k.1] ∧ x.fp = fps k.1 ∧ ElemAt w b off S.m k.1 x.cells ∧ S.R w x.cells x.d x.fp := fun k => by
      obtain ⟨es, hE, hR⟩ := he k.1 k.2
      exact ⟨⟨es, M[k.1], fps k.1⟩, rfl, rfl, hE, hR⟩
    let X : List (Elem α) := List.ofFn fun k : Fin M.length => (key k).choose
    have hXl : X.length = M.length := by simp [X]
    have hX : ∀ k, (hk : k < X.length) → ∃ hk' : k < M.length, X[k] = (key ⟨k, hk'⟩).choose := fun k hk => ⟨by omega, by simp [X]⟩
    refine ⟨X, _, cap, ?_, hXl, rfl, by omega, fun x hx => ?_, fun _ => ⟨b, off, rfl, hb, fun k hk => ?_⟩⟩
    · apply List.ext_getElem
      · simp [hXl]
      · intro k h1 h2
        rw [List.getElem_map]
        obtain ⟨hk', e⟩ := hX k (by simpa using h1)
        rw [e]
        exact (key ⟨k, hk'⟩).choose_spec.1
    · obtain ⟨k, hk, rfl⟩ := List.getElem_of_mem hx
      obtain ⟨hk', e⟩ := hX k hk
      obtain ⟨s1, s2, s3, s4⟩ := (key ⟨k, hk'⟩).choose_spec
      rw [e]
      refine ⟨s3.1, s4, fun c hc => ?_⟩
      rw [s2] at hc
      rw [hfp]
      exact List.mem_cons_of_mem _ (List.mem_flatMap.2 ⟨k, List.mem_range.2 hk', hc⟩)
    · obtain ⟨hk', e⟩ := hX k hk
      rw [e]
      exact (key ⟨k, hk'⟩).choose_spec.2.2.1
  · have hM : M = [] := List.length_eq_zero_iff.1 (by omega)
    subst hM
    exact ⟨[], a, cap, rfl, rfl, rfl, by unfold maxLen; simp, by simp, fun h => absurd h (by simp)⟩

/-- append of elements that stand somewhere. -/
theorem wp_append_rowG {α : Type} {S : Shape α} {P : Program} {t e : TypeId} {z : Value} {bytes : Nat} (ti : TI P t e z S.m bytes) (hzs : z.cells.size = S.m) (h0 : 0 < S.m) (w : World) {L X : List (Elem α)} {ops : Array Oper} {rest : List Oper} {o : Oper} {a : Act} {Q : Exit → Act → World → Prop}
    (hg : o.guard = none) (s y : Operand) (ho : o.op = .call { callee := .builtin .append, args := #[s, y], argTypes := #[t, t] })
    (base : Nat) (v : Value) (hs : a.eval s = v) (hown : RowG S base e v L w) (g off m c : Nat) (hy : a.eval y = .slice (some ⟨g, off, none⟩) m c) (hm : X.length = m)
    (hX : ∀ x ∈ X, x.cells.length = S.m ∧ S.R w x.cells x.d x.fp ∧ ∀ b ∈ x.fp, b < base) (h1 : ∀ x ∈ X, ∀ u ∈ x.cells, u.oneCell' = true) (hcell : ∀ j u, (X.flatMap (·.cells))[j]? = some u → w.cell? ⟨g, off + j, none⟩ = some u)
    (h63 : L.length + m ≤ maxLen) (hbytes : (L.length + m) * bytes ≤ 140737488355328) (hbase : base ≤ w.heap.size)
    (h : ∀ v' w', RowG S base e v' (L ++ X) w' → w.grownBy w' v.ownBlock → wpList P ops Q rest (a.put o.dst v') w') : wpList P ops Q (o :: rest) a w := by
  obtain ⟨i, hi, hz0, hz1, hz2⟩ := info_parts ti.2
  subst hm
  refine wpList_append_own _ hg s y t ho base e i z S.m bytes ti.1 hi hz0 hz1 hz2 hzs h0 v L.length _ hs hown.row ⟨g, off, none⟩ X.length c (X.flatMap (·.cells)) hy (flatMap_len (f := Elem.cells) fun x hx => (hX x hx).1) ?_ ?_ h63 hbytes hbase fun v' w' r1 r2 _ => h v' w' ?_ r2
  · intro j u hj
    rw [Addr.add_lit]
    exact hcell j u hj
  · intro u hu
    obtain ⟨x, hx, hu⟩ := List.mem_flatMap.1 hu
    exact h1 x hx u hu
  · refine hown.appended ?_ r2 hX
    rw [List.length_append, List.flatMap_append]
    exact r1
theorem run_append_empty {P : Program} {w : World} (base : Nat) (t ty e : TypeId) (i : TypeInfo) (size c : Nat) (ht : P.underlying t = some (.slice e)) (hi : P.info? e = some i)
    (v : Value) (n : Nat) (xs : List Value) (hown : w.ownsRow base e size v n xs) : (Builtin.append_ #[t, t] ty #[v, .slice none 0 c]).run P w = .ok v w := by
  rcases hown.2 with ⟨rfl, rfl⟩ | ⟨g, cap, cur, rfl, _, _, hnc, _⟩
  · simp [Builtin.append_, run_underlying ht, sizeOf, typeInfo, hi, Builtin.lenOf, Builtin.firstCells]
  · simp [Builtin.append_, run_underlying ht, sizeOf, typeInfo, hi, Builtin.lenOf, Builtin.firstCells, hnc, storeCells]
/-- append(s, row...), the row any that can be read, of blocks before the own row's. -/
theorem wp_append_anyG {α : Type} {S : Shape α} {P : Program} {t e : TypeId} {z : Value} {bytes : Nat} (ti : TI P t e z S.m bytes) (hzs : z.cells.size = S.m) (h0 : 0 < S.m) (hone : ∀ w cs x fp, S.R w cs x fp → ∀ u ∈ cs, u.oneCell' = true) (w : World) {L : List (Elem α)} {ops : Array Oper} {rest : List Oper} {o : Oper} {a : Act} {Q : Exit → Act → World → Prop}
    (hg : o.guard = none) (s y : Operand) (ho : o.op = .call { callee := .builtin .append, args := #[s, y], argTypes := #[t, t] })
    (base : Nat) (v u : Value) (M : List α) (fp : List Nat) (hs : a.eval s = v) (hown : RowG S base e v L w) (hy : a.eval y = u) (HM : (sSlice S).R w [u] M fp) (hfp : ∀ b ∈ fp, b < base)
    (h63 : L.length + M.length ≤ maxLen) (hbytes : (L.length + M.length) * bytes ≤ 140737488355328) (hbase : base ≤ w.heap.size)
    (h : ∀ v' X w', X.map (·.d) = M → (∀ x ∈ X, ∀ b ∈ x.fp, b ∈ fp) → RowG S base e v' (L ++ X) w' → w.grownBy w' v.ownBlock → wpList P ops Q rest (a.put o.dst v') w') : wpList P ops Q (o :: rest) a w := by
  obtain ⟨X, ad, cap, hXM, hXl, rfl, hmm, hX, hat⟩ := elems_of HM
  rw [← hXl] at h63 hbytes
  by_cases hM : 0 < M.length
  · obtain ⟨b, off, rfl, hb, hE⟩ := hat hM
    refine wp_append_rowG ti hzs h0 w (X := X) hg s y ho base v hs hown b off M.length cap hy hXl (fun x hx => ⟨(hX x hx).1, (hX x hx).2.1, fun c hc => hfp c ((hX x hx).2.2 c hc)⟩) (fun x hx => hone _ _ _ _ (hX x hx).2.1) ?_ (by rw [← hXl]; exact h63) (by rw [← hXl]; exact hbytes) hbase fun v' w' r1 r2 => h v' X w' hXM (fun x hx => (hX x hx).2.2) r1 r2
    intro j u hj
    have hjl : j < X.length * S.m := by
      have := (List.getElem?_eq_some_iff.1 hj).1
      rwa [flatMap_len (f := Elem.cells) fun x hx => (hX x hx).1] at this
    have hk : j / S.m < X.length := Nat.div_lt_of_lt_mul (by rw [Nat.mul_comm]; exact hjl)
    have hr : j % S.m < S.m := Nat.mod_lt _ h0
    have hj2 : j / S.m * S.m + j % S.m = j := Nat.div_add_mod' _ _
    rw [← hj2, flatMap_at (f := Elem.cells) (fun x hx => (hX x hx).1) hk hr] at hj
    have := (hE (j / S.m) hk).2 (j % S.m) hr
    rw [Nat.add_assoc, hj2] at this
    rw [this]
    exact hj
  · have hX0 : X = [] := List.length_eq_zero_iff.1 (by omega)
    have hM0 : M.length = 0 := by omega
    subst hX0
    obtain ⟨i, hi, hz0, hz1, hz2⟩ := info_parts ti.2
    have hdone : wpList P ops Q rest (a.put o.dst v) w := h v [] w (by simpa using hXM) (by simp) (by simpa using hown) ⟨rfl, rfl, rfl, Nat.le_refl _, fun _ _ _ => rfl⟩
    rw [hM0] at hy
    cases ad with
    | none =>
      have hrun := run_append_empty (P := P) (w := w) base _ o.type _ i S.m cap ti.1 hi v L.length _ hown.row
      refine wpList_plain hg fun K hK' => ?_
      unfold Oper.wp
      simp [execOp, ho, resolve, invoke, builtin, hs, hy, hrun, Result.andThen]
      exact hK' _ _ hdone
    | some ad =>
      refine wpList_append_own _ hg s y t ho base e i z S.m bytes ti.1 hi hz0 hz1 hz2 hzs h0 v L.length _ hs hown.row ad 0 cap [] hy (by simp) (by simp) (by simp) (by omega) (by simpa using hbytes) hbase fun v' w' r1 r2 _ => h v' [] w' (by simpa using hXM) (by simp) ?_ r2
      exact hown.appended (X := []) (by have h1' := r1; simp only [Nat.add_zero, List.append_nil] at h1' ⊢; exact h1') r2 (by simp)

end Go.Proofs.Ythbojipdhgidlaa

/- SplitArguments (spec). (Made by gen_spls.py.) -/
namespace Go.Proofs.Ythbojipdhgidlaa
open Go.RowKit

theorem is_open {t : Tok} (h : tokOk t = true) : (decide (t.kind = 4) && (t.text.toList == [40])) = isOpen t := by
  show _ = (t.text.toList == [40])
  cases e : (t.text.toList == [40])
  · rw [Bool.and_false]
  · rw [decide_eq_true (kind_of_open h e)]; rfl
theorem is_shut {t : Tok} (h : tokOk t = true) : (decide (t.kind = 4) && (t.text.toList == [41])) = isShut t := by
  show _ = (t.text.toList == [41])
  cases e : (t.text.toList == [41])
  · rw [Bool.and_false]
  · rw [decide_eq_true (kind_of_shut h e)]; rfl
theorem is_com {t : Tok} (h : tokOk t = true) : (decide (t.kind = 4) && (t.text.toList == [44])) = isCom t := by
  show _ = (t.text.toList == [44])
  cases e : (t.text.toList == [44])
  · rw [Bool.and_false]
  · rw [decide_eq_true (kind_of_com h e)]; rfl

set_option maxHeartbeats 2000000 in
theorem spec_l7Is (cs : List Value) (x : Tok) (fp : List Nat) (w : World) (c : UInt8) (H : sTok.R w cs x fp) :
    Calls Try.prog 46 #[.agg cs.toArray, .string ⟨#[c]⟩] w (Says (decide (x.kind = 4) && (x.text.toList == [c])) w) := by
  obtain ⟨h, rfl, hk, hok, K⟩ := H
  obtain ⟨a0, cap0, rfl, -⟩ := open_strs K
  have hb := alloc_below' w (.cells #[.int .i64 x.kind, .string x.text, .bool x.spaced, .slice a0 x.hidden.length cap0] 56)
  clear K
  go_enter Try.func46, Try.ntmps46
  by_cases h4 : x.kind = 4
  · have e0 : (x.kind == 4) = true := by simp [h4]
    have HF : Hid ((decide (x.kind = 4) && (x.text.toList == [c])) = (x.text.toList == [c])) := by show _ = _; rw [decide_eq_true h4]; rfl
    clear h4
    go_wp2
    go_ret
    exact ⟨ret_bool (by rw [HF.out]), hb⟩
  · have e0 : (x.kind == 4) = false := by simpa using h4
    have HF : Hid ((decide (x.kind = 4) && (x.text.toList == [c])) = false) := by show _ = _; rw [decide_eq_false h4]; rfl
    clear h4
    go_wp2
    go_ret
    exact ⟨ret_bool (by rw [HF.out]), hb⟩

/-- append of one token out of its literal's own block, behind tokens that are older than the row. -/
theorem wp_append_tokG {w : World} {ops : Array Oper} {rest : List Oper} {o : Oper} {a : Act} {Q : Exit → Act → World → Prop} (hg : o.guard = none) (s y : Operand)
    (ho : o.op = .call { callee := .builtin .append, args := #[s, y], argTypes := #[30, 30] })
    (base : Nat) (v : Value) (L : List (Elem Tok)) (hs : a.eval s = v) (hown : RowG sTok base 56 v L w) (k : Int) (x : ByteArray) (b : Bool) (ao : Option Addr) (m c : Nat) (d : Tok) (fp : List Nat)
    (hy : a.eval y = .slice (some ⟨w.heap.size, 0, none⟩) 1 1) (hR : sTok.R w [.int .i64 k, .string x, .bool b, .slice ao m c] d fp) (hhi : ∀ b ∈ fp, b < base)
    (h63 : L.length ≤ 1500000) (hbase : base ≤ w.heap.size)
    (h : ∀ v' w', RowG sTok base 56 v' (L ++ [⟨[.int .i64 k, .string x, .bool b, .slice ao m c], d, fp⟩]) w' → w.grownBy w' v.ownBlock → wpList Try.prog ops Q rest (a.put o.dst v') w') :
    wpList Try.prog ops Q (o :: rest) a (w.alloc (.cells #[.int .i64 k, .string x, .bool b, .slice ao m c] 56)) := by
  have hb := alloc_below' w (.cells #[.int .i64 k, .string x, .bool b, .slice ao m c] 56)
  refine wp_append_rowG (S := sTok) ti_tok rfl (by decide) _ (X := [⟨[.int .i64 k, .string x, .bool b, .slice ao m c], d, fp⟩]) hg s y ho base v hs (hown.below hb) w.heap.size 0 1 1 hy rfl ?_ ?_ ?_ (by unfold maxLen; omega) (by omega) (by simp; omega) fun v' w' a b => h v' w' a (grown_trans (World.grownBy_alloc _ _ _) b)
  · intro x hx; obtain rfl := List.mem_singleton.1 hx; exact ⟨rfl, sTok.below hR hb, hhi⟩
  · intro x hx; obtain rfl := List.mem_singleton.1 hx; simp [Value.oneCell']
  · intro j u hj
    rw [Nat.zero_add, World.cell?_alloc_at _ _ _ _ rfl]
    simpa using hj
/-- append of elements, of a row that lies from a second base on. -/
theorem wp_append_rowEB {α : Type} {S : Shape α} {P : Program} {t e : TypeId} {z : Value} {bytes : Nat} (ti : TI P t e z S.m bytes) (hzs : z.cells.size = S.m) (h0 : 0 < S.m) (w : World) {L X : List (Elem α)} {ops : Array Oper} {rest : List Oper} {o : Oper} {a : Act} {Q : Exit → Act → World → Prop}
    (hg : o.guard = none) (s y : Operand) (ho : o.op = .call { callee := .builtin .append, args := #[s, y], argTypes := #[t, t] })
    (base top : Nat) (v : Value) (hs : a.eval s = v) (hown : RowE S base e v L w) (g m c : Nat) (hy : a.eval y = .slice (some ⟨g, 0, none⟩) m c) (hm : X.length = m)
    (hlen : ∀ x ∈ X, x.cells.length = S.m) (h1 : ∀ x ∈ X, ∀ u ∈ x.cells, u.oneCell' = true) (hcell : ∀ j u, (X.flatMap (·.cells))[j]? = some u → w.cell? ⟨g, j, none⟩ = some u)
    (hR : ∀ x ∈ X, S.R w x.cells x.d x.fp) (hlo : ∀ x ∈ X, ∀ b ∈ x.fp, base ≤ b) (hty : ∀ x ∈ X, ∀ b ∈ x.fp, ∃ cur t fr, w.heap[b]? = some (.cells cur t fr) ∧ t ≠ e)
    (h63 : L.length + m ≤ maxLen) (hbytes : (L.length + m) * bytes ≤ 140737488355328) (hbase : base ≤ top) (htop : top ≤ w.heap.size) (hv : ∀ b, v.ownBlock = some b → top ≤ b)
    (h : ∀ v' w', RowE S base e v' (L ++ X) w' → w.grownBy w' v.ownBlock → (∀ b, v'.ownBlock = some b → top ≤ b) → wpList P ops Q rest (a.put o.dst v') w') : wpList P ops Q (o :: rest) a w := by
  obtain ⟨i, hi, hz0, hz1, hz2⟩ := info_parts ti.2
  subst hm
  have hrow2 : w.ownsRow top e S.m v L.length (L.flatMap (·.cells)) := ⟨hown.row.1, by
    rcases hown.row.2 with h0 | ⟨g, cap, cur, h1, h2, h3⟩
    · exact .inl h0
    · exact .inr ⟨g, cap, cur, h1, hv g (by rw [h1]; rfl), h3⟩⟩
  refine wpList_append_own _ hg s y t ho top e i z S.m bytes ti.1 hi hz0 hz1 hz2 hzs h0 v L.length _ hs hrow2 ⟨g, 0, none⟩ X.length c (X.flatMap (·.cells)) hy (flatMap_len hlen) ?_ ?_ h63 hbytes htop fun v' w' a b _ => h v' w' ?_ b (fun g hg => (a.lt g hg).1)
  · intro j u hj
    rw [addr_add, Nat.zero_add]
    exact hcell j u hj
  · intro u hu
    obtain ⟨x, hx, hu⟩ := List.mem_flatMap.1 hu
    exact h1 x hx u hu
  · refine hown.appended ?_ b hlen hR hlo hty
    rw [List.length_append, List.flatMap_append]
    refine ⟨a.1, ?_⟩
    rcases a.2 with h0 | ⟨g, cap, cur, h1, h2, h3⟩
    · exact .inl h0
    · exact .inr ⟨g, cap, cur, h1, Nat.le_trans hbase h2, h3⟩
/-- append of one list of tokens out of its literal's own block. -/
theorem wp_append_toksE {w : World} {ops : Array Oper} {rest : List Oper} {o : Oper} {a : Act} {Q : Exit → Act → World → Prop} (hg : o.guard = none) (s y : Operand)
    (ho : o.op = .call { callee := .builtin .append, args := #[s, y], argTypes := #[34, 34] })
    (base top : Nat) (v : Value) (L : List (Elem (List Tok))) (hs : a.eval s = v) (hown : RowE sToks base 30 v L w) (ao : Option Addr) (m c : Nat) (d : List Tok) (fp : List Nat)
    (hy : a.eval y = .slice (some ⟨w.heap.size, 0, none⟩) 1 1) (hR : sToks.R w [.slice ao m c] d fp) (hlo : ∀ b ∈ fp, base ≤ b) (hty : ∀ b ∈ fp, ∃ cur t fr, w.heap[b]? = some (.cells cur t fr) ∧ t ≠ 30)
    (h63 : L.length ≤ 1500000) (hbase : base ≤ top) (htop : top ≤ w.heap.size) (hv : ∀ b, v.ownBlock = some b → top ≤ b)
    (h : ∀ v' w', RowE sToks base 30 v' (L ++ [⟨[.slice ao m c], d, fp⟩]) w' → w.grownBy w' v.ownBlock → (∀ b, v'.ownBlock = some b → top ≤ b) → wpList Try.prog ops Q rest (a.put o.dst v') w') :
    wpList Try.prog ops Q (o :: rest) a (w.alloc (.cells #[.slice ao m c] 30)) := by
  have hb := alloc_below' w (.cells #[.slice ao m c] 30)
  refine wp_append_rowEB (S := sToks) ti_toks rfl (by decide) _ (X := [⟨[.slice ao m c], d, fp⟩]) hg s y ho base top v hs (hown.below hb) w.heap.size 1 1 hy rfl ?_ ?_ ?_ ?_ ?_ ?_ (by unfold maxLen; omega) (by omega) hbase (by simp; omega) hv fun v' w' a b c => h v' w' a (grown_trans (World.grownBy_alloc _ _ _) b) c
  · intro x hx; obtain rfl := List.mem_singleton.1 hx; rfl
  · intro x hx; obtain rfl := List.mem_singleton.1 hx; simp [Value.oneCell']
  · intro j u hj
    rw [World.cell?_alloc_at _ _ _ _ rfl]
    simpa using hj
  · intro x hx; obtain rfl := List.mem_singleton.1 hx; exact sToks.below hR hb
  · intro x hx; obtain rfl := List.mem_singleton.1 hx; exact hlo
  · intro x hx b' hb'
    obtain rfl := List.mem_singleton.1 hx
    obtain ⟨cur, t, fr, h1, h2⟩ := hty b' hb'
    exact ⟨cur, t, fr, (hb.block b' (Array.getElem?_eq_some_iff.1 h1).1).trans h1, h2⟩
theorem RowE.same2 {α : Type} {S : Shape α} {base : Nat} {e : TypeId} {v : Value} {L : List (Elem α)} {w w' : World} (h : RowE S base e v L w) (hv : ∀ g, v.ownBlock = some g → w'.heap[g]? = w.heap[g]?) (hb : ∀ x ∈ L, ∀ b ∈ x.fp, w'.heap[b]? = w.heap[b]?) : RowE S base e v L w' where
  row := ownsRow_same h.row hv
  len := h.len
  el := fun x hx => S.frame (fun b hb' => hb x hx b hb') (h.el x hx)
  lo := h.lo
  ty := fun x hx b hb' => by
    obtain ⟨cur, t, fr, h1, h2⟩ := h.ty x hx b hb'
    exact ⟨cur, t, fr, (hb x hx b hb').trans h1, h2⟩

/-- The state of l7Split: the arguments done, the one under way. -/
structure SplSt (B0 B1 : Nat) (va vm : Value) (A : List (Elem (List Tok))) (M : List (Elem Tok)) (w : World) : Prop where
  e : RowE sToks B0 30 va A w
  b : ∀ g, va.ownBlock = some g → B1 ≤ g
  g : ∃ top, RowG sTok top 56 vm M w ∧ B1 ≤ top ∧ top ≤ w.heap.size ∧ ∀ x ∈ A, ∀ b ∈ x.fp, b < top
  m : ∀ x ∈ M, ∀ b ∈ x.fp, B0 ≤ b ∧ b < B1
  t : ∀ x ∈ M, TokTy w x.fp
theorem SplSt.below {B0 B1 : Nat} {va vm : Value} {A : List (Elem (List Tok))} {M : List (Elem Tok)} {w w' : World} (h : SplSt B0 B1 va vm A M w) (hb : Below w.heap.size w w') : SplSt B0 B1 va vm A M w' := by
  obtain ⟨top, g1, g2, g3, g4⟩ := h.g
  exact ⟨h.e.below hb, h.b, ⟨top, g1.below hb, g2, Nat.le_trans g3 hb.size, g4⟩, h.m, fun x hx => (h.t x hx).below hb⟩
theorem SplSt.vals {B0 B1 : Nat} {va vm : Value} {A : List (Elem (List Tok))} {M : List (Elem Tok)} {w : World} (h : SplSt B0 B1 va vm A M w) : (∃ a c, va = .slice a A.length c) ∧ ∃ a c, vm = .slice a M.length c := by
  obtain ⟨a, c, h1, -⟩ := h.e.val
  obtain ⟨top, g1, -⟩ := h.g
  obtain ⟨a2, c2, h2, -⟩ := g1.val
  exact ⟨⟨a, c, h1⟩, a2, c2, h2⟩
/-- What the argument under way reads as. -/
theorem SplSt.arg {B0 B1 : Nat} {va vm : Value} {A : List (Elem (List Tok))} {M : List (Elem Tok)} {w : World} (h : SplSt B0 B1 va vm A M w) (hB : B0 ≤ B1) : ∃ fp, sToks.R w [vm] (M.map (·.d)) fp ∧ (∀ b ∈ fp, B0 ≤ b) ∧ TokTy w fp := by
  obtain ⟨top, g1, g2, g3, g4⟩ := h.g
  obtain ⟨fp, h1, h2, -⟩ := g1.read
  refine ⟨fp, h1, fun b hb => ?_, fun b hb => ?_⟩
  · rcases h2 b hb with h0 | ⟨x, hx, h0⟩
    · have := g1.mine b h0; omega
    · exact (h.m x hx b h0).1
  · rcases h2 b hb with h0 | ⟨x, hx, h0⟩
    · rcases g1.row.2 with ⟨h', _⟩ | ⟨g, cap, cur, q1, q2, q3, -⟩
      · rw [h'] at h0; simp [Value.ownBlock] at h0
      · rw [q1] at h0
        simp only [Value.ownBlock, Option.some.injEq] at h0
        subst h0
        exact ⟨_, _, _, q3, .inl rfl⟩
    · exact h.t x hx b h0
theorem TokTy.rows {w : World} {fp : List Nat} (h : TokTy w fp) : ∀ b ∈ fp, ∃ cur t fr, w.heap[b]? = some (.cells cur t fr) ∧ t ≠ 30 := fun b hb => by
  obtain ⟨cur, t, fr, h1, h2⟩ := h b hb
  refine ⟨cur, t, fr, h1, ?_⟩
  rcases h2 with rfl | rfl <;> decide
/-- Behind a token's append. -/
theorem SplSt.grown {B0 B1 : Nat} {va vm vm' : Value} {A : List (Elem (List Tok))} {M M' : List (Elem Tok)} {w w' : World} (h : SplSt B0 B1 va vm A M w) {top : Nat} (g1 : RowG sTok top 56 vm M w) (g2 : B1 ≤ top) (g3 : top ≤ w.heap.size) (g4 : ∀ x ∈ A, ∀ b ∈ x.fp, b < top)
    (hG : RowG sTok top 56 vm' M' w') (hg : w.grownBy w' vm.ownBlock) (hm : ∀ x ∈ M', ∀ b ∈ x.fp, B0 ≤ b ∧ b < B1) (ht : ∀ x ∈ M', TokTy w x.fp) : SplSt B0 B1 va vm' A M' w' := by
  refine ⟨h.e.same2 (fun g hgg => ?_) (fun x hx b hb => ?_), h.b, ⟨top, hG, g2, Nat.le_trans g3 hg.size, g4⟩, hm, fun x hx => (ht x hx).same fun b hb hl => ?_⟩
  · refine hg.block g (h.e.row.lt g hgg).2 fun e => ?_
    rcases own_ne g1.row h.e.row (by decide) with h0 | h0
    · rw [h0] at e; cases e
    · exact h0 (by rw [hgg, ← e])
  · refine hg.block b (sToks.lt (h.e.el x hx) b hb) fun e => ?_
    have h1 := g4 x hx b hb
    have h2 := g1.mine b e.symm
    omega
  · refine hg.block b hl fun e => ?_
    have h1 := (hm x hx b hb).2
    have h2 := g1.mine b e.symm
    omega
/-- The argument is done; another begins. -/
theorem SplSt.next {B0 B1 : Nat} {va' : Value} {A' : List (Elem (List Tok))} {w' : World} (hE : RowE sToks B0 30 va' A' w') (hv : ∀ g, va'.ownBlock = some g → B1 ≤ g) (hB : B1 ≤ w'.heap.size) : SplSt B0 B1 va' (.slice (some ⟨w'.heap.size, 0, none⟩) 0 0) A' [] (w'.alloc (.cells #[] 56)) :=
  ⟨hE.below (alloc_below' _ _), hv, ⟨w'.heap.size, RowG.lit0 sTok 56 w', hB, by show _ ≤ (w'.heap.push _).size; simp, fun x hx b hb => sToks.lt (hE.el x hx) b hb⟩, by simp, by simp⟩

/-- What l7Split answers. -/
def RetSpl (B0 : Nat) (r : Args × Nat × Bool) (w : World) (e : Ending) (w' : World) : Prop :=
  ∃ (v : Value) (A : List (Elem (List Tok))), e = .returned (.tuple #[v, .int .i64 (r.2.1 : Nat), .bool r.2.2]) ∧ RowE sToks B0 30 v A w' ∧ A.map (·.d) = r.1 ∧ Below w.heap.size w w'
theorem spGo_step {l : List Tok} {k : Nat} (hk : k < l.length) (d : Int) (A : Args) (M : List Tok) :
    spGo (l.drop k) d A M k = if d + opn l[k] = 0 then (A ++ [M], k + 1, true) else if d + opn l[k] = 1 ∧ isCom l[k] = true then spGo (l.drop (k + 1)) (d + opn l[k]) (A ++ [M]) [] (k + 1) else spGo (l.drop (k + 1)) (d + opn l[k]) A (M ++ [l[k]]) (k + 1) := by
  rw [List.drop_eq_getElem_cons hk]
  rfl
theorem spGo_end {l : List Tok} {k : Nat} (hk : l.length ≤ k) (d : Int) (A : Args) (M : List Tok) : spGo (l.drop k) d A M k = (A, 0, false) := by
  rw [List.drop_of_length_le hk]; rfl

set_option maxHeartbeats 16000000 in
set_option maxRecDepth 100000 in
theorem spec_l7Split (v : Value) (l : List Tok) (fp : List Nat) (n B0 : Nat) (w : World) (hB0 : B0 ≤ w.heap.size) (hn : n < l.length) (ho : isOpen l[n] = true) (hl : toksOk l = true) (H : (sSlice sTok).R w [v] l fp) (hlo : ∀ b ∈ fp, B0 ≤ b) (hty : TokTy w fp) :
    Calls Try.prog 47 #[v, .int .i64 n] w (RetSpl B0 (spGo (l.drop (n + 1)) 1 [] [] (n + 1)) w) := by
  obtain ⟨hl60, hok⟩ := toksOk_facts hl
  have hhi : ∀ b ∈ fp, b < w.heap.size := fun b hb => (sSlice sTok).lt H b hb
  obtain ⟨a, cap, rfl, hc, hm, hrow⟩ := open_rows H
  unfold maxLen at hm
  have HOK := Lib.hid hok
  have HHI := Lib.hid hhi
  have HLO := Lib.hid hlo
  have HTY := Lib.hid hty
  have HOPEN := Lib.hid ho
  clear H hok hhi hlo hty ho hl
  obtain ⟨r, HR⟩ : ∃ r, Hid (r = spGo (l.drop (n + 1)) 1 [] [] (n + 1)) := ⟨_, rfl⟩
  rw [← HR.out]
  have b0 := alloc_below' w (.cells #[] 30)
  have b1 := b0.trans ((alloc_below' (w.alloc (.cells #[] 30)) (.cells #[] 56)).mono b0.size)
  have HS0 : Hid (SplSt B0 w.heap.size (.slice (some ⟨w.heap.size, 0, none⟩) 0 0) (.slice (some ⟨w.heap.size + 1, 0, none⟩) 0 0) [] [] ((w.alloc (.cells #[] 30)).alloc (.cells #[] 56))) := by
    have hE : RowE sToks B0 30 (.slice (some ⟨w.heap.size, 0, none⟩) 0 0) [] (w.alloc (.cells #[] 30)) := RowE.lit [] (by simp) (by simp) (by simp) (by simp) hB0 (by simp)
    have := SplSt.next (B1 := w.heap.size) hE (fun g hg => by simp only [Value.ownBlock, Option.some.injEq] at hg; omega) b0.size
    have hsz : (w.alloc (.cells #[] 30)).heap.size = w.heap.size + 1 := Array.size_push _
    rw [hsz] at this
    exact this
  clear b0
  go_enter Try.func47, Try.ntmps47
  go_wp2
  go_loopw [7, 8, 9, 10] (fun va vm d i wr => ∃ (k : Nat) (dd : Int) (A : List (Elem (List Tok))) (M : List (Elem Tok)), n ≤ k ∧ k ≤ l.length ∧ i = .int .i64 k ∧ d = .int .i64 dd ∧ A.length ≤ k ∧ M.length ≤ k ∧ Hid (SplSt B0 w.heap.size va vm A M wr) ∧ Hid ((k = n ∧ dd = 0 ∧ A = [] ∧ M = []) ∨ (n < k ∧ 1 ≤ dd ∧ dd ≤ k ∧ spGo (l.drop k) dd (A.map (·.d)) (M.map (·.d)) k = r)) ∧ Below w.heap.size w wr) (fun _ _ _ i _ => l.length - (intOf i).toNat)
  case atStart => exact ⟨n, 0, [], [], Nat.le_refl _, by omega, rfl, rfl, by simp, by simp, HS0, .inl ⟨rfl, rfl, rfl, rfl⟩, b1⟩
  case round =>
    clear HS0 b1
    obtain ⟨k, dd, A, M, hnk, hk, rfl, rfl, hAk, hMk, HS, HI, hb⟩ := hrel
    obtain ⟨⟨aa, ca, rfl⟩, am, cm, rfl⟩ := HS.out.vals
    by_cases hlt : k < l.length
    · have hkok := HOK.out k hlt
      obtain ⟨b1, off1, fps1, rfl, hb1, hfp1, he1⟩ := hrow (by omega)
      obtain ⟨es1, hE1, hR1⟩ := he1 k hlt
      have HFK : Hid (∀ b ∈ fps1 k, B0 ≤ b ∧ b < w.heap.size) := fun b hb => by
        have hm : b ∈ fp := by rw [hfp1]; exact List.mem_cons_of_mem _ (List.mem_flatMap.2 ⟨k, List.mem_range.2 hlt, hb⟩)
        exact ⟨HLO.out b hm, HHI.out b hm⟩
      have HTK : Hid (TokTy wr (fps1 k)) := fun b hb' => by
        have hm : b ∈ fp := by rw [hfp1]; exact List.mem_cons_of_mem _ (List.mem_flatMap.2 ⟨k, List.mem_range.2 hlt, hb'⟩)
        obtain ⟨cur, t, fr, h1, h2⟩ := HTY.out b hm
        exact ⟨cur, t, fr, (hb.block b (HHI.out b hm)).trans h1, h2⟩
      clear hrow he1 hfp1
      have hR2 := sTok.below hR1 hb
      obtain ⟨h1', rfl, _, _, hK1⟩ := hR1
      obtain ⟨ah, ch, rfl, -⟩ := open_strs hK1
      clear hK1
      replace hE1 := hE1.frame (hb.block b1 hb1)
      have c10 : wr.cell? ⟨b1, off1 + k * 4, none⟩ = some _ := elem_cell0 hE1 (by decide) rfl
      have c11 : wr.cell? ⟨b1, off1 + k * 4 + 1, none⟩ = some _ := elem_cell (j := 1) hE1 (by decide) rfl
      have c12 : wr.cell? ⟨b1, off1 + k * 4 + 2, none⟩ = some _ := elem_cell (j := 2) hE1 (by decide) rfl
      have c13 : wr.cell? ⟨b1, off1 + k * 4 + 3, none⟩ = some _ := elem_cell (j := 3) hE1 (by decide) rfl
      clear hE1
      have hbx := alloc_below' wr (.cells #[.int .i64 l[k].kind, .string l[k].text, .bool l[k].spaced, .slice ah l[k].hidden.length ch] 56)
      have HX := Lib.hid (heap_alloc_new wr (.cells #[.int .i64 l[k].kind, .string l[k].text, .bool l[k].spaced, .slice ah l[k].hidden.length ch] 56))
      have HO : Hid (∀ W, Below wr.heap.size wr W → Calls Try.prog 46 #[.agg #[.int .i64 l[k].kind, .string l[k].text, .bool l[k].spaced, .slice ah l[k].hidden.length ch], .string ⟨#[40]⟩] W (Says (isOpen l[k]) W)) := fun W hW => by rw [← is_open hkok]; exact spec_l7Is _ l[k] _ W 40 (sTok.below hR2 hW)
      have HSH : Hid (∀ W, Below wr.heap.size wr W → Calls Try.prog 46 #[.agg #[.int .i64 l[k].kind, .string l[k].text, .bool l[k].spaced, .slice ah l[k].hidden.length ch], .string ⟨#[41]⟩] W (Says (isShut l[k]) W)) := fun W hW => by rw [← is_shut hkok]; exact spec_l7Is _ l[k] _ W 41 (sTok.below hR2 hW)
      have HCM : Hid (∀ W, Below wr.heap.size wr W → Calls Try.prog 46 #[.agg #[.int .i64 l[k].kind, .string l[k].text, .bool l[k].spaced, .slice ah l[k].hidden.length ch], .string ⟨#[44]⟩] W (Says (isCom l[k]) W)) := fun W hW => by rw [← is_com hkok]; exact spec_l7Is _ l[k] _ W 44 (sTok.below hR2 hW)
      have HRT := Lib.hid hR2
      clear hR2 hkok
      rcases HI.out with ⟨h1, h2, h3, h4⟩ | ⟨h1, h2, h3, HF0⟩
      · -- the bracket that opens
        subst h1 h2 h3 h4
        have hO := HOPEN.out
        have hC : isCom l[k] = false := by
          cases e : isCom l[k]
          · rfl
          · have := opn_com e; rw [opn_open hO] at this; omega
        have HF : Hid (spGo (l.drop (k + 1)) 1 (([] : List (Elem (List Tok))).map (·.d)) (([] : List (Elem Tok)).map (·.d)) (k + 1) = r) := HR.out.symm
        rw [hO] at HO
        rw [hC] at HCM
        have e2 : decide ((k : Int) < (k : Int)) = false := by simp
        clear hO hC HI HOPEN HR
        have HX0 := HX
        have hd0 := hbx
        go_wp2_with fail
        refine (HO.out _ (by exact hd0)).mono ?_
        rintro e u1 ⟨rfl, g1⟩
        have hd1 := hd0.trans (g1.mono hd0.size)
        have HX1 := Lib.hid ((g1.block _ (Array.getElem?_eq_some_iff.1 HX0.out).1).trans HX0.out)
        have q1_0 : u1.cell? ⟨wr.heap.size, 0, none⟩ = some _ := cell_of_row _ _ 0 _ _ _ HX1.out
        have q1_1 : u1.cell? ⟨wr.heap.size, 1, none⟩ = some _ := cell_of_row _ _ 1 _ _ _ HX1.out
        have q1_2 : u1.cell? ⟨wr.heap.size, 2, none⟩ = some _ := cell_of_row _ _ 2 _ _ _ HX1.out
        have q1_3 : u1.cell? ⟨wr.heap.size, 3, none⟩ = some _ := cell_of_row _ _ 3 _ _ _ HX1.out
        go_wp2_with fail
        refine (HCM.out _ (by exact hd1)).mono ?_
        rintro e u2 ⟨rfl, g2⟩
        have hd2 := hd1.trans (g2.mono hd1.size)
        have HX2 := Lib.hid ((g2.block _ (Array.getElem?_eq_some_iff.1 HX1.out).1).trans HX1.out)
        have q2_0 : u2.cell? ⟨wr.heap.size, 0, none⟩ = some _ := cell_of_row _ _ 0 _ _ _ HX2.out
        have q2_1 : u2.cell? ⟨wr.heap.size, 1, none⟩ = some _ := cell_of_row _ _ 1 _ _ _ HX2.out
        have q2_2 : u2.cell? ⟨wr.heap.size, 2, none⟩ = some _ := cell_of_row _ _ 2 _ _ _ HX2.out
        have q2_3 : u2.cell? ⟨wr.heap.size, 3, none⟩ = some _ := cell_of_row _ _ 3 _ _ _ HX2.out
        have hbw := hb.trans (hd2.mono hb.size)
        have HSW := Lib.hid (HS.out.below hd2)
        have hRW := Lib.hid (sTok.below HRT.out hd2)
        have HTW := Lib.hid (HTK.out.below hd2)
        go_wp2
        go_roundw
        case rel => exact ⟨k + 1, _, [], [], by omega, by omega, by go_num, rfl, by simp, by simp, HSW, .inr ⟨by omega, by omega, by omega, HF.out⟩, hbw⟩
        case measure => simp [intOf]; omega
      · rw [spGo_step hlt] at HF0
        have e2 : decide ((n : Int) < (k : Int)) = true := by simp; omega
        have e3 : decide (n < k) = true := by simp; omega
        clear HI HOPEN HR
        cases hO : isOpen l[k]
        · cases hS : isShut l[k]
          · rw [opn_else hO hS, Int.add_zero] at HF0
            rw [hO] at HO
            rw [hS] at HSH
            rw [if_neg (by omega)] at HF0
            by_cases hd : dd = 1
            · subst hd
              cases hC : isCom l[k]
              · rw [if_neg (by rw [hC]; simp)] at HF0
                rw [hC] at HCM
                have HF := Lib.hid HF0
                clear HF0 hO hS hC
                have HX0 := HX
                have hd0 := hbx
                go_wp2_with fail
                refine (HO.out _ (by exact hd0)).mono ?_
                rintro e u1 ⟨rfl, g1⟩
                have hd1 := hd0.trans (g1.mono hd0.size)
                have HX1 := Lib.hid ((g1.block _ (Array.getElem?_eq_some_iff.1 HX0.out).1).trans HX0.out)
                have q1_0 : u1.cell? ⟨wr.heap.size, 0, none⟩ = some _ := cell_of_row _ _ 0 _ _ _ HX1.out
                have q1_1 : u1.cell? ⟨wr.heap.size, 1, none⟩ = some _ := cell_of_row _ _ 1 _ _ _ HX1.out
                have q1_2 : u1.cell? ⟨wr.heap.size, 2, none⟩ = some _ := cell_of_row _ _ 2 _ _ _ HX1.out
                have q1_3 : u1.cell? ⟨wr.heap.size, 3, none⟩ = some _ := cell_of_row _ _ 3 _ _ _ HX1.out
                go_wp2_with fail
                refine (HSH.out _ (by exact hd1)).mono ?_
                rintro e u2 ⟨rfl, g2⟩
                have hd2 := hd1.trans (g2.mono hd1.size)
                have HX2 := Lib.hid ((g2.block _ (Array.getElem?_eq_some_iff.1 HX1.out).1).trans HX1.out)
                have q2_0 : u2.cell? ⟨wr.heap.size, 0, none⟩ = some _ := cell_of_row _ _ 0 _ _ _ HX2.out
                have q2_1 : u2.cell? ⟨wr.heap.size, 1, none⟩ = some _ := cell_of_row _ _ 1 _ _ _ HX2.out
                have q2_2 : u2.cell? ⟨wr.heap.size, 2, none⟩ = some _ := cell_of_row _ _ 2 _ _ _ HX2.out
                have q2_3 : u2.cell? ⟨wr.heap.size, 3, none⟩ = some _ := cell_of_row _ _ 3 _ _ _ HX2.out
                go_wp2_with fail
                refine (HCM.out _ (by exact hd2)).mono ?_
                rintro e u3 ⟨rfl, g3⟩
                have hd3 := hd2.trans (g3.mono hd2.size)
                have HX3 := Lib.hid ((g3.block _ (Array.getElem?_eq_some_iff.1 HX2.out).1).trans HX2.out)
                have q3_0 : u3.cell? ⟨wr.heap.size, 0, none⟩ = some _ := cell_of_row _ _ 0 _ _ _ HX3.out
                have q3_1 : u3.cell? ⟨wr.heap.size, 1, none⟩ = some _ := cell_of_row _ _ 1 _ _ _ HX3.out
                have q3_2 : u3.cell? ⟨wr.heap.size, 2, none⟩ = some _ := cell_of_row _ _ 2 _ _ _ HX3.out
                have q3_3 : u3.cell? ⟨wr.heap.size, 3, none⟩ = some _ := cell_of_row _ _ 3 _ _ _ HX3.out
                have hbw := hb.trans (hd3.mono hb.size)
                have HSW := Lib.hid (HS.out.below hd3)
                have hRW := Lib.hid (sTok.below HRT.out hd3)
                have HTW := Lib.hid (HTK.out.below hd3)
                obtain ⟨top, t1, t2, t3, t4⟩ := HSW.out.g
                have HG := Lib.hid t1
                have HT4 := Lib.hid t4
                clear t1 t4
                go_wp2_with (at_builtin; refine wp_append_tokG rfl (.tmp 60) (.tmp 62) rfl top (.slice am M.length cm) M rfl HG.out l[k].kind l[k].text l[k].spaced ah l[k].hidden.length ch l[k] (fps1 k) rfl hRW.out (fun b hb => by have := (HFK.out b hb).2; omega) (by omega) t3 ?_; intro v3 w3 hG3 hg3)
                have hb3 : Below w.heap.size w w3 := hbw.grown hg3 hbw.size (fun b hb => by have := HG.out.mine b hb; omega)
                have HS3 : Hid (SplSt B0 w.heap.size (.slice aa A.length ca) v3 A (M ++ [(⟨[.int .i64 l[k].kind, .string l[k].text, .bool l[k].spaced, .slice ah l[k].hidden.length ch], l[k], fps1 k⟩ : Elem Tok)]) w3) := HSW.out.grown HG.out t2 t3 HT4.out hG3 hg3 (fun x hx => by
                  rcases List.mem_append.1 hx with hx | hx
                  · exact HSW.out.m x hx
                  · obtain rfl := List.mem_singleton.1 hx; exact HFK.out) (fun x hx => by
                  rcases List.mem_append.1 hx with hx | hx
                  · exact HSW.out.t x hx
                  · obtain rfl := List.mem_singleton.1 hx; exact HTW.out)
                clear hG3 hg3
                go_roundw
                case rel => exact ⟨k + 1, _, A, _, by omega, by omega, by go_num, rfl, by omega, by simp; omega, HS3, .inr ⟨by omega, by omega, by omega, by rw [← HF.out, List.map_append]; rfl⟩, hb3⟩
                case measure => simp [intOf]; omega
              · rw [if_pos ⟨rfl, hC⟩] at HF0
                rw [hC] at HCM
                have HF := Lib.hid HF0
                clear HF0 hO hS hC
                have HX0 := HX
                have hd0 := hbx
                go_wp2_with fail
                refine (HO.out _ (by exact hd0)).mono ?_
                rintro e u1 ⟨rfl, g1⟩
                have hd1 := hd0.trans (g1.mono hd0.size)
                have HX1 := Lib.hid ((g1.block _ (Array.getElem?_eq_some_iff.1 HX0.out).1).trans HX0.out)
                have q1_0 : u1.cell? ⟨wr.heap.size, 0, none⟩ = some _ := cell_of_row _ _ 0 _ _ _ HX1.out
                have q1_1 : u1.cell? ⟨wr.heap.size, 1, none⟩ = some _ := cell_of_row _ _ 1 _ _ _ HX1.out
                have q1_2 : u1.cell? ⟨wr.heap.size, 2, none⟩ = some _ := cell_of_row _ _ 2 _ _ _ HX1.out
                have q1_3 : u1.cell? ⟨wr.heap.size, 3, none⟩ = some _ := cell_of_row _ _ 3 _ _ _ HX1.out
                go_wp2_with fail
                refine (HSH.out _ (by exact hd1)).mono ?_
                rintro e u2 ⟨rfl, g2⟩
                have hd2 := hd1.trans (g2.mono hd1.size)
                have HX2 := Lib.hid ((g2.block _ (Array.getElem?_eq_some_iff.1 HX1.out).1).trans HX1.out)
                have q2_0 : u2.cell? ⟨wr.heap.size, 0, none⟩ = some _ := cell_of_row _ _ 0 _ _ _ HX2.out
                have q2_1 : u2.cell? ⟨wr.heap.size, 1, none⟩ = some _ := cell_of_row _ _ 1 _ _ _ HX2.out
                have q2_2 : u2.cell? ⟨wr.heap.size, 2, none⟩ = some _ := cell_of_row _ _ 2 _ _ _ HX2.out
                have q2_3 : u2.cell? ⟨wr.heap.size, 3, none⟩ = some _ := cell_of_row _ _ 3 _ _ _ HX2.out
                go_wp2_with fail
                refine (HCM.out _ (by exact hd2)).mono ?_
                rintro e u3 ⟨rfl, g3⟩
                have hd3 := hd2.trans (g3.mono hd2.size)
                have HX3 := Lib.hid ((g3.block _ (Array.getElem?_eq_some_iff.1 HX2.out).1).trans HX2.out)
                have q3_0 : u3.cell? ⟨wr.heap.size, 0, none⟩ = some _ := cell_of_row _ _ 0 _ _ _ HX3.out
                have q3_1 : u3.cell? ⟨wr.heap.size, 1, none⟩ = some _ := cell_of_row _ _ 1 _ _ _ HX3.out
                have q3_2 : u3.cell? ⟨wr.heap.size, 2, none⟩ = some _ := cell_of_row _ _ 2 _ _ _ HX3.out
                have q3_3 : u3.cell? ⟨wr.heap.size, 3, none⟩ = some _ := cell_of_row _ _ 3 _ _ _ HX3.out
                have hbw := hb.trans (hd3.mono hb.size)
                have HSW := Lib.hid (HS.out.below hd3)
                have hRW := Lib.hid (sTok.below HRT.out hd3)
                have HTW := Lib.hid (HTK.out.below hd3)
                obtain ⟨fpa, ra, rlo, rty⟩ := HSW.out.arg hB0
                have RT := Lib.hid rty.rows
                have RR := Lib.hid ra
                have RLO := Lib.hid rlo
                clear ra rlo rty
                go_wp2_with (at_builtin; refine wp_append_toksE rfl (.tmp 51) (.tmp 53) rfl B0 w.heap.size (.slice aa A.length ca) A rfl HSW.out.e am M.length cm (M.map (·.d)) fpa rfl RR.out RLO.out RT.out (by omega) hB0 hbw.size HSW.out.b ?_; intro v3 w3 hE3 hg3 hv3; have hb3 : Below w.heap.size w w3 := hbw.grown hg3 hbw.size HSW.out.b; have HN3 := Lib.hid (SplSt.next (B1 := w.heap.size) hE3 hv3 hb3.size); have hb4 := hb3.alloc hb3.size (.cells #[] 56); obtain ⟨a3, c3, rfl, -⟩ := hE3.val; simp only [List.length_append, List.length_cons, List.length_nil, Nat.zero_add] at HN3; clear hE3 hg3 hb3)
                go_roundw
                case rel => exact ⟨k + 1, _, A ++ [(⟨[.slice am M.length cm], M.map (·.d), fpa⟩ : Elem (List Tok))], [], by omega, by omega, by go_num, rfl, by simp; omega, by simp, HN3, .inr ⟨by omega, by omega, by omega, by rw [← HF.out, List.map_append]; rfl⟩, hb4⟩
                case measure => simp [intOf]; omega
            · rw [if_neg (fun h => hd h.1)] at HF0
              have HF := Lib.hid HF0
              have e0 : (dd == 0) = false := by simp; omega
              have e1 : (dd == 1) = false := by simp; omega
              clear HF0 hO hS
              have HX0 := HX
              have hd0 := hbx
              go_wp2_with fail
              refine (HO.out _ (by exact hd0)).mono ?_
              rintro e u1 ⟨rfl, g1⟩
              have hd1 := hd0.trans (g1.mono hd0.size)
              have HX1 := Lib.hid ((g1.block _ (Array.getElem?_eq_some_iff.1 HX0.out).1).trans HX0.out)
              have q1_0 : u1.cell? ⟨wr.heap.size, 0, none⟩ = some _ := cell_of_row _ _ 0 _ _ _ HX1.out
              have q1_1 : u1.cell? ⟨wr.heap.size, 1, none⟩ = some _ := cell_of_row _ _ 1 _ _ _ HX1.out
              have q1_2 : u1.cell? ⟨wr.heap.size, 2, none⟩ = some _ := cell_of_row _ _ 2 _ _ _ HX1.out
              have q1_3 : u1.cell? ⟨wr.heap.size, 3, none⟩ = some _ := cell_of_row _ _ 3 _ _ _ HX1.out
              go_wp2_with fail
              refine (HSH.out _ (by exact hd1)).mono ?_
              rintro e u2 ⟨rfl, g2⟩
              have hd2 := hd1.trans (g2.mono hd1.size)
              have HX2 := Lib.hid ((g2.block _ (Array.getElem?_eq_some_iff.1 HX1.out).1).trans HX1.out)
              have q2_0 : u2.cell? ⟨wr.heap.size, 0, none⟩ = some _ := cell_of_row _ _ 0 _ _ _ HX2.out
              have q2_1 : u2.cell? ⟨wr.heap.size, 1, none⟩ = some _ := cell_of_row _ _ 1 _ _ _ HX2.out
              have q2_2 : u2.cell? ⟨wr.heap.size, 2, none⟩ = some _ := cell_of_row _ _ 2 _ _ _ HX2.out
              have q2_3 : u2.cell? ⟨wr.heap.size, 3, none⟩ = some _ := cell_of_row _ _ 3 _ _ _ HX2.out
              have hbw := hb.trans (hd2.mono hb.size)
              have HSW := Lib.hid (HS.out.below hd2)
              have hRW := Lib.hid (sTok.below HRT.out hd2)
              have HTW := Lib.hid (HTK.out.below hd2)
              obtain ⟨top, t1, t2, t3, t4⟩ := HSW.out.g
              have HG := Lib.hid t1
              have HT4 := Lib.hid t4
              clear t1 t4
              go_wp2_with (at_builtin; refine wp_append_tokG rfl (.tmp 60) (.tmp 62) rfl top (.slice am M.length cm) M rfl HG.out l[k].kind l[k].text l[k].spaced ah l[k].hidden.length ch l[k] (fps1 k) rfl hRW.out (fun b hb => by have := (HFK.out b hb).2; omega) (by omega) t3 ?_; intro v3 w3 hG3 hg3)
              have hb3 : Below w.heap.size w w3 := hbw.grown hg3 hbw.size (fun b hb => by have := HG.out.mine b hb; omega)
              have HS3 : Hid (SplSt B0 w.heap.size (.slice aa A.length ca) v3 A (M ++ [(⟨[.int .i64 l[k].kind, .string l[k].text, .bool l[k].spaced, .slice ah l[k].hidden.length ch], l[k], fps1 k⟩ : Elem Tok)]) w3) := HSW.out.grown HG.out t2 t3 HT4.out hG3 hg3 (fun x hx => by
                rcases List.mem_append.1 hx with hx | hx
                · exact HSW.out.m x hx
                · obtain rfl := List.mem_singleton.1 hx; exact HFK.out) (fun x hx => by
                rcases List.mem_append.1 hx with hx | hx
                · exact HSW.out.t x hx
                · obtain rfl := List.mem_singleton.1 hx; exact HTW.out)
              clear hG3 hg3
              go_roundw
              case rel => exact ⟨k + 1, _, A, _, by omega, by omega, by go_num, rfl, by omega, by simp; omega, HS3, .inr ⟨by omega, by omega, by omega, by rw [← HF.out, List.map_append]; rfl⟩, hb3⟩
              case measure => simp [intOf]; omega
          · rw [opn_shut hO hS] at HF0
            rw [hO] at HO
            rw [hS] at HSH
            have hwr : IntKind.i64.wrap (dd - 1) = dd - 1 := IntWalk.i64_in _ (by omega)
            by_cases hd : dd = 1
            · rw [if_pos (by omega)] at HF0
              have HF := Lib.hid HF0.symm
              subst hd
              clear HF0 hO hS
              have HX0 := HX
              have hd0 := hbx
              go_wp2_with fail
              refine (HO.out _ (by exact hd0)).mono ?_
              rintro e u1 ⟨rfl, g1⟩
              have hd1 := hd0.trans (g1.mono hd0.size)
              have HX1 := Lib.hid ((g1.block _ (Array.getElem?_eq_some_iff.1 HX0.out).1).trans HX0.out)
              have q1_0 : u1.cell? ⟨wr.heap.size, 0, none⟩ = some _ := cell_of_row _ _ 0 _ _ _ HX1.out
              have q1_1 : u1.cell? ⟨wr.heap.size, 1, none⟩ = some _ := cell_of_row _ _ 1 _ _ _ HX1.out
              have q1_2 : u1.cell? ⟨wr.heap.size, 2, none⟩ = some _ := cell_of_row _ _ 2 _ _ _ HX1.out
              have q1_3 : u1.cell? ⟨wr.heap.size, 3, none⟩ = some _ := cell_of_row _ _ 3 _ _ _ HX1.out
              go_wp2_with fail
              refine (HSH.out _ (by exact hd1)).mono ?_
              rintro e u2 ⟨rfl, g2⟩
              have hd2 := hd1.trans (g2.mono hd1.size)
              have HX2 := Lib.hid ((g2.block _ (Array.getElem?_eq_some_iff.1 HX1.out).1).trans HX1.out)
              have q2_0 : u2.cell? ⟨wr.heap.size, 0, none⟩ = some _ := cell_of_row _ _ 0 _ _ _ HX2.out
              have q2_1 : u2.cell? ⟨wr.heap.size, 1, none⟩ = some _ := cell_of_row _ _ 1 _ _ _ HX2.out
              have q2_2 : u2.cell? ⟨wr.heap.size, 2, none⟩ = some _ := cell_of_row _ _ 2 _ _ _ HX2.out
              have q2_3 : u2.cell? ⟨wr.heap.size, 3, none⟩ = some _ := cell_of_row _ _ 3 _ _ _ HX2.out
              have hbw := hb.trans (hd2.mono hb.size)
              have HSW := Lib.hid (HS.out.below hd2)
              have hRW := Lib.hid (sTok.below HRT.out hd2)
              have HTW := Lib.hid (HTK.out.below hd2)
              obtain ⟨fpa, ra, rlo, rty⟩ := HSW.out.arg hB0
              have RT := Lib.hid rty.rows
              have RR := Lib.hid ra
              have RLO := Lib.hid rlo
              clear ra rlo rty
              go_wp2_with (at_builtin; refine wp_append_toksE rfl (.tmp 38) (.tmp 40) rfl B0 w.heap.size (.slice aa A.length ca) A rfl HSW.out.e am M.length cm (M.map (·.d)) fpa rfl RR.out RLO.out RT.out (by omega) hB0 hbw.size HSW.out.b ?_; intro v3 w3 hE3 hg3 hv3)
              have hb3 : Below w.heap.size w w3 := hbw.grown hg3 hbw.size HSW.out.b
              have HE3 := Lib.hid hE3
              clear hE3 hg3
              go_ret3
              exact ⟨_, _, by rw [HF.out]; rfl, HE3.out, by rw [HF.out, List.map_append]; rfl, hb3⟩
            · have hC : isCom l[k] = false := by
                cases e : isCom l[k]
                · rfl
                · have := opn_com e; rw [opn_shut hO hS] at this; omega
              rw [if_neg (by omega), if_neg (by rw [hC]; simp)] at HF0
              have HF : Hid (spGo (l.drop (k + 1)) (dd - 1) (A.map (·.d)) (M.map (·.d) ++ [l[k]]) (k + 1) = r) := HF0
              have e0 : (dd - 1 == 0) = false := by simp; omega
              rw [hC] at HCM
              clear HF0 hO hS hC
              by_cases h22 : dd = 2
              · have e1 : (dd - 1 == 1) = true := by simp; omega
                rw [show dd - 1 = 1 by omega] at HF
                have HX0 := HX
                have hd0 := hbx
                go_wp2_with fail
                refine (HO.out _ (by exact hd0)).mono ?_
                rintro e u1 ⟨rfl, g1⟩
                have hd1 := hd0.trans (g1.mono hd0.size)
                have HX1 := Lib.hid ((g1.block _ (Array.getElem?_eq_some_iff.1 HX0.out).1).trans HX0.out)
                have q1_0 : u1.cell? ⟨wr.heap.size, 0, none⟩ = some _ := cell_of_row _ _ 0 _ _ _ HX1.out
                have q1_1 : u1.cell? ⟨wr.heap.size, 1, none⟩ = some _ := cell_of_row _ _ 1 _ _ _ HX1.out
                have q1_2 : u1.cell? ⟨wr.heap.size, 2, none⟩ = some _ := cell_of_row _ _ 2 _ _ _ HX1.out
                have q1_3 : u1.cell? ⟨wr.heap.size, 3, none⟩ = some _ := cell_of_row _ _ 3 _ _ _ HX1.out
                go_wp2_with fail
                refine (HSH.out _ (by exact hd1)).mono ?_
                rintro e u2 ⟨rfl, g2⟩
                have hd2 := hd1.trans (g2.mono hd1.size)
                have HX2 := Lib.hid ((g2.block _ (Array.getElem?_eq_some_iff.1 HX1.out).1).trans HX1.out)
                have q2_0 : u2.cell? ⟨wr.heap.size, 0, none⟩ = some _ := cell_of_row _ _ 0 _ _ _ HX2.out
                have q2_1 : u2.cell? ⟨wr.heap.size, 1, none⟩ = some _ := cell_of_row _ _ 1 _ _ _ HX2.out
                have q2_2 : u2.cell? ⟨wr.heap.size, 2, none⟩ = some _ := cell_of_row _ _ 2 _ _ _ HX2.out
                have q2_3 : u2.cell? ⟨wr.heap.size, 3, none⟩ = some _ := cell_of_row _ _ 3 _ _ _ HX2.out
                go_wp2_with fail
                refine (HCM.out _ (by exact hd2)).mono ?_
                rintro e u3 ⟨rfl, g3⟩
                have hd3 := hd2.trans (g3.mono hd2.size)
                have HX3 := Lib.hid ((g3.block _ (Array.getElem?_eq_some_iff.1 HX2.out).1).trans HX2.out)
                have q3_0 : u3.cell? ⟨wr.heap.size, 0, none⟩ = some _ := cell_of_row _ _ 0 _ _ _ HX3.out
                have q3_1 : u3.cell? ⟨wr.heap.size, 1, none⟩ = some _ := cell_of_row _ _ 1 _ _ _ HX3.out
                have q3_2 : u3.cell? ⟨wr.heap.size, 2, none⟩ = some _ := cell_of_row _ _ 2 _ _ _ HX3.out
                have q3_3 : u3.cell? ⟨wr.heap.size, 3, none⟩ = some _ := cell_of_row _ _ 3 _ _ _ HX3.out
                have hbw := hb.trans (hd3.mono hb.size)
                have HSW := Lib.hid (HS.out.below hd3)
                have hRW := Lib.hid (sTok.below HRT.out hd3)
                have HTW := Lib.hid (HTK.out.below hd3)
                obtain ⟨top, t1, t2, t3, t4⟩ := HSW.out.g
                have HG := Lib.hid t1
                have HT4 := Lib.hid t4
                clear t1 t4
                go_wp2_with (at_builtin; refine wp_append_tokG rfl (.tmp 60) (.tmp 62) rfl top (.slice am M.length cm) M rfl HG.out l[k].kind l[k].text l[k].spaced ah l[k].hidden.length ch l[k] (fps1 k) rfl hRW.out (fun b hb => by have := (HFK.out b hb).2; omega) (by omega) t3 ?_; intro v3 w3 hG3 hg3)
                have hb3 : Below w.heap.size w w3 := hbw.grown hg3 hbw.size (fun b hb => by have := HG.out.mine b hb; omega)
                have HS3 : Hid (SplSt B0 w.heap.size (.slice aa A.length ca) v3 A (M ++ [(⟨[.int .i64 l[k].kind, .string l[k].text, .bool l[k].spaced, .slice ah l[k].hidden.length ch], l[k], fps1 k⟩ : Elem Tok)]) w3) := HSW.out.grown HG.out t2 t3 HT4.out hG3 hg3 (fun x hx => by
                  rcases List.mem_append.1 hx with hx | hx
                  · exact HSW.out.m x hx
                  · obtain rfl := List.mem_singleton.1 hx; exact HFK.out) (fun x hx => by
                  rcases List.mem_append.1 hx with hx | hx
                  · exact HSW.out.t x hx
                  · obtain rfl := List.mem_singleton.1 hx; exact HTW.out)
                clear hG3 hg3
                go_roundw
                case rel => exact ⟨k + 1, _, A, _, by omega, by omega, by go_num, rfl, by omega, by simp; omega, HS3, .inr ⟨by omega, by omega, by omega, by rw [← HF.out, List.map_append]; rfl⟩, hb3⟩
                case measure => simp [intOf]; omega
              · have e1 : (dd - 1 == 1) = false := by simp; omega
                have HX0 := HX
                have hd0 := hbx
                go_wp2_with fail
                refine (HO.out _ (by exact hd0)).mono ?_
                rintro e u1 ⟨rfl, g1⟩
                have hd1 := hd0.trans (g1.mono hd0.size)
                have HX1 := Lib.hid ((g1.block _ (Array.getElem?_eq_some_iff.1 HX0.out).1).trans HX0.out)
                have q1_0 : u1.cell? ⟨wr.heap.size, 0, none⟩ = some _ := cell_of_row _ _ 0 _ _ _ HX1.out
                have q1_1 : u1.cell? ⟨wr.heap.size, 1, none⟩ = some _ := cell_of_row _ _ 1 _ _ _ HX1.out
                have q1_2 : u1.cell? ⟨wr.heap.size, 2, none⟩ = some _ := cell_of_row _ _ 2 _ _ _ HX1.out
                have q1_3 : u1.cell? ⟨wr.heap.size, 3, none⟩ = some _ := cell_of_row _ _ 3 _ _ _ HX1.out
                go_wp2_with fail
                refine (HSH.out _ (by exact hd1)).mono ?_
                rintro e u2 ⟨rfl, g2⟩
                have hd2 := hd1.trans (g2.mono hd1.size)
                have HX2 := Lib.hid ((g2.block _ (Array.getElem?_eq_some_iff.1 HX1.out).1).trans HX1.out)
                have q2_0 : u2.cell? ⟨wr.heap.size, 0, none⟩ = some _ := cell_of_row _ _ 0 _ _ _ HX2.out
                have q2_1 : u2.cell? ⟨wr.heap.size, 1, none⟩ = some _ := cell_of_row _ _ 1 _ _ _ HX2.out
                have q2_2 : u2.cell? ⟨wr.heap.size, 2, none⟩ = some _ := cell_of_row _ _ 2 _ _ _ HX2.out
                have q2_3 : u2.cell? ⟨wr.heap.size, 3, none⟩ = some _ := cell_of_row _ _ 3 _ _ _ HX2.out
                have hbw := hb.trans (hd2.mono hb.size)
                have HSW := Lib.hid (HS.out.below hd2)
                have hRW := Lib.hid (sTok.below HRT.out hd2)
                have HTW := Lib.hid (HTK.out.below hd2)
                obtain ⟨top, t1, t2, t3, t4⟩ := HSW.out.g
                have HG := Lib.hid t1
                have HT4 := Lib.hid t4
                clear t1 t4
                go_wp2_with (at_builtin; refine wp_append_tokG rfl (.tmp 60) (.tmp 62) rfl top (.slice am M.length cm) M rfl HG.out l[k].kind l[k].text l[k].spaced ah l[k].hidden.length ch l[k] (fps1 k) rfl hRW.out (fun b hb => by have := (HFK.out b hb).2; omega) (by omega) t3 ?_; intro v3 w3 hG3 hg3)
                have hb3 : Below w.heap.size w w3 := hbw.grown hg3 hbw.size (fun b hb => by have := HG.out.mine b hb; omega)
                have HS3 : Hid (SplSt B0 w.heap.size (.slice aa A.length ca) v3 A (M ++ [(⟨[.int .i64 l[k].kind, .string l[k].text, .bool l[k].spaced, .slice ah l[k].hidden.length ch], l[k], fps1 k⟩ : Elem Tok)]) w3) := HSW.out.grown HG.out t2 t3 HT4.out hG3 hg3 (fun x hx => by
                  rcases List.mem_append.1 hx with hx | hx
                  · exact HSW.out.m x hx
                  · obtain rfl := List.mem_singleton.1 hx; exact HFK.out) (fun x hx => by
                  rcases List.mem_append.1 hx with hx | hx
                  · exact HSW.out.t x hx
                  · obtain rfl := List.mem_singleton.1 hx; exact HTW.out)
                clear hG3 hg3
                go_roundw
                case rel => exact ⟨k + 1, _, A, _, by omega, by omega, by go_num, rfl, by omega, by simp; omega, HS3, .inr ⟨by omega, by omega, by omega, by rw [← HF.out, List.map_append]; rfl⟩, hb3⟩
                case measure => simp [intOf]; omega
        · have hC : isCom l[k] = false := by
            cases e : isCom l[k]
            · rfl
            · have := opn_com e; rw [opn_open hO] at this; omega
          rw [opn_open hO, if_neg (by omega), if_neg (by rw [hC]; simp)] at HF0
          rw [hO] at HO
          have hwr : IntKind.i64.wrap (dd + 1) = dd + 1 := IntWalk.i64_in _ (by omega)
          have HF := Lib.hid HF0
          have e0 : (dd + 1 == 0) = false := by simp; omega
          have e1 : (dd + 1 == 1) = false := by simp; omega
          clear HF0 hO hC
          have HX0 := HX
          have hd0 := hbx
          go_wp2_with fail
          refine (HO.out _ (by exact hd0)).mono ?_
          rintro e u1 ⟨rfl, g1⟩
          have hd1 := hd0.trans (g1.mono hd0.size)
          have HX1 := Lib.hid ((g1.block _ (Array.getElem?_eq_some_iff.1 HX0.out).1).trans HX0.out)
          have q1_0 : u1.cell? ⟨wr.heap.size, 0, none⟩ = some _ := cell_of_row _ _ 0 _ _ _ HX1.out
          have q1_1 : u1.cell? ⟨wr.heap.size, 1, none⟩ = some _ := cell_of_row _ _ 1 _ _ _ HX1.out
          have q1_2 : u1.cell? ⟨wr.heap.size, 2, none⟩ = some _ := cell_of_row _ _ 2 _ _ _ HX1.out
          have q1_3 : u1.cell? ⟨wr.heap.size, 3, none⟩ = some _ := cell_of_row _ _ 3 _ _ _ HX1.out
          have hbw := hb.trans (hd1.mono hb.size)
          have HSW := Lib.hid (HS.out.below hd1)
          have hRW := Lib.hid (sTok.below HRT.out hd1)
          have HTW := Lib.hid (HTK.out.below hd1)
          obtain ⟨top, t1, t2, t3, t4⟩ := HSW.out.g
          have HG := Lib.hid t1
          have HT4 := Lib.hid t4
          clear t1 t4
          go_wp2_with (at_builtin; refine wp_append_tokG rfl (.tmp 60) (.tmp 62) rfl top (.slice am M.length cm) M rfl HG.out l[k].kind l[k].text l[k].spaced ah l[k].hidden.length ch l[k] (fps1 k) rfl hRW.out (fun b hb => by have := (HFK.out b hb).2; omega) (by omega) t3 ?_; intro v3 w3 hG3 hg3)
          have hb3 : Below w.heap.size w w3 := hbw.grown hg3 hbw.size (fun b hb => by have := HG.out.mine b hb; omega)
          have HS3 : Hid (SplSt B0 w.heap.size (.slice aa A.length ca) v3 A (M ++ [(⟨[.int .i64 l[k].kind, .string l[k].text, .bool l[k].spaced, .slice ah l[k].hidden.length ch], l[k], fps1 k⟩ : Elem Tok)]) w3) := HSW.out.grown HG.out t2 t3 HT4.out hG3 hg3 (fun x hx => by
            rcases List.mem_append.1 hx with hx | hx
            · exact HSW.out.m x hx
            · obtain rfl := List.mem_singleton.1 hx; exact HFK.out) (fun x hx => by
            rcases List.mem_append.1 hx with hx | hx
            · exact HSW.out.t x hx
            · obtain rfl := List.mem_singleton.1 hx; exact HTW.out)
          clear hG3 hg3
          go_roundw
          case rel => exact ⟨k + 1, _, A, _, by omega, by omega, by go_num, rfl, by omega, by simp; omega, HS3, .inr ⟨by omega, by omega, by omega, by rw [← HF.out, List.map_append]; rfl⟩, hb3⟩
          case measure => simp [intOf]; omega
    · have HF : Hid (r = (A.map (·.d), 0, false)) := by
        rcases HI.out with ⟨h1, -⟩ | ⟨_, _, _, h⟩
        · omega
        · rw [spGo_end (by omega)] at h; exact h.symm
      have HE := Lib.hid HS.out.e
      clear HI HR
      go_wp2
      go_ret3
      exact ⟨_, A, by rw [HF.out]; rfl, HE.out, by rw [HF.out], hb⟩

/-- What SplitArguments answers. -/
def RetArgs (r : Args × Int × Bool) (w : World) (e : Ending) (w' : World) : Prop :=
  ∃ (v : Value) (fp : List Nat), e = .returned (.tuple #[v, .int .i64 r.2.1, .bool r.2.2]) ∧ (sSlice sToks).R w' [v] r.1 fp ∧ (∀ b ∈ fp, w.heap.size ≤ b) ∧ Below w.heap.size w w'
theorem spec_l1In (n lo hi : Int) (w : World) : Calls Try.prog 45 #[.int .i64 n, .int .i64 lo, .int .i64 hi] w (fun e w' => e = .returned (.bool (decide (lo ≤ n) && decide (n ≤ hi))) ∧ Below w.heap.size w w') := by
  go_enter Try.func45, Try.ntmps45
  by_cases h : lo ≤ n
  · have e0 : decide (lo ≤ n) = true := decide_eq_true h
    have HF : Hid ((decide (lo ≤ n) && decide (n ≤ hi)) = decide (n ≤ hi)) := by show _ = _; rw [e0]; rfl
    go_wp2
    go_ret
    exact ⟨ret_bool (by first | rfl | rw [HF.out]), Below.refl _ _⟩
  · have e0 : decide (lo ≤ n) = false := decide_eq_false h
    have HF : Hid ((decide (lo ≤ n) && decide (n ≤ hi)) = false) := by show _ = _; rw [e0]; rfl
    go_wp2
    go_ret
    exact ⟨ret_bool (by first | rfl | rw [HF.out]), Below.refl _ _⟩
theorem RowE.readLo {α : Type} {S : Shape α} {base : Nat} {e : TypeId} {v : Value} {L : List (Elem α)} {w : World} (h : RowE S base e v L w) : ∃ fp, (sSlice S).R w [v] (L.map (·.d)) fp ∧ ∀ b ∈ fp, base ≤ b := by
  obtain ⟨fp, h1, h2, -⟩ := slice_of_row h.row fun x hx => ⟨h.len x hx, h.el x hx⟩
  refine ⟨fp, h1, fun b hb => ?_⟩
  rcases h2 b hb with h0 | h0
  · exact h.mine b h0
  · obtain ⟨x, hx, hb'⟩ := List.mem_flatMap.1 h0
    exact h.lo x hx b hb'

set_option maxHeartbeats 8000000 in
set_option maxRecDepth 100000 in
theorem spec_SplitArguments (v : Value) (l : List Tok) (fp : List Nat) (i : Int) (w : World) (hl : l.length ≤ 1048576) (hx : ∀ k, (hk : k < l.length) → l[k].hidden.length ≤ 2000000) (H : (sSlice sTok).R w [v] l fp) :
    Calls Try.prog 19 #[v, .int .i64 i] w (RetArgs (splitA l i) w) := by
  have HC := Lib.hid (spec_l1OwnTokenList_s v l fp w hl hx H)
  clear H hx
  go_enter Try.func19, Try.ntmps19
  go_wp2_with fail
  refine HC.out.mono ?_
  rintro e w1 ⟨v1, fp1, rfl, hR, hlo, hty, hB⟩
  have HV := Lib.hid (spec_TokensValid v1 l fp1 w1 hR)
  have HR1 := Lib.hid hR
  have HLO := Lib.hid hlo
  have HTY := Lib.hid hty
  obtain ⟨a1, c1, rfl, hc1, hm1, hrow⟩ := open_rows hR
  unfold maxLen at hm1
  clear HC hlo hty hR
  have hNo : ∀ (W : World), Below w.heap.size w W → splitA l i = ([], 0, false) → RetArgs (splitA l i) w (.returned (.tuple #[.slice (some ⟨W.heap.size, 0, none⟩) 0 0, .int .i64 0, .bool false])) (W.alloc (.cells #[] 30)) := fun W hW h => by
    rw [h]
    exact ⟨_, [], rfl, slice_empty sToks _ _ 0 (by simp), by simp, hW.alloc hW.size _⟩
  have HNO := Lib.hid hNo
  clear hNo
  cases hv : toksOk l
  · rw [hv] at HV
    have HF := Lib.hid (splitA_bad (a := i) hv)
    clear hv hrow
    go_wp2_with fail
    refine HV.out.mono ?_
    rintro e w2 ⟨rfl, hb2⟩
    have hbx := hB.trans (hb2.mono hB.size)
    go_wp2
    go_ret3
    exact HNO.out _ hbx HF.out
  have hl60 : l.length ≤ 60 := (toksOk_facts hv).1
  have HOKS := Lib.hid (toksOk_facts hv).2
  rw [hv] at HV
  have HVV := Lib.hid hv
  clear hv
  have hwr : IntKind.i64.wrap ((l.length : Int) - 1) = (l.length : Int) - 1 := IntWalk.i64_in _ (by omega)
  go_wp2_with fail
  refine HV.out.mono ?_
  rintro e w2 ⟨rfl, hb2⟩
  have hB2 := hB.trans (hb2.mono hB.size)
  by_cases hin : 0 ≤ i ∧ i < l.length
  rotate_left
  · have HF := Lib.hid (splitA_out hin)
    have e0 : (decide ((0 : Int) ≤ i) && decide (i ≤ (l.length : Int) - 1)) = false := by
      rw [Bool.and_eq_false_iff, decide_eq_false_iff_not, decide_eq_false_iff_not]
      omega
    have HIN := Lib.hid (spec_l1In i 0 ((l.length : Int) - 1) w2)
    rw [e0] at HIN
    clear hin e0 hrow
    go_wp2_with fail
    refine HIN.out.mono ?_
    rintro e w3 ⟨rfl, hb3⟩
    have hbx := hB2.trans (hb3.mono hB2.size)
    go_wp2
    go_ret3
    exact HNO.out _ hbx HF.out
  obtain ⟨n, rfl⟩ : ∃ n : Nat, i = (n : Int) := ⟨i.toNat, by omega⟩
  have hn : n < l.length := by omega
  have e0 : (decide ((0 : Int) ≤ (n : Int)) && decide ((n : Int) ≤ (l.length : Int) - 1)) = true := by
    rw [Bool.and_eq_true, decide_eq_true_eq, decide_eq_true_eq]
    omega
  have HIN := Lib.hid (spec_l1In n 0 ((l.length : Int) - 1) w2)
  rw [e0] at HIN
  clear hin e0
  go_wp2_with fail
  refine HIN.out.mono ?_
  rintro e w3 ⟨rfl, hb3⟩
  have hb13 := hb2.trans (hb3.mono hb2.size)
  obtain ⟨b1, off1, fps1, rfl, hb1, -, he1⟩ := hrow (by omega)
  obtain ⟨es1, hE1, hR1⟩ := he1 n hn
  clear hrow he1
  have hkok := HOKS.out n hn
  have hR2 := sTok.below hR1 hb13
  obtain ⟨h1', rfl, _, _, hK1⟩ := hR1
  obtain ⟨ah, ch, rfl, -⟩ := open_strs hK1
  clear hK1
  replace hE1 := hE1.frame (hb13.block b1 hb1)
  have c10 : w3.cell? ⟨b1, off1 + n * 4, none⟩ = some _ := elem_cell0 hE1 (by decide) rfl
  have c11 : w3.cell? ⟨b1, off1 + n * 4 + 1, none⟩ = some _ := elem_cell (j := 1) hE1 (by decide) rfl
  have c12 : w3.cell? ⟨b1, off1 + n * 4 + 2, none⟩ = some _ := elem_cell (j := 2) hE1 (by decide) rfl
  have c13 : w3.cell? ⟨b1, off1 + n * 4 + 3, none⟩ = some _ := elem_cell (j := 3) hE1 (by decide) rfl
  have HO : Hid (Calls Try.prog 46 #[.agg #[.int .i64 l[n].kind, .string l[n].text, .bool l[n].spaced, .slice ah l[n].hidden.length ch], .string ⟨#[40]⟩] w3 (Says (isOpen l[n]) w3)) := by rw [← is_open hkok]; exact spec_l7Is _ l[n] _ w3 40 hR2
  clear hE1 hR2 hkok
  have hB3 := hB2.trans (hb3.mono hB2.size)
  cases ho : isOpen l[n]
  · rw [ho] at HO
    have HF := Lib.hid (splitA_no hn ho)
    clear ho
    go_wp2_with fail
    refine HO.out.mono ?_
    rintro e w4 ⟨rfl, hb4⟩
    have hbx := hB3.trans (hb4.mono hB3.size)
    go_wp2
    go_ret3
    exact HNO.out _ hbx HF.out
  rw [ho] at HO
  have HF := Lib.hid (splitA_go HVV.out hn ho)
  have HSP := Lib.hid (fun W (hW : Below w1.heap.size w1 W) => spec_l7Split _ l fp1 n w.heap.size W (Nat.le_trans hB.size hW.size) hn ho HVV.out ((sSlice sTok).below HR1.out hW) HLO.out (HTY.out.below hW))
  generalize spGo (l.drop (n + 1)) 1 [] [] (n + 1) = r at HF HSP
  obtain ⟨ra, re, rb⟩ := r
  clear ho
  go_wp2_with fail
  refine HO.out.mono ?_
  rintro e w4 ⟨rfl, hb4⟩
  have hB4 := hB3.trans (hb4.mono hB3.size)
  clear c10 c11 c12 c13
  go_wp2_with fail
  refine (HSP.out _ (hb13.trans (hb4.mono hb13.size))).mono ?_
  rintro e w5 ⟨v5, A, rfl, hE, hD, hb5⟩
  have hB5 := hB4.trans (hb5.mono hB4.size)
  cases rb
  · go_wp2
    go_ret3
    exact HNO.out _ hB5 HF.out
  · obtain ⟨fpr, hr, hlo⟩ := hE.readLo
    rw [hD] at hr
    have HRR := Lib.hid hr
    have HLR := Lib.hid hlo
    clear hE hD hr hlo
    go_wp2
    go_ret3
    rw [HF.out]
    exact ⟨_, fpr, rfl, HRR.out, HLR.out, hB5⟩

end Go.Proofs.Ythbojipdhgidlaa
