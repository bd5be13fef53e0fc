/- Texts that the proof of U stands on, in one file. -/
import Derived.Test.YtgjjidjkpmmcoaaZU2
import Derived.Test.YtgjjidjkpmmcoaaZU3
import Derived.Deep.RegionHeld3
import Derived.Deep.QuietTactic
import Derived.BigQuiet
import Derived.Outline
import Derived.StillTailTactics
set_option linter.unusedVariables false
set_option linter.unusedSimpArgs false
/- Tokens and the law's own helpers. -/
namespace Go.Proofs.Ytgjjidjkpmmcoaa
open Go.RowKit

def mkToken (k : Int) (x : Tok) : Tok := ⟨k, mtext (k + 1), (k + 1 + 1) % 3 == 0, marks mtext (k + 1 + 1 + 1) x.hidden.length⟩
def cntToken (x : Tok) : Nat := 3 + x.hidden.length
def mkTokenS (k : Int) (l : List Tok) : List Tok := mkAll mkToken cntToken k l
def cntTokenS (l : List Tok) : Nat := cntAll cntToken l

set_option maxHeartbeats 1000000 in
theorem eqToken_same (cs1 cs2 : List Value) (x : Tok) (fp1 fp2 : List Nat) (w : World) (H1 : sTok.R w cs1 x fp1) (H2 : sTok.R w cs2 x fp2) :
    Calls Try.prog 11 #[.agg cs1.toArray, .agg cs2.toArray] w fun e w' => e = .returned (.bool true) ∧ Below w.heap.size w w' := by
  obtain ⟨h1, rfl, _, _, K1⟩ := H1
  obtain ⟨h2, rfl, _, _, K2⟩ := H2
  have b0 := alloc_below' w (.cells #[.int .i64 x.kind, .string x.text, .bool x.spaced, h1] 28)
  have b1 := b0.trans ((alloc_below' (w.alloc (.cells #[.int .i64 x.kind, .string x.text, .bool x.spaced, h1] 28)) (.cells #[.int .i64 x.kind, .string x.text, .bool x.spaced, h2] 28)).mono b0.size)
  have HC : Hid (∀ W, Below w.heap.size w W → Calls Try.prog 31 #[h1, h2] W fun e w' => e = .returned (.bool true) ∧ Below W.heap.size W w') := fun W hb => eqStringS_same h1 h2 x.hidden fp1 fp2 W ((sSlice sStr).below K1 hb) ((sSlice sStr).below K2 hb)
  have e1 : (x.kind != x.kind) = false := by simp
  have e2 := bytes_beq (rfl : x.text = x.text)
  have e3 : (x.spaced != x.spaced) = false := by simp
  go_enter Try.func11, Try.ntmps11
  go_wp2_with (go_at_call 31; refine (HC.out _ b1).mono ?_; rintro e w1 ⟨rfl, hb1⟩)
  go_ret
  exact ⟨rfl, b1.trans (hb1.mono b1.size)⟩

set_option maxHeartbeats 4000000 in
set_option maxRecDepth 100000 in
theorem eqTokenS_same (v1 v2 : Value) (l : List Tok) (fp1 fp2 : List Nat) (w : World) (H1 : (sSlice sTok).R w [v1] l fp1) (H2 : (sSlice sTok).R w [v2] l fp2) :
    Calls Try.prog 18 #[v1, v2] w fun e w' => e = .returned (.bool true) ∧ Below w.heap.size w w' := by
  obtain ⟨a1, cap1, rfl, hc1, hm1, hrow1⟩ := open_rows H1
  obtain ⟨a2, cap2, rfl, hc2, hm2, hrow2⟩ := open_rows H2
  unfold maxLen at hm1 hm2
  have hnb : ((l.length : Int) != (l.length : Int)) = false := by simp
  go_enter Try.func18, Try.ntmps18
  go_wp2
  go_loopw [5] (fun i wr => ∃ k : Nat, k ≤ l.length ∧ i = .int .i64 k ∧ Below w.heap.size w wr) (fun i _ => l.length - (intOf i).toNat)
  case atStart => exact ⟨0, by omega, rfl, Below.refl _ _⟩
  case round =>
    obtain ⟨k, hk, rfl, hb⟩ := hrel
    by_cases hlt : k < l.length
    · obtain ⟨b1, off1, fps1, rfl, hb1, rfl, he1⟩ := hrow1 (by omega)
      obtain ⟨b2, off2, fps2, rfl, hb2, rfl, he2⟩ := hrow2 (by omega)
      obtain ⟨es1, hE1, hR1⟩ := he1 k hlt
      obtain ⟨es2, hE2, hR2⟩ := he2 k hlt
      clear hrow1 hrow2 he1 he2 H1 H2
      have hR1' := hR1
      have hR2' := hR2
      obtain ⟨h1, rfl, _, _, K1⟩ := hR1'
      obtain ⟨h2, rfl, _, _, K2⟩ := hR2'
      have hE1' := hE1.frame (hb.block b1 hb1)
      have hE2' := hE2.frame (hb.block b2 hb2)
      have HC : Hid (∀ W, Below wr.heap.size wr W → Calls Try.prog 11 #[.agg #[.int .i64 l[k].kind, .string l[k].text, .bool l[k].spaced, h1], .agg #[.int .i64 l[k].kind, .string l[k].text, .bool l[k].spaced, h2]] W fun e w' => e = .returned (.bool true) ∧ Below W.heap.size W w') := fun W hW => eqToken_same _ _ l[k] _ _ W (sTok.below (sTok.below hR1 hb) hW) (sTok.below (sTok.below hR2 hb) hW)
      have c10 : wr.cell? ⟨b1, off1 + k * 4, none⟩ = some _ := elem_cell0 hE1' (by decide) rfl
      have c11 : wr.cell? ⟨b1, off1 + k * 4 + 1, none⟩ = some _ := elem_cell (j := 1) hE1' (by decide) rfl
      have c12 : wr.cell? ⟨b1, off1 + k * 4 + 2, none⟩ = some _ := elem_cell (j := 2) hE1' (by decide) rfl
      have c13 : wr.cell? ⟨b1, off1 + k * 4 + 3, none⟩ = some _ := elem_cell (j := 3) hE1' (by decide) rfl
      have c20 : wr.cell? ⟨b2, off2 + k * 4, none⟩ = some _ := elem_cell0 hE2' (by decide) rfl
      have c21 : wr.cell? ⟨b2, off2 + k * 4 + 1, none⟩ = some _ := elem_cell (j := 1) hE2' (by decide) rfl
      have c22 : wr.cell? ⟨b2, off2 + k * 4 + 2, none⟩ = some _ := elem_cell (j := 2) hE2' (by decide) rfl
      have c23 : wr.cell? ⟨b2, off2 + k * 4 + 3, none⟩ = some _ := elem_cell (j := 3) hE2' (by decide) rfl
      go_wp2_with fail
      go_still_tail 8, (by kernel_rfl)
      change wpList _ _ _ _ _ wr.drew
      have hd : Below wr.heap.size wr wr.drew := belowN (Below.refl _ _) 1
      generalize wr.drew = w2 at *
      go_wp2_with (go_at_call 11; refine (HC.out _ hd).mono ?_; rintro e w3 ⟨rfl, hb3⟩)
      go_roundw
      case rel => exact ⟨k + 1, by omega, by go_num, (hb.trans (hd.mono hb.size)).trans (hb3.mono (Nat.le_trans hb.size hd.size))⟩
      case measure => simp [intOf]; omega
    · go_wp2
      go_ret
      exact ⟨rfl, hb⟩

set_option maxHeartbeats 4000000 in
set_option maxRecDepth 100000 in
theorem markTokenS (v : Value) (l : List Tok) (fp : List Nat) (lo : Nat) (k : Int) (w : World) (h0 : 0 ≤ k) (h1 : k + cntTokenS l ≤ 2305843009213693952) (H : (sSlice sTok).R w [v] l fp) (O : Own w lo fp) :
    Calls Try.prog 19 #[v, .int .i64 k] w (Marked (sSlice sTok) v (mkTokenS k l) fp lo (k + cntTokenS l) w) := by
  have HI := Lib.hid H
  obtain ⟨a, cap, rfl, hc, hm, hrow0⟩ := open_rows H
  have hm' := hm
  unfold maxLen at hm
  clear H hrow0
  go_enter Try.func19, Try.ntmps19
  go_wp2
  go_loopw [1, 5] (fun t i wr => ∃ (j : Nat) (L : List Tok) (kk : Int), j ≤ l.length ∧ i = .int .i64 j ∧ t = .int .i64 kk ∧ Hid (kk = k + cntAll cntToken (l.take j)) ∧ Hid (MkUpto mkToken cntToken k l j L) ∧ Hid ((sSlice sTok).R wr [.slice a l.length cap] L fp) ∧ Own wr lo fp ∧ Kept fp w wr) (fun _ i _ => l.length - (intOf i).toNat)
  case atStart => exact ⟨0, l, k, by omega, rfl, rfl, by show _ = _; simp [cntAll], MkUpto.zero _ _, HI.out, O, Kept.refl _ _⟩
  case round =>
    obtain ⟨j, L, kk, hj, rfl, rfl, HKK, HM, HR, HO, HK⟩ := hrel
    by_cases hlt : j < l.length
    · obtain ⟨a', cap', hv, hc', hm'', hrow⟩ := open_rows HR.out
      have hLl := HM.out.len
      obtain ⟨b, off, fps, hab, hb, hfp, he⟩ := hrow (by omega)
      simp only [Value.slice.injEq] at hv
      obtain ⟨rfl, hv2, rfl⟩ := hv
      subst hab
      clear hv2
      rw [hLl] at hfp
      subst hfp
      obtain ⟨es, hE, hR⟩ := he j (by omega)
      rw [HM.out.at hlt] at hR
      have hle := cntAll_le (c := cntToken) l (j + 1)
      rw [cntAll_take hlt] at hle
      have hKb : (0 : Int) ≤ kk ∧ kk + 3 + l[j].hidden.length ≤ 2305843009213693952 := by
        have := HKK.out
        unfold cntTokenS at h1
        have hc3 : cntToken l[j] = 3 + l[j].hidden.length := rfl
        omega
      obtain ⟨hk0, hk1⟩ := hKb
      have HX := Lib.hid (HM.out.succ hlt)
      have HXK : Hid (kk + 3 + l[j].hidden.length = k + cntAll cntToken (l.take (j + 1))) := by
        show _ = _
        rw [cntAll_take hlt]
        have := HKK.out
        have hc3 : cntToken l[j] = 3 + l[j].hidden.length := rfl
        omega
      rw [← HKK.out] at HX
      obtain ⟨h3, rfl, _, _, K3⟩ := hR
      have hnd := HO.1
      have hap := flat_apart hnd hlt
      have hbm : b ∈ b :: (List.range l.length).flatMap fps := by simp
      have Hrow : Hid (∀ (w' : World) (d : Tok) (es' : List Value), Turned b (off + j * sTok.m) (off + j * sTok.m + sTok.m) (fps j) wr w' → ElemAt w' b off sTok.m j es' → sTok.R w' es' d (fps j) → (sSlice sTok).R w' [.slice (some ⟨b, off, none⟩) l.length cap] (L.set j d) (b :: (List.range l.length).flatMap fps)) :=
        fun w' d es' hT h1 h2 => row_turned hLl hc hm' hb he hlt hnd hT h1 h2
      clear he hrow hc' hm'' hle h1 hLl
      have hm4 : sTok.m = 4 := rfl
      rw [hm4] at hE
      have HW0 := Lib.hid (Wr.start (fpj := fps j) hE HO hb hbm hap.1)
      have c0 := HW0.out.cell0 (by decide) rfl
      have f0 := HW0.out.frozen (off + j * 4)
      go_wp2_with fail
      refine (markText _ _ (by omega)).mono ?_
      rintro e W2 ⟨rfl, hb2⟩
      have HW1 := Lib.hid ((HW0.out.set0 (by decide) (.int .i64 kk)).below hb2)
      have K31 := (sSlice sStr).below ((sSlice sStr).setB K3 hap.1 (off + j * 4) (.int .i64 kk)) hb2
      have c1 := HW1.out.cell 1 (by decide) rfl
      have f1 := HW1.out.frozen (off + j * 4 + 1)
      have HW2 := Lib.hid (HW1.out.set 1 (by decide) (.string (mtext (kk + 1))))
      have K32 := (sSlice sStr).setB K31 hap.1 (off + j * 4 + 1) (.string (mtext (kk + 1)))
      have c2 := HW2.out.cell 2 (by decide) rfl
      have f2 := HW2.out.frozen (off + j * 4 + 2)
      have HW3 := Lib.hid (HW2.out.set 2 (by decide) (.bool ((kk + 1 + 1) % 3 == 0)))
      have K33 := (sSlice sStr).setB K32 hap.1 (off + j * 4 + 2) (.bool ((kk + 1 + 1) % 3 == 0))
      have c3 := HW3.out.cell 3 (by decide) rfl
      have HN3 := Lib.hid (HW3.out.o.sub (flat_nodup hnd hlt) (flat_sub hlt))
      have HOK : Hid (okInt kk ∧ okStr (mtext (kk + 1))) := ⟨⟨by omega, by omega⟩, mtext_size (by omega)⟩
      clear c0 f0 hE hb2 K31 K32 HW1 HW0
      go_wp2_with fail
      refine (markStringS _ _ _ lo _ _ (by omega) (by omega) K33 HN3.out).mono ?_
      rintro e W5 ⟨rfl, R5, O5, hk5⟩
      have HW5 := Lib.hid (HW3.out.sub hk5 O5 (fun x hx => hx))
      clear hk5 c3 f1 f2 c1 c2 HW3 HW2 K33 HN3
      have HR5 := Lib.hid (Hrow.out W5 (mkToken kk l[j]) _ HW5.out.t HW5.out.e ⟨h3, rfl, HOK.out.1, HOK.out.2, R5⟩)
      have HK5 := Lib.hid (HK.trans (HW5.out.t.keptAll hlt))
      have HO5 := Lib.hid HW5.out.o
      have hk2 : kk + 1 + 1 + 1 + (l[j].hidden.length : Int) = kk + 3 + l[j].hidden.length := by omega
      clear Hrow HW5 R5 O5 HR HO HK hnd hap hb
      go_wp2
      go_roundw
      case rel => exact ⟨j + 1, _, _, by omega, by go_num, rfl, by show _ = _; have := HXK.out; omega, HX, HR5, HO5.out, HK5.out⟩
      case measure => simp [intOf]; omega
    · have HD := HM.out.done (by omega)
      have hjl : l.take j = l := List.take_of_length_le (by omega)
      have HKD := HKK.out
      rw [hjl] at HKD
      have HF := Lib.hid HKD
      have HRD := HR.out
      rw [HD] at HRD
      have HRF := Lib.hid HRD
      clear hjl HKD HRD HR HM HKK HD
      go_wp2
      go_ret
      exact ⟨by rw [HF.out]; rfl, HRF.out, HO, HK⟩

end Go.Proofs.Ytgjjidjkpmmcoaa

/- How many tokens there are: no program. -/
namespace Go.Proofs.Ytgjjidjkpmmcoaa
open Go.RowKit

theorem toks_all (s : ByteArray) : ∀ (k : Nat) (sp : Bool) (n : Nat) (l : List Tok), toks s k sp n = some l → n ≤ 60 → n + l.length ≤ 60 ∧ ∀ t ∈ l, t.hidden = [] := by
  intro k sp n
  induction k, sp, n using toks.induct (s := s) with
  | case1 k sp n hk h32 ih =>
    intro l h hn
    rw [toks, dif_pos hk, if_pos h32] at h
    exact ih l h hn
  | case2 k sp n hk h32 hb =>
    intro l h hn
    rw [toks, dif_pos hk, if_neg h32, if_pos hb] at h
    exact absurd h (by simp)
  | case3 k sp n hk h32 hb ih =>
    intro l h hn
    rw [toks, dif_pos hk, if_neg h32, if_neg hb] at h
    rw [Option.map_eq_some_iff] at h
    obtain ⟨l', h1, rfl⟩ := h
    obtain ⟨a, b⟩ := ih l' h1 (by omega)
    refine ⟨by simp only [List.length_cons]; omega, fun t ht => ?_⟩
    rcases List.mem_cons.1 ht with rfl | ht
    · rfl
    · exact b t ht
  | case4 k sp n hk =>
    intro l h hn
    rw [toks, dif_neg hk] at h
    simp only [Option.some.injEq] at h
    subst h; simp; exact hn
theorem tokRes_all (s : ByteArray) : (tokRes s).1.length ≤ 60 ∧ ∀ t ∈ (tokRes s).1, t.hidden = [] := by
  rcases hr : tokRes s with ⟨l, ok⟩
  cases ok
  · obtain rfl := tokRes_false hr
    simp
  · obtain ⟨h1, _⟩ := tokRes_true hr
    have := toks_all s 0 false 0 l h1 (by omega)
    exact ⟨by simpa using this.1, this.2⟩
theorem cntTokenS_plain : ∀ {l : List Tok}, (∀ t ∈ l, t.hidden = []) → cntTokenS l = 3 * l.length
  | [], _ => rfl
  | t :: l, h => by
    have ih := cntTokenS_plain (l := l) fun x hx => h x (by simp [hx])
    unfold cntTokenS cntAll at *
    rw [List.map_cons, List.sum_cons, ih]
    have : cntToken t = 3 := by unfold cntToken; rw [h t (by simp)]; rfl
    rw [this, List.length_cons]; omega
def TokensOf_Cnt (x : ByteArray) : Prop := cntTokenS (tokRes x).1 ≤ 180
theorem TokensOf_cnt (x : ByteArray) : TokensOf_Cnt x := by
  have h := tokRes_all x
  unfold TokensOf_Cnt
  rw [cntTokenS_plain h.2]; omega

end Go.Proofs.Ytgjjidjkpmmcoaa

/- What is printed is read again; tokens of a line are valid: no program. -/
namespace Go.Proofs.Ytgjjidjkpmmcoaa
open Go.RowKit

def bAt (s : ByteArray) (j : Nat) : Option UInt8 := if h : j < s.size then some s[j] else none
theorem bAt_lt {s : ByteArray} {j : Nat} (h : j < s.size) : bAt s j = some s[j] := by unfold bAt; rw [dif_pos h]
theorem bAt_ge {s : ByteArray} {j : Nat} (h : s.size ≤ j) : bAt s j = none := by unfold bAt; rw [dif_neg (by omega)]
theorem bAt_some {s : ByteArray} {j : Nat} {c : UInt8} (h : bAt s j = some c) : ∃ hj : j < s.size, s[j] = c := by
  by_cases hj : j < s.size
  · rw [bAt_lt hj, Option.some.injEq] at h; exact ⟨hj, h⟩
  · rw [bAt_ge (by omega)] at h; exact absurd h (by simp)
theorem bAt_left {s t : ByteArray} {j : Nat} (h : j < s.size) : bAt (s ++ t) j = bAt s j := by
  rw [bAt_lt (by rw [ByteArray.size_append]; omega), bAt_lt h, ByteArray.getElem_append_left h]
theorem bAt_right {s t : ByteArray} {i j : Nat} (h : i = s.size + j) : bAt (s ++ t) i = bAt t j := by
  subst h
  by_cases hj : j < t.size
  · rw [bAt_lt (by rw [ByteArray.size_append]; omega), bAt_lt hj, ByteArray.getElem_append_right (by omega)]
    congr 2; omega
  · rw [bAt_ge (by rw [ByteArray.size_append]; omega), bAt_ge (by omega)]
theorem bAt_ext {a b : ByteArray} (h : a.size = b.size) (h2 : ∀ j, j < a.size → bAt a j = bAt b j) : a = b := by
  apply ByteArray.ext
  apply Array.ext (by exact h)
  intro i h1 h3
  have h1' : i < a.size := h1
  have := h2 i h1'
  rw [bAt_lt h1', bAt_lt (h ▸ h1'), Option.some.injEq] at this
  simpa [ByteArray.getElem_eq_getElem_data] using this
theorem bAt_sub {s : ByteArray} {i e j : Nat} (he : e ≤ s.size) (h : j < e - i) : bAt (s.extract i e) j = bAt s (i + j) := by
  have hz : (s.extract i e).size = e - i := by rw [ByteArray.size_extract]; omega
  rw [bAt_lt (by omega), bAt_lt (by omega), ext_get]

/-- A byte that makes no token before it longer. -/
def stopB (c : UInt8) : Bool := !isWord c && decide (c ≠ 61) && decide (c ≠ 38) && decide (c ≠ 124) && decide (c ≠ 35)
theorem stopB_word {c : UInt8} (h : stopB c = true) : isWord c = false := by
  unfold stopB at h
  simp only [Bool.and_eq_true] at h
  simpa using h.1.1.1.1
/-- The byte behind a token does not make it longer. -/
def Ends (s' : ByteArray) (k' : Nat) (s : ByteArray) (k : Nat) : Prop := bAt s' k' = bAt s k ∨ ∀ c, bAt s' k' = some c → stopB c = true
theorem ends_space {s' : ByteArray} {k' : Nat} {s : ByteArray} {k : Nat} (h : bAt s' k' = some 32) : Ends s' k' s k := .inr fun c hc => by
  rw [h, Option.some.injEq] at hc; subst hc; decide
theorem ends_none {s' : ByteArray} {k' : Nat} {s : ByteArray} {k : Nat} (h : bAt s' k' = none) : Ends s' k' s k := .inr fun c hc => by
  rw [h] at hc; exact absurd hc (by simp)
theorem wEnd_same {s s' : ByteArray} : ∀ (d k k' : Nat), wEnd s k = k + d → (∀ j, j < d → bAt s' (k' + j) = bAt s (k + j)) → Ends s' (k' + d) s (k + d) → wEnd s' k' = k' + d
  | 0, k, k', h, _, hE => by
    have hstop : ∀ c, bAt s k = some c → isWord c = false := fun c hc => by
      obtain ⟨hk, rfl⟩ := bAt_some hc
      cases hw : isWord s[k]
      · rfl
      · rw [wEnd_in hk hw] at h
        have := (wEnd_bounds s (k + 1)).1
        omega
    by_cases hk' : k' < s'.size
    · rcases hE with h1 | h1
      · rw [Nat.add_zero, Nat.add_zero, bAt_lt hk'] at h1
        exact wEnd_stop hk' (hstop _ h1.symm)
      · exact wEnd_stop hk' (stopB_word (h1 _ (bAt_lt hk')))
    · exact wEnd_out (by omega)
  | d + 1, k, k', h, hb, hE => by
    have hk : k < s.size := by
      apply Nat.lt_of_not_le; intro hn
      rw [wEnd_out hn] at h; omega
    have hw : isWord s[k] = true := by
      cases hw : isWord s[k]
      · rw [wEnd_stop hk hw] at h; omega
      · rfl
    rw [wEnd_in hk hw] at h
    have h0 := hb 0 (by omega)
    rw [Nat.add_zero, Nat.add_zero, bAt_lt hk] at h0
    obtain ⟨hk', he⟩ := bAt_some h0
    rw [wEnd_in hk' (by rw [he]; exact hw)]
    have e1 : k' + (d + 1) = k' + 1 + d := by omega
    have e2 : k + (d + 1) = k + 1 + d := by omega
    rw [e1]
    refine wEnd_same (s := s) (s' := s') d (k + 1) (k' + 1) (by omega) (fun j hj => ?_) (by rw [← e1, ← e2]; exact hE)
    have := hb (j + 1) (by omega)
    rwa [show k' + (j + 1) = k' + 1 + j by omega, show k + (j + 1) = k + 1 + j by omega] at this
theorem tClose_same {s s' : ByteArray} (d : Nat) : ∀ (k k' : Nat), tClose s k = some (k + d) → (∀ j, j < d → bAt s' (k' + j) = bAt s (k + j)) → tClose s' k' = some (k' + d) := by
  induction d using Nat.strongRecOn with
  | ind d ih =>
    intro k k' h hb
    have hs := tClose_some h
    have hk : k < s.size := by omega
    have h0 := hb 0 (by omega)
    rw [Nat.add_zero, Nat.add_zero, bAt_lt hk] at h0
    obtain ⟨hk', he⟩ := bAt_some h0
    by_cases h34 : s[k].toNat = 34
    · rw [tClose_quote hk h34, Option.some.injEq] at h
      rw [tClose_quote hk' (by rw [he]; exact h34)]
      congr 1; omega
    · by_cases h92 : s[k].toNat = 92
      · rw [tClose_back hk h92] at h
        have hs2 := tClose_some h
        rw [tClose_back hk' (by rw [he]; exact h92)]
        have := ih (d - 2) (by omega) (k + 2) (k' + 2) (by rw [h]; congr 1; omega) (fun j hj => by
          have := hb (j + 2) (by omega)
          rwa [show k' + (j + 2) = k' + 2 + j by omega, show k + (j + 2) = k + 2 + j by omega] at this)
        rw [this]; congr 1; omega
      · rw [tClose_else hk h34 h92] at h
        have hs2 := tClose_some h
        rw [tClose_else hk' (by rw [he]; exact h34) (by rw [he]; exact h92)]
        have := ih (d - 1) (by omega) (k + 1) (k' + 1) (by rw [h]; congr 1; omega) (fun j hj => by
          have := hb (j + 1) (by omega)
          rwa [show k' + (j + 1) = k' + 1 + j by omega, show k + (j + 1) = k + 1 + j by omega] at this)
        rw [this]; congr 1; omega
theorem two_bAt (s : ByteArray) (k : Nat) (a b : UInt8) : two s k a b = (decide (bAt s k = some a) && decide (bAt s (k + 1) = some b)) := by
  have hd : ∀ j, s.data.toList[j]? = bAt s j := fun j => by
    by_cases hj : j < s.size
    · rw [bAt_lt hj, List.getElem?_eq_getElem (by simpa using hj)]; simp [ByteArray.getElem_eq_getElem_data]
    · rw [bAt_ge (by omega), List.getElem?_eq_none (by simpa using hj)]
  have hx : ∀ L : List UInt8, [a, b].isPrefixOf L = (decide (L[0]? = some a) && decide (L[1]? = some b)) := fun L => by
    match L with
    | [] => simp [List.isPrefixOf]
    | [x] => simp [List.isPrefixOf]
    | x :: y :: L =>
      have e : ∀ u v : UInt8, (u == v) = decide (v = u) := fun u v => by
        by_cases h : v = u
        · subst h; simp
        · have h' : ¬ u = v := fun e => h e.symm
          simp [h, h']
      simp [List.isPrefixOf, e]
  unfold two
  rw [hx, List.getElem?_drop, List.getElem?_drop, hd, hd, Nat.add_zero]
theorem twoAt_same {s s' : ByteArray} {k k' : Nat} (h0 : bAt s' k' = bAt s k) (h1 : bAt s' (k' + 1) = bAt s (k + 1)) : twoAt s' k' = twoAt s k := by
  unfold twoAt; simp only [two_bAt, h0, h1]
theorem twoAt_no {s : ByteArray} {k : Nat} (h : ∀ c, bAt s (k + 1) = some c → stopB c = true) : twoAt s k = false := by
  unfold twoAt; simp only [two_bAt]
  cases hb : bAt s (k + 1) with
  | none => simp
  | some c =>
    have := h c hb
    unfold stopB at this
    simp only [Bool.and_eq_true, decide_eq_true_eq] at this
    obtain ⟨⟨⟨⟨_, h1⟩, h2⟩, h3⟩, h4⟩ := this
    simp [h1, h2, h3, h4]
theorem mLen_same {s s' : ByteArray} {k k' d : Nat} (h : mLen s k = d) (h0 : d ≠ 0) (hb : ∀ j, j < d → bAt s' (k' + j) = bAt s (k + j)) (hE : Ends s' (k' + d) s (k + d)) : mLen s' k' = d := by
  have b0 := hb 0 (by omega)
  rw [Nat.add_zero, Nat.add_zero] at b0
  cases ht : twoAt s k
  · have hk : k < s.size := by
      apply Nat.lt_of_not_le; intro hn
      unfold mLen at h; rw [if_neg (by simp [ht]), dif_neg (by omega)] at h; omega
    unfold mLen at h
    rw [if_neg (by simp [ht]), dif_pos hk] at h
    have hm : s[k] ∈ marks1 := by
      apply Classical.byContradiction; intro hn
      rw [if_neg hn] at h; omega
    rw [if_pos hm] at h
    subst h
    have ht' : twoAt s' k' = false := by
      rcases hE with h1 | h1
      · rw [twoAt_same b0 h1, ht]
      · exact twoAt_no h1
    rw [bAt_lt hk] at b0
    obtain ⟨hk', he⟩ := bAt_some b0
    unfold mLen
    rw [if_neg (by simp [ht']), dif_pos hk', if_pos (by rw [he]; exact hm)]
  · unfold mLen at h
    rw [if_pos ht] at h
    subst h
    have b1 := hb 1 (by omega)
    unfold mLen
    rw [if_pos (by rw [twoAt_same b0 b1]; exact ht)]
/-- Where a token ends depends on no byte but those of it and the next one. -/
theorem cut_same {s s' : ByteArray} {k k' d : Nat} (h : cutEnd s k = (k + d : Nat)) (hb : ∀ j, j < d → bAt s' (k' + j) = bAt s (k + j)) (hE : Ends s' (k' + d) s (k + d)) : cutEnd s' k' = (k' + d : Nat) := by
  have hr := cutEnd_room (s := s) (k := k) (by omega)
  have hk : k < s.size := hr.2.2
  have hd0 : 0 < d := by omega
  have b0 := hb 0 (by omega)
  rw [Nat.add_zero, Nat.add_zero, bAt_lt hk] at b0
  obtain ⟨hk', he⟩ := bAt_some b0
  cases hw : isWord s[k]
  · by_cases hq : s[k].toNat = 34
    · rw [cutEnd_text hk hw hq] at h
      cases hc : tClose s (k + 1) with
      | none => rw [hc] at h; simp only at h; omega
      | some e =>
        rw [hc] at h
        replace h : (e : Int) = (k + d : Nat) := h
        have := tClose_same (s := s) (s' := s') (d - 1) (k + 1) (k' + 1) (by rw [hc]; congr 1; omega) (fun j hj => by
          have := hb (j + 1) (by omega)
          rwa [show k' + (j + 1) = k' + 1 + j by omega, show k + (j + 1) = k + 1 + j by omega] at this)
        rw [cutEnd_text hk' (by rw [he]; exact hw) (by rw [he]; exact hq), this]
        simp only; omega
    · rw [cutEnd_mark hk hw hq] at h
      split at h
      · omega
      · rename_i h0
        have := mLen_same (s := s) (s' := s') (k := k) (k' := k') (d := d) (by omega) (by omega) hb hE
        rw [cutEnd_mark hk' (by rw [he]; exact hw) (by rw [he]; exact hq), this, if_neg (by omega)]
  · rw [cutEnd_word hk hw] at h
    split at h
    · omega
    · rename_i h0
      have := wEnd_same (s := s) (s' := s') d k k' (by omega) hb hE
      rw [cutEnd_word hk' (by rw [he]; exact hw), this, if_neg (by omega)]

theorem first_cut {z : ByteArray} {t : Tok} {ts : List Tok} (h : toks z 0 false 0 = some (t :: ts)) (h0 : 0 < z.size) (h32 : ¬ z[0].toNat = 32) : cutEnd z 0 = (t.text.size : Nat) := by
  rw [toks, dif_pos h0, if_neg h32] at h
  split at h
  · simp at h
  · rename_i hb
    rw [Option.map_eq_some_iff] at h
    obtain ⟨l', _, h2⟩ := h
    simp only [List.cons.injEq] at h2
    have hr := cutEnd_room (s := z) (k := 0) (by omega)
    rw [← h2.1]
    show _ = ((z.extract 0 (cutEnd z 0).toNat).size : Int)
    rw [ByteArray.size_extract]; omega
/-- A valid token's text runs to its own end. -/
theorem tokOk_cut {t : Tok} (h : tokOk t = true) : ∃ h0 : 0 < t.text.size, t.text[0].toNat ≠ 32 ∧ cutEnd t.text 0 = (t.text.size : Nat) ∧ lineOk t.text = true := by
  unfold tokOk at h
  rw [Bool.and_eq_true] at h
  obtain ⟨u, hr, _, hx⟩ := oneTok_res h.1
  obtain ⟨h1, _⟩ := tokRes_head t.text u (by rw [hr]; simp)
  obtain ⟨h2, h3⟩ := tokRes_true hr
  have h0 : 0 < t.text.size := by rw [← hx]; exact h1
  have h32 : ¬ t.text[0].toNat = 32 := by
    intro h32
    rw [toks, dif_pos h0, if_pos h32] at h2
    have := toks_fit t.text 1 true 0 _ h2 (by omega) u (by simp)
    rw [hx] at this
    omega
  refine ⟨h0, h32, ?_, h3⟩
  have := first_cut h2 h0 h32
  rw [hx] at this
  exact this
/-- .. and, if no space is needed, not into the next one's. -/
theorem glued_cut {a b : Tok} (ha : tokOk a = true) (hg : glued a.text b.text = false) : cutEnd (a.text ++ b.text) 0 = (a.text.size : Nat) := by
  obtain ⟨h0, h32, _, _⟩ := tokOk_cut ha
  unfold glued at hg
  rw [Bool.or_eq_false_iff] at hg
  have h1 : readsTwo a.text b.text = true := by simpa using hg.1
  unfold readsTwo at h1
  rw [Bool.and_eq_true, decide_eq_true_eq] at h1
  obtain ⟨h2, h3⟩ := h1
  rcases hr : tokRes (a.text ++ b.text) with ⟨l, ok⟩
  rw [hr] at h2 h3
  simp only at h2 h3
  subst h2
  match l, h3 with
  | t :: ts, h3 =>
    simp only [List.map_cons, List.cons.injEq] at h3
    have hz : 0 < (a.text ++ b.text).size := by rw [ByteArray.size_append]; omega
    have := first_cut (tokRes_true hr).1 hz (by rw [ByteArray.getElem_append_left h0]; exact h32)
    rw [h3.1] at this
    exact this

theorem prTo_mono (l : List Tok) (i : Nat) : ∀ m p, p < (prTo l i).size → bAt (prTo l (i + m)) p = bAt (prTo l i) p
  | 0, p, _ => rfl
  | m + 1, p, h => by
    have ih := prTo_mono l i m p h
    have hp : p < (prTo l (i + m)).size := by
      rw [bAt_lt h] at ih
      exact (bAt_some ih).1
    rw [← ih, ← Nat.add_assoc]
    show bAt ((if gap l (i + m) = true then prTo l (i + m) ++ ⟨#[32]⟩ else prTo l (i + m)) ++ _) p = _
    split
    · rw [bAt_left (by rw [ByteArray.size_append]; omega), bAt_left hp]
    · rw [bAt_left hp]

/-- Where the token i begins. -/
def posOf (l : List Tok) (i : Nat) : Nat := (prTo l i).size + (if gap l i = true then 1 else 0)
theorem one32 : (⟨#[32]⟩ : ByteArray).size = 1 := rfl
theorem pos_end {l : List Tok} {i : Nat} (hi : i < l.length) : (prTo l (i + 1)).size = posOf l i + l[i].text.size := by
  unfold posOf
  cases hg : gap l i
  · rw [prTo_no hi hg, ByteArray.size_append, if_neg (by simp)]; omega
  · rw [prTo_yes hi hg, ByteArray.size_append, ByteArray.size_append, one32, if_pos rfl]
theorem pos_text {l : List Tok} {i : Nat} (hi : i < l.length) {m : Nat} (hm : i + 1 ≤ m) {j : Nat} (hj : j < l[i].text.size) : bAt (prTo l m) (posOf l i + j) = bAt l[i].text j := by
  obtain ⟨r, rfl⟩ := Nat.exists_eq_add_of_le hm
  rw [prTo_mono l (i + 1) r _ (by rw [pos_end hi]; omega)]
  unfold posOf
  cases hg : gap l i
  · rw [prTo_no hi hg, if_neg (by simp)]
    exact bAt_right (by omega)
  · rw [prTo_yes hi hg, if_pos rfl]
    exact bAt_right (by rw [ByteArray.size_append, one32])
theorem pos_gap {l : List Tok} {i : Nat} (hi : i < l.length) {m : Nat} (hm : i + 1 ≤ m) (hg : gap l i = true) : bAt (prTo l m) (prTo l i).size = some 32 := by
  obtain ⟨r, rfl⟩ := Nat.exists_eq_add_of_le hm
  have hs := pos_end hi
  unfold posOf at hs
  rw [if_pos hg] at hs
  rw [prTo_mono l (i + 1) r _ (by omega), prTo_yes hi hg, bAt_left (by rw [ByteArray.size_append, one32]; omega), bAt_right (i := (prTo l i).size) (j := 0) (by omega)]
  rfl
/-- Each token is cut out of the printed line again. -/
theorem pos_cut {l : List Tok} (h : toksOk l = true) {i : Nat} (hi : i < l.length) : cutEnd (prTo l l.length) (posOf l i) = (posOf l i + l[i].text.size : Nat) := by
  obtain ⟨h0, _, hc, _⟩ := tokOk_cut ((toksOk_facts h).2 i hi)
  by_cases hn : i + 1 < l.length
  · cases hg : gap l (i + 1)
    · have hgl : glued l[i].text l[i + 1].text = false := by
        unfold gap at hg
        rw [dif_pos ⟨by omega, hn⟩, Bool.or_eq_false_iff] at hg
        exact hg.2
      have hc2 := glued_cut ((toksOk_facts h).2 i hi) hgl
      refine cut_same (s := l[i].text ++ l[i + 1].text) (k := 0) (by rw [hc2]; omega) (fun j hj => ?_) (.inl ?_)
      · rw [pos_text hi (by omega) hj, Nat.zero_add, bAt_left hj]
      · obtain ⟨h1, _⟩ := tokOk_cut ((toksOk_facts h).2 (i + 1) hn)
        have e : posOf l i + l[i].text.size = posOf l (i + 1) + 0 := by
          have := pos_end hi
          show _ = (prTo l (i + 1)).size + _ + 0
          rw [if_neg (by simp [hg]), this]
          rfl
        rw [e, pos_text hn (by omega) h1, Nat.zero_add, bAt_right (j := 0) (by omega)]
    · refine cut_same (s := l[i].text) (k := 0) (by rw [hc]; omega) (fun j hj => ?_) (ends_space ?_)
      · rw [pos_text hi (by omega) hj, Nat.zero_add]
      · rw [← pos_end hi]
        exact pos_gap hn (by omega) hg
  · refine cut_same (s := l[i].text) (k := 0) (by rw [hc]; omega) (fun j hj => ?_) (ends_none ?_)
    · rw [pos_text hi (by omega) hj, Nat.zero_add]
    · rw [← pos_end hi]
      have e : i + 1 = l.length := by omega
      rw [e]
      exact bAt_ge (Nat.le_refl _)
/-- The tokens as they are read back: a gap is a space before them. -/
def readBack (l : List Tok) : List Tok := l.mapIdx fun i t => ⟨t.kind, t.text, gap l i, []⟩
theorem readBack_len (l : List Tok) : (readBack l).length = l.length := by simp [readBack]
theorem readBack_get (l : List Tok) (i : Nat) (h : i < (readBack l).length) : (readBack l)[i] = ⟨(l[i]'(by rw [readBack_len] at h; exact h)).kind, (l[i]'(by rw [readBack_len] at h; exact h)).text, gap l i, []⟩ := by simp [readBack]
theorem readBack_keys (l : List Tok) : (readBack l).map tKey = l.map tKey := by
  refine List.ext_getElem (by simp [readBack]) fun i h1 h2 => ?_
  simp [readBack, tKey]
theorem pos_all {l : List Tok} (h : toksOk l = true) : ∀ i, i ≤ l.length → AtT (prTo l l.length) (prTo l i).size false ((readBack l).take i)
  | 0, _ => AtT.zero _
  | i + 1, hi => by
    have hA := pos_all h i (by omega)
    have hi' : i < l.length := by omega
    obtain ⟨h0, h32, hc, _⟩ := tokOk_cut ((toksOk_facts h).2 i hi')
    have hh := (tokOk_facts ((toksOk_facts h).2 i hi')).1
    have hcut := pos_cut h hi'
    have hfirst := pos_text hi' (m := l.length) (by omega) h0
    rw [Nat.add_zero, bAt_lt h0] at hfirst
    obtain ⟨hp, hpe⟩ := bAt_some hfirst
    have hA' : AtT (prTo l l.length) (posOf l i) (gap l i) ((readBack l).take i) := by
      unfold posOf
      cases hg : gap l i
      · rw [if_neg (by simp)]; exact hA
      · have hb := pos_gap hi' (m := l.length) (by omega) hg
        obtain ⟨hb1, hb2⟩ := bAt_some hb
        rw [if_pos rfl]; exact hA.space hb1 (by rw [hb2]; rfl)
    have hol : ((readBack l).take i).length = i := by rw [List.length_take, readBack_len]; omega
    have hlen := (toksOk_facts h).1
    have hT := hA'.tok hp (by rw [hpe]; exact h32) hcut (by omega)
    have hx : (prTo l l.length).extract (posOf l i) (posOf l i + l[i].text.size) = l[i].text := by
      have hr := cutEnd_room (s := prTo l l.length) (k := posOf l i) (by rw [hcut]; omega)
      rw [hcut] at hr
      have hz : ((prTo l l.length).extract (posOf l i) (posOf l i + l[i].text.size)).size = l[i].text.size := by rw [ByteArray.size_extract]; omega
      refine bAt_ext hz fun j hj => ?_
      rw [bAt_sub (by omega) (by omega)]
      exact pos_text hi' (by omega) (by omega)
    have hir : i < (readBack l).length := by rw [readBack_len]; exact hi'
    obtain ⟨_, hkind⟩ := hh
    have e : (⟨cutKind (prTo l l.length)[posOf l i], (prTo l l.length).extract (posOf l i) (posOf l i + l[i].text.size), gap l i, []⟩ : Tok) = (readBack l)[i] := by
      rw [readBack_get, hx, hpe, ← hkind]
    rw [e, ← List.take_succ_eq_append_getElem hir] at hT
    rw [pos_end hi']
    exact hT

def AllOk (s : ByteArray) : Prop := ∀ j c, bAt s j = some c → okByte c = true
theorem AllOk.app {a b : ByteArray} (ha : AllOk a) (hb : AllOk b) : AllOk (a ++ b) := fun j c h => by
  by_cases hj : j < a.size
  · rw [bAt_left hj] at h; exact ha j c h
  · rw [bAt_right (j := j - a.size) (by omega)] at h; exact hb _ c h
theorem AllOk.of {s : ByteArray} (h : lineOk s = true) : AllOk s := fun j c hc => by
  obtain ⟨hj, rfl⟩ := bAt_some hc
  unfold lineOk at h
  rw [Bool.and_eq_true, List.all_eq_true] at h
  exact h.2 _ (by simp [ByteArray.getElem_eq_getElem_data])
theorem AllOk.line {s : ByteArray} (h : AllOk s) (hs : s.size ≤ 200) : lineOk s = true := by
  rw [lineOk_yes (k := s.size) (fun j hj _ => h j _ (bAt_lt hj)) (Nat.le_refl _)]
  exact decide_eq_true hs
theorem prTo_ok {l : List Tok} (h : toksOk l = true) : ∀ k, k ≤ l.length → AllOk (prTo l k)
  | 0, _ => fun j c hc => by
    obtain ⟨hj, _⟩ := bAt_some hc
    exact absurd hj (by show ¬ j < 0; omega)
  | k + 1, hk => by
    have ih := prTo_ok h k (by omega)
    have hx := AllOk.of (tokOk_cut ((toksOk_facts h).2 k (by omega))).2.2.2
    have h32 : AllOk ⟨#[32]⟩ := fun j c hc => by
      obtain ⟨hj, rfl⟩ := bAt_some hc
      have : j = 0 := by have : j < 1 := hj; omega
      subst this
      show okByte 32 = true
      decide
    cases hg : gap l k
    · rw [prTo_no (by omega) hg]; exact ih.app hx
    · rw [prTo_yes (by omega) hg]; exact (ih.app h32).app hx
/-- What is printed is read again. -/
theorem print_back {l : List Tok} (hv : toksOk l = true) (hl : (prTo l l.length).size ≤ 200) : tokRes (prTo l l.length) = (readBack l, true) := by
  have hA := pos_all hv l.length (Nat.le_refl _)
  rw [List.take_of_length_le (by rw [readBack_len]; exact Nat.le_refl _)] at hA
  exact tokRes_some ((prTo_ok hv _ (Nat.le_refl _)).line hl) (hA.done (Nat.le_refl _))
/-- .. the same kinds and texts, in order. -/
theorem print_reads {l : List Tok} {x : ByteArray} (h : printRes l = (x, true)) : ∃ out, tokRes x = (out, true) ∧ sameTx out l = true := by
  have hv : toksOk l = true := by
    cases hv : toksOk l
    · rw [printRes_no hv] at h; simp at h
    · rfl
  by_cases hl : 200 < (prTo l l.length).size
  · rw [printRes_long hv rfl hl] at h; simp at h
  · rw [printRes_yes hv rfl hl] at h
    simp only [Prod.mk.injEq, and_true] at h
    subst h
    refine ⟨_, print_back hv (by omega), ?_⟩
    unfold sameTx
    rw [readBack_keys]; simp

/-- A token that is cut out of a line is one by itself. -/
theorem sub_tok {s : ByteArray} (hs : lineOk s = true) {k e : Nat} (hk : k < s.size) (h32 : ¬ s[k].toNat = 32) (hc : cutEnd s k = (e : Nat)) (sp : Bool) : tokOk ⟨cutKind s[k], s.extract k e, sp, []⟩ = true := by
  have hr := cutEnd_room (s := s) (k := k) (by omega)
  have hz : (s.extract k e).size = e - k := by rw [ByteArray.size_extract]; omega
  have hb : ∀ j, j < e - k → bAt (s.extract k e) (0 + j) = bAt s (k + j) := fun j hj => by rw [Nat.zero_add]; exact bAt_sub (by omega) hj
  have hcx := cut_same (s' := s.extract k e) (k' := 0) (d := e - k) (by rw [hc]; omega) hb (ends_none (bAt_ge (by omega)))
  have h0 : 0 < (s.extract k e).size := by omega
  have hf : (s.extract k e)[0] = s[k] := ext_get s k e 0 h0
  have hl : lineOk (s.extract k e) = true := by
    refine AllOk.line (fun j c hj => ?_) (by have := lineOk_size hs; omega)
    obtain ⟨h1, _⟩ := bAt_some hj
    rw [bAt_sub (by omega) (by omega)] at hj
    exact AllOk.of hs _ c hj
  have ht : toks (s.extract k e) 0 false 0 = some [⟨cutKind s[k], s.extract k e, false, []⟩] := by
    have hzz : ((s.extract k e).extract 0 (e - k)).size = (s.extract k e).size := by rw [ByteArray.size_extract]; omega
    have hx : (s.extract k e).extract 0 (e - k) = s.extract k e := bAt_ext hzz fun j hj => by
      rw [bAt_sub (by omega) (by omega), Nat.zero_add]
    rw [toks, dif_pos h0, if_neg (by rw [hf]; exact h32), hcx, if_neg (by omega), Nat.zero_add, Int.toNat_natCast, Nat.max_eq_right (by omega), toks, dif_neg (by omega), hf, hx]
    rfl
  have hr := tokRes_some hl ht
  unfold tokOk
  rw [Bool.and_eq_true]
  refine ⟨?_, by show hidOk [] = true; decide⟩
  show oneTok (s.extract k e) (cutKind s[k]) = true
  simp [oneTok, hr]
theorem toks_valid {s : ByteArray} (hs : lineOk s = true) : ∀ (k : Nat) (sp : Bool) (n : Nat) (l : List Tok), toks s k sp n = some l → ∀ t ∈ l, tokOk t = true := by
  intro k sp n
  induction k, sp, n using toks.induct (s := s) with
  | case1 k sp n hk h32 ih =>
    intro l h
    rw [toks, dif_pos hk, if_pos h32] at h
    exact ih l h
  | case2 k sp n hk h32 hb =>
    intro l h
    rw [toks, dif_pos hk, if_neg h32, if_pos hb] at h
    exact absurd h (by simp)
  | case3 k sp n hk h32 hb ih =>
    intro l h t ht
    rw [toks, dif_pos hk, if_neg h32, if_neg hb] at h
    have hr := cutEnd_room (s := s) (k := k) (by omega)
    rw [Option.map_eq_some_iff] at h
    obtain ⟨l', h1, rfl⟩ := h
    rcases List.mem_cons.1 ht with rfl | ht
    · exact sub_tok hs hk h32 (by omega) sp
    · exact ih l' h1 t ht
  | case4 k sp n hk =>
    intro l h
    rw [toks, dif_neg hk] at h
    simp only [Option.some.injEq] at h
    subst h; simp
/-- Tokens of a line are valid. -/
theorem tokRes_valid {s : ByteArray} {l : List Tok} (h : tokRes s = (l, true)) : toksOk l = true := by
  obtain ⟨h1, h2⟩ := tokRes_true h
  have h3 := (tokRes_all s).1
  rw [h] at h3
  unfold toksOk
  rw [Bool.and_eq_true, decide_eq_true_eq, List.all_eq_true]
  exact ⟨h3, fun t ht => toks_valid h2 0 false 0 l h1 t ht⟩

end Go.Proofs.Ytgjjidjkpmmcoaa

/- Texts of tokens: no program. -/
namespace Go.Proofs.Ytgjjidjkpmmcoaa
open Go.RowKit

def bs (s : ByteArray) : List UInt8 := s.data.toList
theorem bs_len (s : ByteArray) : (bs s).length = s.size := rfl
theorem bs_app (a b : ByteArray) : bs (a ++ b) = bs a ++ bs b := by simp [bs]
theorem bs_ext {a b : ByteArray} (h : bs a = bs b) : a = b := ByteArray.ext (Array.ext' h)
theorem bs_get {s : ByteArray} {k : Nat} (h : k < s.size) : (bs s)[k]'(by rw [bs_len]; exact h) = s[k] := by simp [bs, ByteArray.getElem_eq_getElem_data]
theorem bs_at {s : ByteArray} {k : Nat} {c : UInt8} {r : List UInt8} (h : (bs s).drop k = c :: r) : ∃ hk : k < s.size, s[k] = c ∧ (bs s).drop (k + 1) = r := by
  have hk : k < s.size := by
    apply Nat.lt_of_not_le; intro hn
    rw [List.drop_eq_nil_of_le (by rw [bs_len]; exact hn)] at h
    exact absurd h (by simp)
  rw [List.drop_eq_getElem_cons (by rw [bs_len]; exact hk), List.cons.injEq, bs_get hk] at h
  exact ⟨hk, h⟩
theorem ex_one {s : ByteArray} {k : Nat} (h : k < s.size) : s.extract k (k + 1) = ⟨#[s[k]]⟩ := by
  have hz : (s.extract k (k + 1)).size = 1 := by rw [ByteArray.size_extract]; omega
  refine bAt_ext (by rw [hz]; rfl) fun j hj => ?_
  obtain rfl : j = 0 := by omega
  rw [bAt_sub (by omega) (by omega), Nat.add_zero, bAt_lt h]; rfl

/-- A text with backslashes, and what it stands for. -/
inductive Esc : List UInt8 → List UInt8 → Prop
  | nil : Esc [] []
  | back (c : UInt8) {a b : List UInt8} : Esc a b → Esc (92 :: c :: a) (c :: b)
  | byte {c : UInt8} {a b : List UInt8} : c.toNat ≠ 34 → c.toNat ≠ 92 → Esc a b → Esc (c :: a) (c :: b)
theorem Esc.app {a b c d : List UInt8} (h : Esc a b) (h2 : Esc c d) : Esc (a ++ c) (b ++ d) := by
  induction h with
  | nil => exact h2
  | back c _ ih => exact .back c ih
  | byte h1 h3 _ ih => exact .byte h1 h3 ih
theorem Esc.plain {a : List UInt8} (h : ∀ c ∈ a, c.toNat ≠ 34 ∧ c.toNat ≠ 92) : Esc a a := by
  induction a with
  | nil => exact .nil
  | cons c a ih => exact .byte (h c (by simp)).1 (h c (by simp)).2 (ih fun d hd => h d (by simp [hd]))

/-- What a text stands for, from the place k on. -/
def outTo (s : ByteArray) (k : Nat) : ByteArray :=
  if h : k + 1 < s.size then (if s[k].toNat = 92 then s.extract (k + 1) (k + 2) ++ outTo s (k + 2) else s.extract k (k + 1) ++ outTo s (k + 1)) else ⟨#[]⟩
termination_by s.size - k
theorem outTo_back {s : ByteArray} {k : Nat} (h : k + 1 < s.size) (hc : s[k].toNat = 92) : outTo s k = s.extract (k + 1) (k + 2) ++ outTo s (k + 2) := by rw [outTo, dif_pos h, if_pos hc]
theorem outTo_else {s : ByteArray} {k : Nat} (h : k + 1 < s.size) (hc : ¬ s[k].toNat = 92) : outTo s k = s.extract k (k + 1) ++ outTo s (k + 1) := by rw [outTo, dif_pos h, if_neg hc]
theorem outTo_end {s : ByteArray} {k : Nat} (h : s.size ≤ k + 1) : outTo s k = ⟨#[]⟩ := by rw [outTo, dif_neg (by omega)]
theorem emp_size : (⟨#[]⟩ : ByteArray).size = 0 := rfl
theorem outTo_size (s : ByteArray) (k : Nat) : (outTo s k).size ≤ s.size - 1 - k := by
  induction k using outTo.induct (s := s) with
  | case1 k h hc ih =>
    rw [outTo_back h hc, ByteArray.size_append, ByteArray.size_extract]
    by_cases h2 : k + 2 < s.size
    · omega
    · rw [outTo_end (by omega), emp_size]; omega
  | case2 k h hc ih => rw [outTo_else h hc, ByteArray.size_append, ByteArray.size_extract]; omega
  | case3 k h => rw [outTo_end (by omega)]; exact Nat.zero_le _
theorem esc_scan {a b : List UInt8} (h : Esc a b) : ∀ {s : ByteArray} {k : Nat}, (bs s).drop k = a ++ [34] → tClose s k = some s.size ∧ bs (outTo s k) = b := by
  induction h with
  | nil =>
    intro s k hd
    obtain ⟨hk, hc, hr⟩ := bs_at hd
    have hz : s.size ≤ k + 1 := by rw [List.drop_eq_nil_iff, bs_len] at hr; exact hr
    refine ⟨?_, by rw [outTo_end hz]; rfl⟩
    rw [tClose_quote hk (by rw [hc]; rfl)]; congr 1; omega
  | @back c a b _ ih =>
    intro s k hd
    obtain ⟨hk, hc, hr⟩ := bs_at hd
    obtain ⟨hk1, hc1, hr1⟩ := bs_at hr
    obtain ⟨i1, i2⟩ := ih hr1
    refine ⟨?_, ?_⟩
    · rw [tClose_back hk (by rw [hc]; rfl)]; exact i1
    · rw [outTo_back hk1 (by rw [hc]; rfl), bs_app, i2, ex_one hk1, hc1]; rfl
  | @byte c a b h1 h2 _ ih =>
    intro s k hd
    obtain ⟨hk, hc, hr⟩ := bs_at hd
    obtain ⟨i1, i2⟩ := ih hr
    have hk1 : k + 1 < s.size := by
      have := congrArg List.length hr
      rw [List.length_drop, bs_len] at this
      simp at this; omega
    refine ⟨?_, ?_⟩
    · rw [tClose_else hk (by rw [hc]; exact h1) (by rw [hc]; exact h2)]; exact i1
    · rw [outTo_else hk1 (by rw [hc]; exact h2), bs_app, i2, ex_one hk, hc]; rfl

/-- A byte that wants a backslash in a text of texts. -/
def isQ (c : UInt8) : Bool := decide (c.toNat = 34) || decide (c.toNat = 92)
def escTo (s : ByteArray) : Nat → ByteArray
  | 0 => ⟨#[]⟩
  | k + 1 => if h : k < s.size then (if isQ s[k] = true then escTo s k ++ ⟨#[92]⟩ else escTo s k) ++ s.extract k (k + 1) else escTo s k
theorem escTo_q {s : ByteArray} {k : Nat} (h : k < s.size) (hc : isQ s[k] = true) : escTo s (k + 1) = escTo s k ++ ⟨#[92]⟩ ++ s.extract k (k + 1) := by rw [escTo, dif_pos h, if_pos hc]
theorem escTo_n {s : ByteArray} {k : Nat} (h : k < s.size) (hc : isQ s[k] = false) : escTo s (k + 1) = escTo s k ++ s.extract k (k + 1) := by rw [escTo, dif_pos h, if_neg (by simp [hc])]
theorem escTo_esc (s : ByteArray) : ∀ k, k ≤ s.size → Esc (bs (escTo s k)) ((bs s).take k)
  | 0, _ => by rw [List.take_zero]; exact .nil
  | k + 1, hk => by
    have ih := escTo_esc s k (by omega)
    have hk' : k < s.size := by omega
    rw [List.take_succ_eq_append_getElem (by rw [bs_len]; exact hk'), bs_get hk']
    cases hc : isQ s[k]
    · rw [escTo_n hk' hc, bs_app, ex_one hk']
      unfold isQ at hc
      simp only [Bool.or_eq_false_iff, decide_eq_false_iff_not] at hc
      exact ih.app (.byte hc.1 hc.2 .nil)
    · rw [escTo_q hk' hc, bs_app, bs_app, ex_one hk', List.append_assoc]
      exact ih.app (.back _ .nil)
theorem escTo_size (s : ByteArray) : ∀ k, (escTo s k).size ≤ 2 * k
  | 0 => by show (0 : Nat) ≤ _; omega
  | k + 1 => by
    have ih := escTo_size s k
    by_cases hk : k < s.size
    · have h1 : (⟨#[92]⟩ : ByteArray).size = 1 := rfl
      cases hc : isQ s[k]
      · rw [escTo_n hk hc, ByteArray.size_append, ByteArray.size_extract]; omega
      · rw [escTo_q hk hc, ByteArray.size_append, ByteArray.size_append, ByteArray.size_extract]; omega
    · rw [escTo, dif_neg hk]; omega
theorem ok_one {c : UInt8} (h : okByte c = true) : AllOk ⟨#[c]⟩ := fun j d hd => by
  obtain ⟨hj, rfl⟩ := bAt_some hd
  obtain rfl : j = 0 := by have : j < 1 := hj; omega
  exact h
theorem escTo_ok {s : ByteArray} (h : AllOk s) : ∀ k, k ≤ s.size → AllOk (escTo s k)
  | 0, _ => fun j c hc => by obtain ⟨hj, _⟩ := bAt_some hc; exact absurd hj (by show ¬ j < 0; omega)
  | k + 1, hk => by
    have ih := escTo_ok h k (by omega)
    have hk' : k < s.size := by omega
    have hx : AllOk (s.extract k (k + 1)) := by rw [ex_one hk']; exact ok_one (h k _ (bAt_lt hk'))
    cases hc : isQ s[k]
    · rw [escTo_n hk' hc]; exact ih.app hx
    · rw [escTo_q hk' hc]; exact (ih.app (ok_one (by decide))).app hx

/-- A token's text in a text of texts. -/
def bit (t : Tok) : ByteArray := if t.kind = 3 then escTo t.text t.text.size else t.text
def joinTo (l : List Tok) : Nat → ByteArray
  | 0 => ⟨#[]⟩
  | k + 1 => if h : k < l.length then (if 0 < k ∧ l[k].spaced = true then joinTo l k ++ ⟨#[32]⟩ else joinTo l k) ++ bit l[k] else joinTo l k
def rawTo (l : List Tok) : Nat → ByteArray
  | 0 => ⟨#[]⟩
  | k + 1 => if h : k < l.length then (if 0 < k ∧ l[k].spaced = true then rawTo l k ++ ⟨#[32]⟩ else rawTo l k) ++ l[k].text else rawTo l k
theorem joinTo_sp {l : List Tok} {k : Nat} (hk : k < l.length) (h0 : 0 < k) (h : l[k].spaced = true) : joinTo l (k + 1) = joinTo l k ++ ⟨#[32]⟩ ++ bit l[k] := by rw [joinTo, dif_pos hk, if_pos ⟨h0, h⟩]
theorem joinTo_no {l : List Tok} {k : Nat} (hk : k < l.length) (h : ¬ (0 < k ∧ l[k].spaced = true)) : joinTo l (k + 1) = joinTo l k ++ bit l[k] := by rw [joinTo, dif_pos hk, if_neg h]
theorem rawTo_sp {l : List Tok} {k : Nat} (hk : k < l.length) (h0 : 0 < k) (h : l[k].spaced = true) : rawTo l (k + 1) = rawTo l k ++ ⟨#[32]⟩ ++ l[k].text := by rw [rawTo, dif_pos hk, if_pos ⟨h0, h⟩]
theorem rawTo_no {l : List Tok} {k : Nat} (hk : k < l.length) (h : ¬ (0 < k ∧ l[k].spaced = true)) : rawTo l (k + 1) = rawTo l k ++ l[k].text := by rw [rawTo, dif_pos hk, if_neg h]
/-- A token that is no text has no quote and no backslash. -/
theorem kind3 {c : UInt8} (h : cutKind c = 3) : isWord c = false ∧ c.toNat = 34 := by
  unfold cutKind at h
  cases hd : isDig c
  · cases hl : isLet c
    · rw [hd, hl] at h
      by_cases hq : c.toNat = 34
      · exact ⟨by unfold isWord; rw [hd, hl]; rfl, hq⟩
      · rw [if_neg (by simp), if_neg (by simp), if_neg hq] at h; omega
    · rw [hd, hl] at h; simp at h
  · rw [hd] at h; simp at h
theorem word_bytes {s : ByteArray} (d : Nat) : ∀ k, wEnd s k = k + d → ∀ j, (h : j < s.size) → k ≤ j → j < k + d → isWord s[j] = true := by
  induction d with
  | zero => intro k _ j _ h1 h2; omega
  | succ d ih =>
    intro k h j hj h1 h2
    have hk : k < s.size := by omega
    have hw : isWord s[k] = true := by
      cases hw : isWord s[k]
      · rw [wEnd_stop hk hw] at h; omega
      · rfl
    by_cases e : j = k
    · subst e; exact hw
    · rw [wEnd_in hk hw] at h
      exact ih (k + 1) (by omega) j hj (by omega) (by omega)
theorem word_plain {c : UInt8} (h : isWord c = true) : c.toNat ≠ 34 ∧ c.toNat ≠ 92 := by rw [isWord_iff] at h; omega
theorem marks_plain {c : UInt8} (h : c ∈ marks1) : c.toNat ≠ 34 ∧ c.toNat ≠ 92 := by
  have : ∀ d ∈ marks1, d.toNat ≠ 34 ∧ d.toNat ≠ 92 := by decide
  exact this c h
theorem two_bytes {s : ByteArray} {k : Nat} (h : twoAt s k = true) : ∀ j, (hj : j < s.size) → k ≤ j → j < k + 2 → s[j].toNat ≠ 34 ∧ s[j].toNat ≠ 92 := by
  intro j hj h1 h2
  unfold twoAt at h
  simp only [two_bAt, Bool.or_eq_true, Bool.and_eq_true, decide_eq_true_eq] at h
  by_cases e : j = k
  · subst e
    rw [bAt_lt hj] at h
    simp only [Option.some.injEq] at h
    rcases h with (((((h | h) | h) | h) | h) | h) | h <;> (rw [h.1]; decide)
  · obtain rfl : j = k + 1 := by omega
    rw [bAt_lt hj] at h
    simp only [Option.some.injEq] at h
    rcases h with (((((h | h) | h) | h) | h) | h) | h <;> (rw [h.2]; decide)
theorem tok_plain {t : Tok} (h : tokOk t = true) (h3 : t.kind ≠ 3) : ∀ c ∈ bs t.text, c.toNat ≠ 34 ∧ c.toNat ≠ 92 := by
  obtain ⟨h0, _, hc, _⟩ := tokOk_cut h
  obtain ⟨⟨_, hk⟩, _⟩ := tokOk_facts h
  intro c hm
  obtain ⟨j, hj, rfl⟩ := List.getElem_of_mem hm
  rw [bs_len] at hj
  rw [bs_get hj]
  cases hw : isWord t.text[0]
  · by_cases hq : t.text[0].toNat = 34
    · refine absurd ?_ h3
      rw [hk]
      unfold isWord at hw
      rw [Bool.or_eq_false_iff] at hw
      unfold cutKind
      rw [hw.1, hw.2, if_neg (by simp), if_neg (by simp), if_pos hq]
    · rw [cutEnd_mark h0 hw hq] at hc
      split at hc
      · omega
      · rename_i hm0
        have hms : mLen t.text 0 = t.text.size := by omega
        unfold mLen at hms
        split at hms
        · rename_i ht
          exact two_bytes ht j hj (by omega) (by omega)
        · skip
          split at hms
          · rename_i hin
            obtain rfl : j = 0 := by omega
            exact marks_plain hin
          · omega
  · rw [cutEnd_word h0 hw] at hc
    split at hc
    · omega
    · exact word_plain (word_bytes (t.text.size) 0 (by omega) j hj (by omega) (by omega))
theorem tok_esc {t : Tok} (h : tokOk t = true) : Esc (bs (bit t)) (bs t.text) := by
  unfold bit
  split
  · have := escTo_esc t.text t.text.size (Nat.le_refl _)
    rwa [List.take_of_length_le (by rw [bs_len]; exact Nat.le_refl _)] at this
  · rename_i h3; exact .plain (tok_plain h h3)
theorem esc_space : Esc (bs ⟨#[32]⟩) (bs ⟨#[32]⟩) := .plain (by intro c hc; have : c = 32 := by simpa [bs] using hc
                                                                subst this; decide)
theorem join_esc {l : List Tok} (h : toksOk l = true) : ∀ k, k ≤ l.length → Esc (bs (joinTo l k)) (bs (rawTo l k))
  | 0, _ => .nil
  | k + 1, hk => by
    have ih := join_esc h k (by omega)
    have hk' : k < l.length := by omega
    have ht := tok_esc ((toksOk_facts h).2 k hk')
    by_cases hs : 0 < k ∧ l[k].spaced = true
    · rw [joinTo_sp hk' hs.1 hs.2, rawTo_sp hk' hs.1 hs.2, bs_app, bs_app, bs_app, bs_app]
      exact (ih.app esc_space).app ht
    · rw [joinTo_no hk' hs, rawTo_no hk' hs, bs_app, bs_app]
      exact ih.app ht
theorem bit_size (t : Tok) : (bit t).size ≤ 2 * t.text.size := by
  unfold bit; split
  · exact escTo_size _ _
  · omega
theorem joinTo_size {l : List Tok} (h : toksOk l = true) : ∀ k, k ≤ l.length → (joinTo l k).size ≤ 401 * k
  | 0, _ => by show (0 : Nat) ≤ _; omega
  | k + 1, hk => by
    have ih := joinTo_size h k (by omega)
    have hk' : k < l.length := by omega
    have h2 := (tokOk_facts ((toksOk_facts h).2 k hk')).2
    have h3 := bit_size l[k]
    have h1 : (⟨#[32]⟩ : ByteArray).size = 1 := rfl
    by_cases hs : 0 < k ∧ l[k].spaced = true
    · rw [joinTo_sp hk' hs.1 hs.2, ByteArray.size_append, ByteArray.size_append]; omega
    · rw [joinTo_no hk' hs, ByteArray.size_append]; omega
theorem bit_ok {t : Tok} (h : tokOk t = true) : AllOk (bit t) := by
  have hx := AllOk.of (tokOk_cut h).2.2.2
  unfold bit; split
  · exact escTo_ok hx _ (Nat.le_refl _)
  · exact hx
theorem join_ok {l : List Tok} (h : toksOk l = true) : ∀ k, k ≤ l.length → AllOk (joinTo l k)
  | 0, _ => fun j c hc => by obtain ⟨hj, _⟩ := bAt_some hc; exact absurd hj (by show ¬ j < 0; omega)
  | k + 1, hk => by
    have ih := join_ok h k (by omega)
    have hk' : k < l.length := by omega
    have hx := bit_ok ((toksOk_facts h).2 k hk')
    by_cases hs : 0 < k ∧ l[k].spaced = true
    · rw [joinTo_sp hk' hs.1 hs.2]; exact (ih.app (ok_one (by decide))).app hx
    · rw [joinTo_no hk' hs]; exact ih.app hx

def quoted (x : ByteArray) : ByteArray := ⟨#[34]⟩ ++ x ++ ⟨#[34]⟩
theorem quoted_size (x : ByteArray) : (quoted x).size = x.size + 2 := by
  have h1 : (⟨#[34]⟩ : ByteArray).size = 1 := rfl
  unfold quoted; rw [ByteArray.size_append, ByteArray.size_append]; omega
theorem quoted_bs (x : ByteArray) : bs (quoted x) = 34 :: (bs x ++ [34]) := by unfold quoted; rw [bs_app, bs_app]; rfl
def zTok : Tok := ⟨0, ⟨#[]⟩, false, []⟩
def txtRes (l : List Tok) : Tok × Bool := if toksOk l = true then (if 200 < (quoted (joinTo l l.length)).size then (zTok, false) else (⟨3, quoted (joinTo l l.length), false, []⟩, true)) else (zTok, false)
theorem txtRes_no {l : List Tok} (h : toksOk l = false) : txtRes l = (zTok, false) := by unfold txtRes; rw [if_neg (by simp [h])]
theorem txtRes_long {l : List Tok} {k : Nat} (h : toksOk l = true) (hk : l.length = k) (h2 : 200 < (quoted (joinTo l k)).size) : txtRes l = (zTok, false) := by unfold txtRes; rw [if_pos h, hk, if_pos h2]
theorem txtRes_yes {l : List Tok} {k : Nat} (h : toksOk l = true) (hk : l.length = k) (h2 : ¬ 200 < (quoted (joinTo l k)).size) : txtRes l = (⟨3, quoted (joinTo l k), false, []⟩, true) := by unfold txtRes; rw [if_pos h, hk, if_neg h2]
def bytesRes (t : Tok) : ByteArray × Bool := if tokOk t = true ∧ t.kind = 3 then (outTo t.text 1, true) else (⟨#[]⟩, false)
theorem bytesRes_no {t : Tok} (h : tokOk t = false) : bytesRes t = (⟨#[]⟩, false) := by unfold bytesRes; rw [if_neg (by simp [h])]
theorem bytesRes_kind {t : Tok} (h : t.kind ≠ 3) : bytesRes t = (⟨#[]⟩, false) := by unfold bytesRes; rw [if_neg (by simp [h])]
theorem bytesRes_yes {t : Tok} (h : tokOk t = true) (h3 : t.kind = 3) : bytesRes t = (outTo t.text 1, true) := by unfold bytesRes; rw [if_pos ⟨h, h3⟩]
theorem bytesRes_true {t : Tok} {x : ByteArray} (h : bytesRes t = (x, true)) : tokOk t = true ∧ t.kind = 3 ∧ x = outTo t.text 1 := by
  unfold bytesRes at h
  split at h
  · rename_i hh; simp at h; exact ⟨hh.1, hh.2, h.symm⟩
  · simp at h
theorem txtRes_true {l : List Tok} {t : Tok} (h : txtRes l = (t, true)) : toksOk l = true ∧ (quoted (joinTo l l.length)).size ≤ 200 ∧ t = ⟨3, quoted (joinTo l l.length), false, []⟩ := by
  unfold txtRes at h
  split at h
  · rename_i hv
    split at h
    · simp at h
    · simp at h; exact ⟨hv, by omega, h.symm⟩
  · simp at h
/-- A text of texts is a token, and stands for their texts. -/
theorem txt_back {l : List Tok} {t : Tok} (h : txtRes l = (t, true)) : tokOk t = true ∧ bytesRes t = (rawTo l l.length, true) := by
  obtain ⟨hv, hz, rfl⟩ := txtRes_true h
  have hE := join_esc hv l.length (Nat.le_refl _)
  generalize hJ : joinTo l l.length = J at hE hz
  have hb := quoted_bs J
  obtain ⟨hc, ho⟩ := esc_scan hE (s := quoted J) (k := 1) (by rw [hb]; rfl)
  have h0 : 0 < (quoted J).size := by rw [quoted_size]; omega
  obtain ⟨_, hq, _⟩ := bs_at (s := quoted J) (k := 0) hb
  have hw : isWord (quoted J)[0] = false := by rw [hq]; decide
  have hq' : (quoted J)[0].toNat = 34 := by rw [hq]; rfl
  have hcut : cutEnd (quoted J) 0 = ((quoted J).size : Nat) := by rw [cutEnd_text h0 hw hq', hc]
  have hl : lineOk (quoted J) = true := by
    refine AllOk.line ?_ hz
    unfold quoted
    exact ((ok_one (by decide)).app (by rw [← hJ]; exact join_ok hv _ (Nat.le_refl _))).app (ok_one (by decide))
  have ht := sub_tok hl h0 (by omega) hcut false
  have hx : (quoted J).extract 0 (quoted J).size = quoted J := ByteArray.extract_zero_size
  have hk : cutKind (quoted J)[0] = 3 := by rw [hq]; decide
  rw [hx, hk] at ht
  refine ⟨ht, ?_⟩
  rw [bytesRes_yes ht rfl]
  congr 1
  exact bs_ext ho
theorem raw_print (l : List Tok) : ∀ k, k ≤ l.length → (rawTo l k).size ≤ (prTo l k).size ∧ ((prTo l k).size = (rawTo l k).size → prTo l k = rawTo l k)
  | 0, _ => ⟨Nat.le_refl _, fun _ => rfl⟩
  | k + 1, hk => by
    obtain ⟨i1, i2⟩ := raw_print l k (by omega)
    have hk' : k < l.length := by omega
    have h1 : (⟨#[32]⟩ : ByteArray).size = 1 := rfl
    by_cases hs : 0 < k ∧ l[k].spaced = true
    · rw [prTo_yes hk' (gap_spaced hs.1 hk' hs.2), rawTo_sp hk' hs.1 hs.2]
      refine ⟨by simp only [ByteArray.size_append]; omega, fun e => ?_⟩
      simp only [ByteArray.size_append] at e
      rw [i2 (by omega)]
    · rw [rawTo_no hk' hs]
      cases hg : gap l k
      · rw [prTo_no hk' hg]
        refine ⟨by simp only [ByteArray.size_append]; omega, fun e => ?_⟩
        simp only [ByteArray.size_append] at e
        rw [i2 (by omega)]
      · rw [prTo_yes hk' hg]
        refine ⟨by simp only [ByteArray.size_append]; omega, fun e => ?_⟩
        simp only [ByteArray.size_append] at e
        omega
/-- Printed alike, they are read alike. -/
theorem txt_reads {l : List Tok} {x : ByteArray} (h : printRes l = (x, true)) (hs : x.size = (rawTo l l.length).size) : ∃ out, tokRes (rawTo l l.length) = (out, true) ∧ sameTx out l = true := by
  have hv : toksOk l = true := by
    cases hv : toksOk l
    · rw [printRes_no hv] at h; simp at h
    · rfl
  by_cases hl : 200 < (prTo l l.length).size
  · rw [printRes_long hv rfl hl] at h; simp at h
  · have h' := h
    rw [printRes_yes hv rfl hl] at h'
    simp only [Prod.mk.injEq, and_true] at h'
    subst h'
    rw [← (raw_print l l.length (Nat.le_refl _)).2 hs]
    exact print_reads h
theorem raw_one (t : Tok) : rawTo [t] 1 = t.text := by
  rw [rawTo_no (by simp) (by simp)]
  exact ByteArray.empty_append
/-- The text of one text stands for it. -/
theorem txt_one {t u : Tok} (h : txtRes [t] = (u, true)) : bytesRes u = (t.text, true) := by
  have := (txt_back h).2
  rwa [show ([t] : List Tok).length = 1 from rfl, raw_one] at this
theorem bytes_size {t : Tok} {x : ByteArray} (h : bytesRes t = (x, true)) : x.size + 2 ≤ t.text.size := by
  obtain ⟨hv, h3, rfl⟩ := bytesRes_true h
  obtain ⟨h0, _, hc, _⟩ := tokOk_cut hv
  obtain ⟨⟨_, hk⟩, _⟩ := tokOk_facts hv
  rw [h3] at hk
  obtain ⟨hw, hq⟩ := kind3 hk.symm
  rw [cutEnd_text h0 hw hq] at hc
  have := outTo_size t.text 1
  cases he : tClose t.text 1 with
  | none => rw [he] at hc; simp only at hc; omega
  | some e => have := tClose_some he; omega

end Go.Proofs.Ytgjjidjkpmmcoaa

/- TokenBytes of the model. -/
namespace Go.Proofs.Ytgjjidjkpmmcoaa
open Go.RowKit

/-- What TokenBytes hands back. -/
def BytesOf (t : Tok) (w : World) (e : Ending) (w' : World) : Prop := e = .returned (.tuple #[.string (bytesRes t).1, .bool (bytesRes t).2]) ∧ Below w.heap.size w w'
theorem bytesOf_ret {t : Tok} {s : ByteArray} {b : Bool} {w w' : World} (h : bytesRes t = (s, b)) (hb : Below w.heap.size w w') : BytesOf t w (.returned (.tuple #[.string s, .bool b])) w' := ⟨by rw [h], hb⟩
/-- A text that is a token closes at its end. -/
theorem text_closed {t : Tok} (h : tokOk t = true) (h3 : t.kind = 3) : tClose t.text 1 = some t.text.size := by
  obtain ⟨h0, _, hc, _⟩ := tokOk_cut h
  obtain ⟨⟨_, hk⟩, _⟩ := tokOk_facts h
  rw [h3] at hk
  obtain ⟨hw, hq⟩ := kind3 hk.symm
  rw [cutEnd_text h0 hw hq] at hc
  cases he : tClose t.text (0 + 1) with
  | none => rw [he] at hc; simp only at hc; omega
  | some e =>
    rw [he] at hc
    replace hc : (e : Int) = (t.text.size : Nat) := hc
    have e1 : e = t.text.size := by omega
    rw [← e1]
/-- Where the walk over a text is. -/
def OutAt (s : ByteArray) (k : Nat) (out : ByteArray) : Prop := out ++ outTo s k = outTo s 1 ∧ tClose s k = some s.size ∧ 1 ≤ k ∧ out.size ≤ k
theorem OutAt.start {s : ByteArray} (h : tClose s 1 = some s.size) : OutAt s 1 ⟨#[]⟩ := ⟨ByteArray.empty_append, h, Nat.le_refl _, by show 0 ≤ _; omega⟩
theorem OutAt.back {s : ByteArray} {k : Nat} {out : ByteArray} (h : OutAt s k out) (hk : k + 1 < s.size) (hc : s[k].toNat = 92) : k + 3 ≤ s.size ∧ OutAt s (k + 2) (out ++ s.extract (k + 1) (k + 2)) := by
  obtain ⟨h1, h2, h3, h4⟩ := h
  rw [tClose_back (by omega) hc] at h2
  have := tClose_some h2
  refine ⟨by omega, ?_, h2, by omega, by rw [ByteArray.size_append, ByteArray.size_extract]; omega⟩
  rw [← h1, outTo_back hk hc, ByteArray.append_assoc]
theorem OutAt.byte {s : ByteArray} {k : Nat} {out : ByteArray} (h : OutAt s k out) (hk : k + 1 < s.size) (hc : ¬ s[k].toNat = 92) : OutAt s (k + 1) (out ++ s.extract k (k + 1)) := by
  obtain ⟨h1, h2, h3, h4⟩ := h
  by_cases hq : s[k].toNat = 34
  · rw [tClose_quote (by omega) hq, Option.some.injEq] at h2; omega
  rw [tClose_else (by omega) hq hc] at h2
  refine ⟨?_, h2, by omega, by rw [ByteArray.size_append, ByteArray.size_extract]; omega⟩
  rw [← h1, outTo_else hk hc, ByteArray.append_assoc]
theorem OutAt.done {s : ByteArray} {k : Nat} {out : ByteArray} (h : OutAt s k out) (hk : s.size ≤ k + 1) : out = outTo s 1 := by
  rw [← h.1, outTo_end hk]; exact ByteArray.append_empty.symm

set_option maxHeartbeats 8000000 in
set_option maxRecDepth 100000 in
theorem spec_TokenBytes (cs : List Value) (x : Tok) (fp : List Nat) (w : World) (H : sTok.R w cs x fp) :
    Calls Try.prog 8 #[.agg cs.toArray] w (BytesOf x w) := by
  have H' := H
  obtain ⟨h, rfl, -, -, -⟩ := H'
  have hb0 := alloc_below' w (.cells #[.int .i64 x.kind, .string x.text, .bool x.spaced, h] 28)
  have HV := Lib.hid (spec_TokenValid _ x fp _ (sTok.below H hb0))
  clear H
  cases hv : tokOk x
  · rw [hv] at HV
    have HF := Lib.hid (bytesRes_no hv)
    clear hv
    go_enter Try.func8, Try.ntmps8
    go_wp2_with (go_at_call 29; refine HV.out.mono ?_; rintro e w1 ⟨rfl, hb1⟩)
    go_ret2
    exact bytesOf_ret HF.out (hb0.trans (hb1.mono hb0.size))
  have hz := (tokOk_facts hv).2
  rw [hv] at HV
  by_cases h3 : x.kind = 3
  rotate_left
  · have HF := Lib.hid (bytesRes_kind h3)
    have hk' : (x.kind != 3) = true := by simp [h3]
    clear hv h3
    go_enter Try.func8, Try.ntmps8
    go_wp2_with (go_at_call 29; refine HV.out.mono ?_; rintro e w1 ⟨rfl, hb1⟩; have a0 := box0 hb1)
    go_ret2
    exact bytesOf_ret HF.out (hb0.trans (hb1.mono hb0.size))
  have HF := Lib.hid (bytesRes_yes hv h3)
  have HS := Lib.hid (OutAt.start (text_closed hv h3))
  have hk' : (x.kind != 3) = false := by simp [h3]
  clear hv h3
  go_enter Try.func8, Try.ntmps8
  go_wp2_with (go_at_call 29; refine HV.out.mono ?_; rintro e w1 ⟨rfl, hb1⟩; have a0 := box0 hb1)
  have hB1 := hb0.trans (hb1.mono hb0.size)
  have HA1 := Lib.hid (box1 hb1)
  have hlt1 : w.heap.size < w1.heap.size := Nat.lt_of_lt_of_le (by simp) hb1.size
  clear a0 hb0 hb1 HV
  go_loopw [4, 5] (fun o i wr => ∃ (k : Nat) (out : ByteArray), o = .string out ∧ i = .int .i64 k ∧ k ≤ x.text.size ∧ Hid (OutAt x.text k out) ∧ Below w.heap.size w wr ∧ wr.cell? ⟨w.heap.size, 1, none⟩ = some (.string x.text)) (fun _ i _ => x.text.size - (intOf i).toNat)
  case atStart => exact ⟨1, _, rfl, rfl, by have := tClose_some HS.out.2.1; omega, HS.out, hB1, HA1.out⟩
  case round =>
    obtain ⟨k, out, rfl, rfl, hk, HO, hb, c1⟩ := hrel
    have ho := HO.out.2.2.2
    have hk1 := HO.out.2.2.1
    have hwr : IntKind.i64.wrap ((x.text.size : Int) - 1) = (x.text.size : Int) - 1 := IntWalk.i64_in _ (by omega)
    by_cases hlt : k + 1 < x.text.size
    · have hlt' : (k : Int) < (x.text.size : Int) - 1 := by omega
      by_cases h92 : x.text[k].toNat = 92
      · have hN := HO.out.back hlt h92
        have HN := Lib.hid hN.2
        obtain ⟨hr, -⟩ := hN
        have h92' : ((x.text[k].toNat : Int) == 92) = true := by simp; omega
        have hadd := fun W => run_string_add_sum (P := Try.prog) W out (x.text.extract (k + 1) (k + 2)) (by rw [ByteArray.size_extract]; omega)
        have hsl := fun W => (run_cut x.text ((k : Int) + 1) ((k : Int) + 1 + 1) (k + 1) (k + 2) (by omega) (by omega) (by omega) (by omega) W)
        clear HO h92
        go_wp2
        go_roundw
        case rel => exact ⟨k + 2, _, rfl, by go_num, by omega, HN.out, hb, c1⟩
        case measure => simp [intOf]; omega
      · have HN := Lib.hid (HO.out.byte hlt h92)
        have h92' : ((x.text[k].toNat : Int) == 92) = false := by simp; omega
        have hadd := fun W => run_string_add_sum (P := Try.prog) W out (x.text.extract k (k + 1)) (by rw [ByteArray.size_extract]; omega)
        have hsl := fun W => (run_cut x.text (k : Int) ((k : Int) + 1) k (k + 1) (by omega) (by omega) (by omega) (by omega) W)
        clear HO h92
        go_wp2
        go_roundw
        case rel => exact ⟨k + 1, _, rfl, by go_num, by omega, HN.out, hb, c1⟩
        case measure => simp [intOf]; omega
    · have hlt' : ¬ (k : Int) < (x.text.size : Int) - 1 := by omega
      have HD := Lib.hid (HO.out.done (by omega))
      clear HO
      go_wp2
      go_ret2
      exact bytesOf_ret (by rw [HF.out, HD.out]) hb

end Go.Proofs.Ytgjjidjkpmmcoaa

/- A row of structs that a call makes and fills, element by element. Over any program. -/
namespace Go.Proofs.Ytgjjidjkpmmcoaa
open Go.RowKit

/-- Two blocks that were made one after another. -/
theorem alloc2_blk (w : World) (c0 c1 : Array Value) (t0 t1 : TypeId) :
    ((w.alloc (.cells c0 t0)).alloc (.cells c1 t1)).heap[w.heap.size]? = some (.cells c0 t0 (0, 0)) ∧
    ((w.alloc (.cells c0 t0)).alloc (.cells c1 t1)).heap[w.heap.size + 1]? = some (.cells c1 t1 (0, 0)) := by
  refine ⟨?_, ?_⟩
  · show ((w.heap.push _).push _)[_]? = _
    rw [Array.getElem?_push, if_neg (by simp), Array.getElem?_push, if_pos rfl]
  · show ((w.heap.push _).push _)[_]? = _
    rw [Array.getElem?_push, if_pos (by simp)]

/-- Cells stored one behind the other. -/
def putAll (w : World) (b : Nat) : Nat → List Value → World
  | _, [] => w
  | o, c :: cs => putAll (w.setCell ⟨b, o, none⟩ c) b (o + 1) cs
def setFrom : List Value → Nat → List Value → List Value
  | xs, _, [] => xs
  | xs, o, c :: cs => setFrom (xs.set o c) (o + 1) cs
theorem setFrom_app : ∀ (cs A Z R : List Value), Z.length = cs.length → setFrom (A ++ (Z ++ R)) A.length cs = A ++ (cs ++ R)
  | [], A, Z, R, h => by
    have : Z = [] := by simpa using h
    subst this; simp [setFrom]
  | c :: cs, A, [], R, h => by simp at h
  | c :: cs, A, z :: Z, R, h => by
    unfold setFrom
    have e : (A ++ (z :: Z ++ R)).set A.length c = (A ++ [c]) ++ (Z ++ R) := by simp
    rw [e]
    have e2 : A.length + 1 = (A ++ [c]).length := by simp
    rw [e2, setFrom_app cs (A ++ [c]) Z R (by simpa using h)]
    simp
theorem putAll_row {base e size n cap g : Nat} : ∀ (cs : List Value) (w : World) (xs : List Value) (o : Nat), w.ownsRow base e size (.slice (some ⟨g, 0, none⟩) n cap) n xs →
    (putAll w g o cs).ownsRow base e size (.slice (some ⟨g, 0, none⟩) n cap) n (setFrom xs o cs)
  | [], _, _, _, h => h
  | c :: cs, w, xs, o, h => putAll_row cs _ _ (o + 1) (h.stored o c).1
theorem putAll_below {B g : Nat} {a : World} (hg : B ≤ g) : ∀ (cs : List Value) (w : World) (o : Nat), Below B a w → Below B a (putAll w g o cs)
  | [], _, _, h => h
  | c :: cs, w, o, h => putAll_below hg cs _ (o + 1) (h.setCell (p := ⟨g, o, none⟩) hg c)
theorem putAll_kept {g : Nat} : ∀ (cs : List Value) (w : World) (o : Nat), Kept [g] w (putAll w g o cs)
  | [], w, _ => Kept.refl _ w
  | c :: cs, w, o => ((Kept.refl [g] w).setCell (p := ⟨g, o, none⟩) (by simp) c).trans (putAll_kept cs _ (o + 1))

/-- The row at block g (the first of the call's own): k elements are in it. -/
structure Filling {α : Type} (S : Shape α) (g : Nat) (e : TypeId) (l : List α) (k : Nat) (w : World) (L : List (Elem α)) (R : List Value) : Prop where
  row : w.ownsRow g e S.m (.slice (some ⟨g, 0, none⟩) l.length l.length) l.length (L.flatMap (·.cells) ++ R)
  dat : L.map (·.d) = l.take k
  len : ∀ x ∈ L, x.cells.length = S.m
  el : ∀ x ∈ L, S.R w x.cells x.d x.fp
  own : Own w (g + 1) (L.flatMap (·.fp))
section
variable {α : Type} {S : Shape α} {g e : Nat} {l : List α} {k : Nat} {w w' : World} {L : List (Elem α)} {R : List Value}
theorem Filling.start {xs : List Value} (h : w.ownsRow g e S.m (.slice (some ⟨g, 0, none⟩) l.length l.length) l.length xs) : Filling S g e l 0 w [] xs :=
  ⟨by simpa using h, by simp, by simp, by simp, Own.nil _ _⟩
theorem Filling.count (h : Filling S g e l k w L R) (hk : k ≤ l.length) : L.length = k := by
  have := congrArg List.length h.dat
  simpa [hk] using this
theorem Filling.cells (h : Filling S g e l k w L R) (hk : k ≤ l.length) : (L.flatMap (·.cells)).length = k * S.m := by rw [flatMap_len h.len, h.count hk]
theorem Filling.rest (h : Filling S g e l k w L R) (hk : k ≤ l.length) : R.length = (l.length - k) * S.m := by
  have h1 := h.row.1
  rw [List.length_append, h.cells hk] at h1
  have : (l.length - k) * S.m = l.length * S.m - k * S.m := Nat.sub_mul _ _ _
  omega
theorem Filling.lt (h : Filling S g e l k w L R) : g < w.heap.size := (h.row.lt g rfl).2
theorem Filling.below (h : Filling S g e l k w L R) (hb : Below w.heap.size w w') : Filling S g e l k w' L R where
  row := by
    refine ⟨h.row.1, ?_⟩
    rcases h.row.2 with h0 | ⟨g', cap, cur, h1, h2, h3, h4⟩
    · exact .inl h0
    · exact .inr ⟨g', cap, cur, h1, h2, (hb.block g' (Array.getElem?_eq_some_iff.1 h3).1).trans h3, h4⟩
  dat := h.dat
  len := h.len
  el := fun x hx => S.below (h.el x hx) hb
  own := h.own.grow hb
/-- The cells of the next element: there, not frozen. -/
theorem Filling.cell (h : Filling S g e l k w L R) (hk : k < l.length) {j : Nat} (hj : j < S.m) : ∃ u, w.cell? ⟨g, k * S.m + j, none⟩ = some u := by
  have h1 : (k + 1) * S.m ≤ l.length * S.m := Nat.mul_le_mul_right _ hk
  rw [Nat.succ_mul] at h1
  rw [h.row.cellAt (k * S.m + j) (by omega), List.getElem?_append_right (by rw [h.cells (by omega)]; omega), h.cells (by omega)]
  have h2 := h.rest (by omega)
  have h3 : (l.length - k) * S.m = l.length * S.m - k * S.m := Nat.sub_mul _ _ _
  exact ⟨R[k * S.m + j - k * S.m]'(by omega), List.getElem?_eq_getElem _⟩
theorem Filling.frozen (h : Filling S g e l k w L R) (o : Nat) : w.frozen? ⟨g, o, none⟩ = false := h.row.frozenAt o
theorem Filling.next {cs : List Value} {fp : List Nat} {w0 : World} (h0 : Filling S g e l k w0 L R) (hk : k < l.length) (hb : Below w0.heap.size w0 w) (hlen : cs.length = S.m) (hR : S.R w cs l[k] fp) (ho : Own w w0.heap.size fp) :
    ∃ R', Filling S g e l (k + 1) (putAll w g (k * S.m) cs) (L ++ [⟨cs, l[k], fp⟩]) R' := by
  have h := h0.below hb
  have hg0 := h0.lt
  have hap : ∀ x ∈ L, ∀ b ∈ x.fp, b ∈ L.flatMap (·.fp) := fun x hx b hb' => List.mem_flatMap.2 ⟨x, hx, hb'⟩
  have hn : ∀ b ∈ L.flatMap (·.fp), b ∉ [g] := fun b hb' => by have := (h.own.2 b hb').1; simp; omega
  have hn2 : ∀ b ∈ fp, b ∉ [g] := fun b hb' => by have := (ho.2 b hb').1; simp; omega
  have hK := putAll_kept (g := g) cs w (k * S.m)
  have hr := h.rest (by omega)
  have hsp : (l.length - k) * S.m = S.m + (l.length - (k + 1)) * S.m := by rw [show l.length - k = (l.length - (k + 1)) + 1 by omega, Nat.succ_mul]; omega
  refine ⟨R.drop S.m, ⟨?_, ?_, fun x hx => ?_, fun x hx => ?_, ?_⟩⟩
  · have := putAll_row cs w _ (k * S.m) h.row
    have e1 : L.flatMap (·.cells) ++ R = L.flatMap (·.cells) ++ (R.take S.m ++ R.drop S.m) := by rw [List.take_append_drop]
    rw [e1, ← h.cells (by omega), setFrom_app cs _ (R.take S.m) (R.drop S.m) (by rw [List.length_take, hlen]; omega)] at this
    rw [List.flatMap_append, List.flatMap_cons, List.flatMap_nil, List.append_nil, List.append_assoc, ← h.cells (by omega)]
    exact this
  · rw [List.map_append, h.dat, List.take_succ_eq_append_getElem hk]; rfl
  · rcases List.mem_append.1 hx with hx | hx
    · exact h.len x hx
    · obtain rfl := List.mem_singleton.1 hx; exact hlen
  · rcases List.mem_append.1 hx with hx | hx
    · exact S.kept (h.el x hx) (fun b hb' => hn b (hap x hx b hb')) hK
    · obtain rfl := List.mem_singleton.1 hx
      exact S.kept hR hn2 hK
  · rw [List.flatMap_append, List.flatMap_cons, List.flatMap_nil, List.append_nil]
    refine Own.app (h.own.kept hn hK) ((Own.lower ho (by omega)).kept hn2 hK) fun b hb1 hb2 => ?_
    have h1 := (ho.2 b hb2).1
    have h2 := h0.own.lt b hb1
    omega
theorem Filling.done (h : Filling S g e l k w L R) (hk : l.length = k) : ∃ fp, (sSlice S).R w [.slice (some ⟨g, 0, none⟩) l.length l.length] l fp ∧ Own w g fp := by
  have hc := h.count (by omega)
  have hr : R = [] := by
    have := h.rest (by omega)
    rw [hk, Nat.sub_self, Nat.zero_mul] at this
    exact List.length_eq_zero_iff.1 this
  have hd := h.dat
  rw [List.take_of_length_le (by omega)] at hd
  have hrow := h.row
  rw [hr, List.append_nil] at hrow
  have hL : L.length = l.length := by omega
  rw [← hL] at hrow
  obtain ⟨fp, h1, h2, h3⟩ := slice_of_row hrow (fun x hx => ⟨h.len x hx, h.el x hx⟩)
  rw [hd, hL] at h1
  exact ⟨fp, h1, h3 (Own.lower h.own (by omega)) (fun g' hg' hx => by
    simp only [Value.ownBlock, Option.some.injEq] at hg'
    have := (h.own.2 g' hx).1
    omega)⟩
end

/-- Weights of a list. -/
theorem wsum_succ {α : Type} (f : α → Nat) (l : List α) (k : Nat) (h : k < l.length) : ((l.take (k + 1)).map f).sum = ((l.take k).map f).sum + f l[k] := by
  rw [List.take_succ_eq_append_getElem h]; simp only [List.map_append, List.sum_append, List.map_cons, List.map_nil, List.sum_cons, List.sum_nil, Nat.add_zero]
theorem wsum_le {α : Type} (f : α → Nat) (l : List α) (k : Nat) : ((l.take k).map f).sum ≤ (l.map f).sum := by
  have := congrArg (fun l : List α => (l.map f).sum) (List.take_append_drop k l)
  simp only [List.map_append, List.sum_append] at this
  omega
theorem wsum_at {α : Type} (f : α → Nat) (l : List α) (k : Nat) (h : k < l.length) : f l[k] ≤ (l.map f).sum := by
  have h1 := wsum_succ f l k h
  have h2 := wsum_le f l (k + 1)
  omega

end Go.Proofs.Ytgjjidjkpmmcoaa

/- What the made texts of structs lean on. -/
namespace Go.Proofs.Ytgjjidjkpmmcoaa
open Go.RowKit

/-- A struct that is made: its cells. -/
def MadeC {α : Type} (S : Shape α) (d : α) (w : World) (e : Ending) (w' : World) : Prop :=
  ∃ cs fp, e = .returned (.agg cs.toArray) ∧ S.R w' cs d fp ∧ Own w' w.heap.size fp ∧ Below w.heap.size w w'
/-- Marks in what a struct by value leads to. -/
def MarkedC {α : Type} (S : Shape α) (cs : List Value) (d : α) (fp : List Nat) (lo : Nat) (r : Int) (w : World) (e : Ending) (w' : World) : Prop :=
  e = .returned (.int .i64 r) ∧ S.R w' cs d fp ∧ Own w' lo fp ∧ Kept fp w w'
theorem alloc3_blk0 (w : World) (c0 c1 c2 : Array Value) (t0 t1 t2 : TypeId) :
    (((w.alloc (.cells c0 t0)).alloc (.cells c1 t1)).alloc (.cells c2 t2)).heap[w.heap.size]? = some (.cells c0 t0 (0, 0)) := by
  show (((w.heap.push _).push _).push _)[_]? = _
  rw [Array.getElem?_push, if_neg (by simp; omega), Array.getElem?_push, if_neg (by simp), Array.getElem?_push, if_pos rfl]
theorem size_setCell (w : World) (p : Addr) (v : Value) : (w.setCell p v).heap.size = w.heap.size := by simp [World.setCell]

end Go.Proofs.Ytgjjidjkpmmcoaa

/- Tokens as arguments of a law: their size, their copy. -/
namespace Go.Proofs.Ytgjjidjkpmmcoaa
open Go.RowKit

def wtToken (x : Tok) : Nat := x.text.size + wtStringS x.hidden

set_option maxHeartbeats 1000000 in
theorem szToken (cs : List Value) (x : Tok) (fp : List Nat) (w : World) (B : Int) (h0 : 0 ≤ B) (h1 : B ≤ 1048576) (H : sTok.R w cs x fp) :
    Calls Try.prog 7 #[.agg cs.toArray, .int .i64 B] w fun e w' => ∃ r : Int, e = .returned (.int .i64 r) ∧ SzR B r (wtToken x) ∧ Below w.heap.size w w' := by
  obtain ⟨h, rfl, _, hok, K⟩ := H
  unfold okStr maxLen at hok
  have b0 := alloc_below' w (.cells #[.int .i64 x.kind, .string x.text, .bool x.spaced, h] 24)
  by_cases ht : B < x.text.size
  · have HN : Hid (SzR B (-1) (wtToken x)) := SzR.no (by unfold wtToken; omega)
    go_enter Try.func7, Try.ntmps7
    go_wp2
    go_ret
    exact ⟨-1, rfl, HN.out, b0⟩
  · have HC : Hid (∀ W, Below w.heap.size w W → Calls Try.prog 28 #[h, .int .i64 (B - x.text.size)] W fun e w' => ∃ r : Int, e = .returned (.int .i64 r) ∧ SzR (B - x.text.size) r (wtStringS x.hidden) ∧ W = w') := fun W hb => szStringS h x.hidden fp W (B - x.text.size) (by omega) (by omega) ((sSlice sStr).below K hb)
    go_enter Try.func7, Try.ntmps7
    go_wp2_with fail
    refine (HC.out _ b0).mono ?_
    rintro e w1 ⟨r, rfl, hr, rfl⟩
    by_cases hn : r < 0
    · have HN : Hid (SzR B (-1) (wtToken x)) := by
        refine SzR.no ?_
        unfold SzR at hr; unfold wtToken; split at hr <;> omega
      go_wp2
      go_ret
      exact ⟨-1, rfl, HN.out, b0⟩
    · have hg := hr.good hn
      have hl := hr.le (by omega)
      have HN : Hid (SzR B r (wtToken x)) := SzR.yes (by unfold wtToken; omega) (by unfold wtToken; omega)
      clear hg hr
      go_wp2
      go_ret
      exact ⟨r, rfl, HN.out, b0⟩

set_option maxHeartbeats 2000000 in
theorem toToken (cs : List Value) (x : Tok) (fp : List Nat) (w : World) (hW : wtToken x ≤ 1048576) (H : sTok.R w cs x fp) :
    Calls Try.prog 9 #[.agg cs.toArray] w (MadeC sTok x w) := by
  obtain ⟨h, rfl, hk, hok, K⟩ := H
  have hW' : wtStringS x.hidden ≤ 1048576 := by unfold wtToken at hW; omega
  have HC : Hid (∀ W, Below w.heap.size w W → Calls Try.prog 30 #[h] W (Made (sSlice sStr) x.hidden W)) := fun W hb => toStringS h x.hidden fp W hW' ((sSlice sStr).below K hb)
  go_enter Try.func9, Try.ntmps9
  have b3 := below3 w #[.int .i64 x.kind, .string x.text, .bool x.spaced, h] #[.int .i64 0, .string ⟨#[]⟩, .bool false, .slice none 0 0] #[.int .i64 x.kind, .string x.text, .bool x.spaced, .slice none 0 0] 24 28 28
  obtain ⟨g1, g2, g3⟩ := alloc3_blk w #[.int .i64 x.kind, .string x.text, .bool x.spaced, h] #[.int .i64 0, .string ⟨#[]⟩, .bool false, .slice none 0 0] #[.int .i64 x.kind, .string x.text, .bool x.spaced, .slice none 0 0] 24 28 28
  have HG := Lib.hid (And.intro g1 (And.intro g2 g3))
  clear g1 g2 g3
  go_wp2_with fail
  refine (HC.out _ b3).mono ?_
  rintro e w1 ⟨h1, fp1, rfl, R1, O1, hb1⟩
  have HG1 : Hid (w1.heap[w.heap.size + 1]? = some (.cells #[.int .i64 0, .string ⟨#[]⟩, .bool false, .slice none 0 0] 28 (0, 0)) ∧ w1.heap[w.heap.size + 1 + 1]? = some (.cells #[.int .i64 x.kind, .string x.text, .bool x.spaced, .slice none 0 0] 28 (0, 0))) :=
    ⟨(hb1.block _ (by rw [HG.out.2.2]; omega)).trans HG.out.1, (hb1.block _ (by rw [HG.out.2.2]; omega)).trans HG.out.2.1⟩
  have hb := b3.trans (hb1.mono b3.size)
  have hlo : ∀ b ∈ fp1, w.heap.size + 3 ≤ b := fun b hb => by have := (O1.2 b hb).1; rw [HG.out.2.2] at this; omega
  rw [HG.out.2.2] at O1
  clear HG hb1 b3 HC
  obtain ⟨a1, cap1, rfl, hq⟩ := open_rows R1
  clear hq
  have c10 : w1.cell? ⟨w.heap.size + 1, 0, none⟩ = some (.int .i64 0) := cell_of_row w1 (w.heap.size + 1) 0 _ _ _ HG1.out.1
  have c11 : w1.cell? ⟨w.heap.size + 1, 1, none⟩ = some (.string ⟨#[]⟩) := cell_of_row w1 (w.heap.size + 1) 1 _ _ _ HG1.out.1
  have c12 : w1.cell? ⟨w.heap.size + 1, 2, none⟩ = some (.bool false) := cell_of_row w1 (w.heap.size + 1) 2 _ _ _ HG1.out.1
  have c13 : w1.cell? ⟨w.heap.size + 1, 3, none⟩ = some (.slice none 0 0) := cell_of_row w1 (w.heap.size + 1) 3 _ _ _ HG1.out.1
  have c20 : w1.cell? ⟨w.heap.size + 1 + 1, 0, none⟩ = some (.int .i64 x.kind) := cell_of_row w1 (w.heap.size + 1 + 1) 0 _ _ _ HG1.out.2
  have c21 : w1.cell? ⟨w.heap.size + 1 + 1, 1, none⟩ = some (.string x.text) := cell_of_row w1 (w.heap.size + 1 + 1) 1 _ _ _ HG1.out.2
  have c22 : w1.cell? ⟨w.heap.size + 1 + 1, 2, none⟩ = some (.bool x.spaced) := cell_of_row w1 (w.heap.size + 1 + 1) 2 _ _ _ HG1.out.2
  have c23 : w1.cell? ⟨w.heap.size + 1 + 1, 3, none⟩ = some (.slice none 0 0) := cell_of_row w1 (w.heap.size + 1 + 1) 3 _ _ _ HG1.out.2
  have f10 : w1.frozen? ⟨w.heap.size + 1, 0, none⟩ = false := frozen_of_row w1 (w.heap.size + 1) 0 _ _ HG1.out.1
  have f11 : w1.frozen? ⟨w.heap.size + 1, 1, none⟩ = false := frozen_of_row w1 (w.heap.size + 1) 1 _ _ HG1.out.1
  have f12 : w1.frozen? ⟨w.heap.size + 1, 2, none⟩ = false := frozen_of_row w1 (w.heap.size + 1) 2 _ _ HG1.out.1
  have f13 : w1.frozen? ⟨w.heap.size + 1, 3, none⟩ = false := frozen_of_row w1 (w.heap.size + 1) 3 _ _ HG1.out.1
  have f23 : w1.frozen? ⟨w.heap.size + 1 + 1, 3, none⟩ = false := frozen_of_row w1 (w.heap.size + 1 + 1) 3 _ _ HG1.out.2
  have hn1 : w.heap.size + 1 ∉ fp1 := fun hx => by have := hlo _ hx; omega
  have hn2 : w.heap.size + 1 + 1 ∉ fp1 := fun hx => by have := hlo _ hx; omega
  have HR := Lib.hid ((sSlice sStr).setB ((sSlice sStr).setB ((sSlice sStr).setB ((sSlice sStr).setB ((sSlice sStr).setB R1 hn2 3 (.slice a1 x.hidden.length cap1)) hn1 0 (.int .i64 x.kind)) hn1 1 (.string x.text)) hn1 2 (.bool x.spaced)) hn1 3 (.slice a1 x.hidden.length cap1))
  have HO := Lib.hid ((((((O1.lower (by omega : w.heap.size ≤ w.heap.size + 1 + 1 + 1)).setCell ⟨w.heap.size + 1 + 1, 3, none⟩ (.slice a1 x.hidden.length cap1)).setCell ⟨w.heap.size + 1, 0, none⟩ (.int .i64 x.kind)).setCell ⟨w.heap.size + 1, 1, none⟩ (.string x.text)).setCell ⟨w.heap.size + 1, 2, none⟩ (.bool x.spaced)).setCell ⟨w.heap.size + 1, 3, none⟩ (.slice a1 x.hidden.length cap1))
  have HB := Lib.hid (((((hb.setCell (p := ⟨w.heap.size + 1 + 1, 3, none⟩) (by simp; omega) (.slice a1 x.hidden.length cap1)).setCell (p := ⟨w.heap.size + 1, 0, none⟩) (by simp) (.int .i64 x.kind)).setCell (p := ⟨w.heap.size + 1, 1, none⟩) (by simp) (.string x.text)).setCell (p := ⟨w.heap.size + 1, 2, none⟩) (by simp) (.bool x.spaced)).setCell (p := ⟨w.heap.size + 1, 3, none⟩) (by simp) (.slice a1 x.hidden.length cap1))
  have HS := Lib.hid (blk_set (blk_set (blk_set (blk_set (blk_other HG1.out.1 (by omega : w.heap.size + 1 ≠ w.heap.size + 1 + 1) 3 (.slice a1 x.hidden.length cap1)) 0 (.int .i64 x.kind)) 1 (.string x.text)) 2 (.bool x.spaced)) 3 (.slice a1 x.hidden.length cap1))
  clear HG1
  go_wp2
  refine bodyPost_ret (results_cell_row rfl _ _ (w.heap.size + 1) _ _ _ _ rfl HS.out Try.underlying28 rfl (by kernel_rfl)) rfl ?_
  exact ⟨[.int .i64 x.kind, .string x.text, .bool x.spaced, .slice a1 x.hidden.length cap1], fp1, rfl, ⟨_, rfl, hk, hok, HR.out⟩, HO.out, HB.out⟩

section
variable {H : Type} {enc : TypeId × Value → H} {w : World} {base : Nat} {spare : Nat → Bool} {held : Bool}
theorem opens_Token : Opens enc Try.prog w base spare held 24 sTok :=
  opens_tok Try.underlying24 (by kernel_rfl) (by kernel_rfl) (opens_int Try.underlying3) (opens_str Try.underlying9) (opens_bool Try.underlying4) (opens_slice Try.underlying22 (by kernel_rfl) (by decide) (opens_str Try.underlying9))
end
abbrev zero_Token : Value := .agg #[.int .i64 0, .string ByteArray.empty, .bool false, .slice none 0 0]

end Go.Proofs.Ytgjjidjkpmmcoaa
