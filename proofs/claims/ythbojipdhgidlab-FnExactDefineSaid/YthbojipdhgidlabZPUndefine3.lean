/- Texts that the proof of PUndefine stands on, in one file. -/
import Derived.Test.YthbojipdhgidlabZPUndefine2
import Derived.Test.YthbojipdhgidlabZPUndefine1
import Derived.Deep.RegionHeld3
import Derived.Deep.QuietTactic
import Derived.BigQuiet
import Derived.Outline
import Derived.StillTailTactics
import Derived.Laws.Cover1
import Derived.IntWalk
import Derived.Laws.Strings2
import Derived.Laws.Concat
import Derived.Test.YthbojipdhgidlabShelf
set_option linter.unusedVariables false
set_option linter.unusedSimpArgs false
/- Tokens and the law's own helpers. -/
namespace Go.Proofs.Ythbojipdhgidlab
open Go.RowKit

def mkToken (k : Int) (x : Tok) : Tok := ⟨k, mtext (k + 1), (k + 1 + 1) % 3 == 0, marks mtext (k + 1 + 1 + 1) x.hidden.length⟩
def cntToken (x : Tok) : Nat := 3 + x.hidden.length
def mkTokenS (k : Int) (l : List Tok) : List Tok := mkAll mkToken cntToken k l
def cntTokenS (l : List Tok) : Nat := cntAll cntToken l

set_option maxHeartbeats 1000000 in
theorem eqToken_same (cs1 cs2 : List Value) (x : Tok) (fp1 fp2 : List Nat) (w : World) (H1 : sTok.R w cs1 x fp1) (H2 : sTok.R w cs2 x fp2) :
    Calls Try.prog 81 #[.agg cs1.toArray, .agg cs2.toArray] w fun e w' => e = .returned (.bool true) ∧ Below w.heap.size w w' := by
  obtain ⟨h1, rfl, _, _, K1⟩ := H1
  obtain ⟨h2, rfl, _, _, K2⟩ := H2
  have b0 := alloc_below' w (.cells #[.int .i64 x.kind, .string x.text, .bool x.spaced, h1] 89)
  have b1 := b0.trans ((alloc_below' (w.alloc (.cells #[.int .i64 x.kind, .string x.text, .bool x.spaced, h1] 89)) (.cells #[.int .i64 x.kind, .string x.text, .bool x.spaced, h2] 89)).mono b0.size)
  have HC : Hid (∀ W, Below w.heap.size w W → Calls Try.prog 48 #[h1, h2] W fun e w' => e = .returned (.bool true) ∧ Below W.heap.size W w') := fun W hb => eqStringS_same h1 h2 x.hidden fp1 fp2 W ((sSlice sStr).below K1 hb) ((sSlice sStr).below K2 hb)
  have e1 : (x.kind != x.kind) = false := by simp
  have e2 := bytes_beq (rfl : x.text = x.text)
  have e3 : (x.spaced != x.spaced) = false := by simp
  go_enter Try.func81, Try.ntmps81
  go_wp2_with (go_at_call 48; refine (HC.out _ b1).mono ?_; rintro e w1 ⟨rfl, hb1⟩)
  go_ret
  exact ⟨rfl, b1.trans (hb1.mono b1.size)⟩

set_option maxHeartbeats 4000000 in
set_option maxRecDepth 100000 in
theorem eqTokenS_same (v1 v2 : Value) (l : List Tok) (fp1 fp2 : List Nat) (w : World) (H1 : (sSlice sTok).R w [v1] l fp1) (H2 : (sSlice sTok).R w [v2] l fp2) :
    Calls Try.prog 49 #[v1, v2] w fun e w' => e = .returned (.bool true) ∧ Below w.heap.size w w' := by
  obtain ⟨a1, cap1, rfl, hc1, hm1, hrow1⟩ := open_rows H1
  obtain ⟨a2, cap2, rfl, hc2, hm2, hrow2⟩ := open_rows H2
  unfold maxLen at hm1 hm2
  have hnb : ((l.length : Int) != (l.length : Int)) = false := by simp
  go_enter Try.func49, Try.ntmps49
  go_wp2
  go_loopw [5] (fun i wr => ∃ k : Nat, k ≤ l.length ∧ i = .int .i64 k ∧ Below w.heap.size w wr) (fun i _ => l.length - (intOf i).toNat)
  case atStart => exact ⟨0, by omega, rfl, Below.refl _ _⟩
  case round =>
    obtain ⟨k, hk, rfl, hb⟩ := hrel
    by_cases hlt : k < l.length
    · obtain ⟨b1, off1, fps1, rfl, hb1, rfl, he1⟩ := hrow1 (by omega)
      obtain ⟨b2, off2, fps2, rfl, hb2, rfl, he2⟩ := hrow2 (by omega)
      obtain ⟨es1, hE1, hR1⟩ := he1 k hlt
      obtain ⟨es2, hE2, hR2⟩ := he2 k hlt
      clear hrow1 hrow2 he1 he2 H1 H2
      have hR1' := hR1
      have hR2' := hR2
      obtain ⟨h1, rfl, _, _, K1⟩ := hR1'
      obtain ⟨h2, rfl, _, _, K2⟩ := hR2'
      have hE1' := hE1.frame (hb.block b1 hb1)
      have hE2' := hE2.frame (hb.block b2 hb2)
      have HC : Hid (∀ W, Below wr.heap.size wr W → Calls Try.prog 81 #[.agg #[.int .i64 l[k].kind, .string l[k].text, .bool l[k].spaced, h1], .agg #[.int .i64 l[k].kind, .string l[k].text, .bool l[k].spaced, h2]] W fun e w' => e = .returned (.bool true) ∧ Below W.heap.size W w') := fun W hW => eqToken_same _ _ l[k] _ _ W (sTok.below (sTok.below hR1 hb) hW) (sTok.below (sTok.below hR2 hb) hW)
      have c10 : wr.cell? ⟨b1, off1 + k * 4, none⟩ = some _ := elem_cell0 hE1' (by decide) rfl
      have c11 : wr.cell? ⟨b1, off1 + k * 4 + 1, none⟩ = some _ := elem_cell (j := 1) hE1' (by decide) rfl
      have c12 : wr.cell? ⟨b1, off1 + k * 4 + 2, none⟩ = some _ := elem_cell (j := 2) hE1' (by decide) rfl
      have c13 : wr.cell? ⟨b1, off1 + k * 4 + 3, none⟩ = some _ := elem_cell (j := 3) hE1' (by decide) rfl
      have c20 : wr.cell? ⟨b2, off2 + k * 4, none⟩ = some _ := elem_cell0 hE2' (by decide) rfl
      have c21 : wr.cell? ⟨b2, off2 + k * 4 + 1, none⟩ = some _ := elem_cell (j := 1) hE2' (by decide) rfl
      have c22 : wr.cell? ⟨b2, off2 + k * 4 + 2, none⟩ = some _ := elem_cell (j := 2) hE2' (by decide) rfl
      have c23 : wr.cell? ⟨b2, off2 + k * 4 + 3, none⟩ = some _ := elem_cell (j := 3) hE2' (by decide) rfl
      go_wp2_with fail
      go_still_tail 8, (by kernel_rfl)
      change wpList _ _ _ _ _ wr.drew
      have hd : Below wr.heap.size wr wr.drew := belowN (Below.refl _ _) 1
      generalize wr.drew = w2 at *
      go_wp2_with (go_at_call 81; refine (HC.out _ hd).mono ?_; rintro e w3 ⟨rfl, hb3⟩)
      go_roundw
      case rel => exact ⟨k + 1, by omega, by go_num, (hb.trans (hd.mono hb.size)).trans (hb3.mono (Nat.le_trans hb.size hd.size))⟩
      case measure => simp [intOf]; omega
    · go_wp2
      go_ret
      exact ⟨rfl, hb⟩

set_option maxHeartbeats 4000000 in
set_option maxRecDepth 100000 in
theorem markTokenS (v : Value) (l : List Tok) (fp : List Nat) (lo : Nat) (k : Int) (w : World) (h0 : 0 ≤ k) (h1 : k + cntTokenS l ≤ 2305843009213693952) (H : (sSlice sTok).R w [v] l fp) (O : Own w lo fp) :
    Calls Try.prog 52 #[v, .int .i64 k] w (Marked (sSlice sTok) v (mkTokenS k l) fp lo (k + cntTokenS l) w) := by
  have HI := Lib.hid H
  obtain ⟨a, cap, rfl, hc, hm, hrow0⟩ := open_rows H
  have hm' := hm
  unfold maxLen at hm
  clear H hrow0
  go_enter Try.func52, Try.ntmps52
  go_wp2
  go_loopw [1, 5] (fun t i wr => ∃ (j : Nat) (L : List Tok) (kk : Int), j ≤ l.length ∧ i = .int .i64 j ∧ t = .int .i64 kk ∧ Hid (kk = k + cntAll cntToken (l.take j)) ∧ Hid (MkUpto mkToken cntToken k l j L) ∧ Hid ((sSlice sTok).R wr [.slice a l.length cap] L fp) ∧ Own wr lo fp ∧ Kept fp w wr) (fun _ i _ => l.length - (intOf i).toNat)
  case atStart => exact ⟨0, l, k, by omega, rfl, rfl, by show _ = _; simp [cntAll], MkUpto.zero _ _, HI.out, O, Kept.refl _ _⟩
  case round =>
    obtain ⟨j, L, kk, hj, rfl, rfl, HKK, HM, HR, HO, HK⟩ := hrel
    by_cases hlt : j < l.length
    · obtain ⟨a', cap', hv, hc', hm'', hrow⟩ := open_rows HR.out
      have hLl := HM.out.len
      obtain ⟨b, off, fps, hab, hb, hfp, he⟩ := hrow (by omega)
      simp only [Value.slice.injEq] at hv
      obtain ⟨rfl, hv2, rfl⟩ := hv
      subst hab
      clear hv2
      rw [hLl] at hfp
      subst hfp
      obtain ⟨es, hE, hR⟩ := he j (by omega)
      rw [HM.out.at hlt] at hR
      have hle := cntAll_le (c := cntToken) l (j + 1)
      rw [cntAll_take hlt] at hle
      have hKb : (0 : Int) ≤ kk ∧ kk + 3 + l[j].hidden.length ≤ 2305843009213693952 := by
        have := HKK.out
        unfold cntTokenS at h1
        have hc3 : cntToken l[j] = 3 + l[j].hidden.length := rfl
        omega
      obtain ⟨hk0, hk1⟩ := hKb
      have HX := Lib.hid (HM.out.succ hlt)
      have HXK : Hid (kk + 3 + l[j].hidden.length = k + cntAll cntToken (l.take (j + 1))) := by
        show _ = _
        rw [cntAll_take hlt]
        have := HKK.out
        have hc3 : cntToken l[j] = 3 + l[j].hidden.length := rfl
        omega
      rw [← HKK.out] at HX
      obtain ⟨h3, rfl, _, _, K3⟩ := hR
      have hnd := HO.1
      have hap := flat_apart hnd hlt
      have hbm : b ∈ b :: (List.range l.length).flatMap fps := by simp
      have Hrow : Hid (∀ (w' : World) (d : Tok) (es' : List Value), Turned b (off + j * sTok.m) (off + j * sTok.m + sTok.m) (fps j) wr w' → ElemAt w' b off sTok.m j es' → sTok.R w' es' d (fps j) → (sSlice sTok).R w' [.slice (some ⟨b, off, none⟩) l.length cap] (L.set j d) (b :: (List.range l.length).flatMap fps)) :=
        fun w' d es' hT h1 h2 => row_turned hLl hc hm' hb he hlt hnd hT h1 h2
      clear he hrow hc' hm'' hle h1 hLl
      have hm4 : sTok.m = 4 := rfl
      rw [hm4] at hE
      have HW0 := Lib.hid (Wr.start (fpj := fps j) hE HO hb hbm hap.1)
      have c0 := HW0.out.cell0 (by decide) rfl
      have f0 := HW0.out.frozen (off + j * 4)
      go_wp2_with fail
      refine (markText _ _ (by omega)).mono ?_
      rintro e W2 ⟨rfl, hb2⟩
      have HW1 := Lib.hid ((HW0.out.set0 (by decide) (.int .i64 kk)).below hb2)
      have K31 := (sSlice sStr).below ((sSlice sStr).setB K3 hap.1 (off + j * 4) (.int .i64 kk)) hb2
      have c1 := HW1.out.cell 1 (by decide) rfl
      have f1 := HW1.out.frozen (off + j * 4 + 1)
      have HW2 := Lib.hid (HW1.out.set 1 (by decide) (.string (mtext (kk + 1))))
      have K32 := (sSlice sStr).setB K31 hap.1 (off + j * 4 + 1) (.string (mtext (kk + 1)))
      have c2 := HW2.out.cell 2 (by decide) rfl
      have f2 := HW2.out.frozen (off + j * 4 + 2)
      have HW3 := Lib.hid (HW2.out.set 2 (by decide) (.bool ((kk + 1 + 1) % 3 == 0)))
      have K33 := (sSlice sStr).setB K32 hap.1 (off + j * 4 + 2) (.bool ((kk + 1 + 1) % 3 == 0))
      have c3 := HW3.out.cell 3 (by decide) rfl
      have HN3 := Lib.hid (HW3.out.o.sub (flat_nodup hnd hlt) (flat_sub hlt))
      have HOK : Hid (okInt kk ∧ okStr (mtext (kk + 1))) := ⟨⟨by omega, by omega⟩, mtext_size (by omega)⟩
      clear c0 f0 hE hb2 K31 K32 HW1 HW0
      go_wp2_with fail
      refine (markStringS _ _ _ lo _ _ (by omega) (by omega) K33 HN3.out).mono ?_
      rintro e W5 ⟨rfl, R5, O5, hk5⟩
      have HW5 := Lib.hid (HW3.out.sub hk5 O5 (fun x hx => hx))
      clear hk5 c3 f1 f2 c1 c2 HW3 HW2 K33 HN3
      have HR5 := Lib.hid (Hrow.out W5 (mkToken kk l[j]) _ HW5.out.t HW5.out.e ⟨h3, rfl, HOK.out.1, HOK.out.2, R5⟩)
      have HK5 := Lib.hid (HK.trans (HW5.out.t.keptAll hlt))
      have HO5 := Lib.hid HW5.out.o
      have hk2 : kk + 1 + 1 + 1 + (l[j].hidden.length : Int) = kk + 3 + l[j].hidden.length := by omega
      clear Hrow HW5 R5 O5 HR HO HK hnd hap hb
      go_wp2
      go_roundw
      case rel => exact ⟨j + 1, _, _, by omega, by go_num, rfl, by show _ = _; have := HXK.out; omega, HX, HR5, HO5.out, HK5.out⟩
      case measure => simp [intOf]; omega
    · have HD := HM.out.done (by omega)
      have hjl : l.take j = l := List.take_of_length_le (by omega)
      have HKD := HKK.out
      rw [hjl] at HKD
      have HF := Lib.hid HKD
      have HRD := HR.out
      rw [HD] at HRD
      have HRF := Lib.hid HRD
      clear hjl HKD HRD HR HM HKK HD
      go_wp2
      go_ret
      exact ⟨by rw [HF.out]; rfl, HRF.out, HO, HK⟩

set_option maxHeartbeats 4000000 in
set_option maxRecDepth 100000 in
theorem heldTokenS (v : Value) (l : List Tok) (fp : List Nat) (k : Int) (w : World) (h0 : 0 ≤ k) (h1 : k + cntTokenS l ≤ 2305843009213693952) (H : (sSlice sTok).R w [v] (mkTokenS k l) fp) :
    Calls Try.prog 54 #[v, .int .i64 k] w fun e w' => e = .returned (.int .i64 (k + cntTokenS l)) ∧ Below w.heap.size w w' := by
  obtain ⟨a, cap, rfl, hc, hm, hrow⟩ := open_rows H
  have hml : (mkTokenS k l).length = l.length := mkAll_len _ _
  rw [hml] at hc ⊢
  unfold maxLen at hm
  have Hrow : Hid (∀ j, (hj : j < l.length) → ∃ b off fps h, a = some ⟨b, off, none⟩ ∧ b < w.heap.size ∧ ElemAt w b off 4 j [.int .i64 (k + cntAll cntToken (l.take j)), .string (mtext (k + cntAll cntToken (l.take j) + 1)), .bool ((k + cntAll cntToken (l.take j) + 1 + 1) % 3 == 0), h] ∧ (sSlice sStr).R w [h] (marks mtext (k + cntAll cntToken (l.take j) + 1 + 1 + 1) l[j].hidden.length) fps) := by
    intro j hj
    obtain ⟨b, off, fps, hab, hb, _, he⟩ := hrow (by omega)
    obtain ⟨es, hE, hR⟩ := he j (by rw [hml]; exact hj)
    have hg : (mkTokenS k l)[j]'(by rw [hml]; exact hj) = mkToken (k + cntAll cntToken (l.take j)) l[j] := mkAll_get k j hj
    rw [hg] at hR
    obtain ⟨h, rfl, _, _, K⟩ := hR
    exact ⟨b, off, fps j, h, hab, hb, hE, K⟩
  clear H hrow hml
  go_enter Try.func54, Try.ntmps54
  go_wp2
  go_loopw [1, 5] (fun t i wr => ∃ (j : Nat) (kk : Int), j ≤ l.length ∧ i = .int .i64 j ∧ t = .int .i64 kk ∧ Hid (kk = k + cntAll cntToken (l.take j)) ∧ Below w.heap.size w wr) (fun _ i _ => l.length - (intOf i).toNat)
  case atStart => exact ⟨0, k, by omega, rfl, rfl, by show _ = _; simp [cntAll], Below.refl _ _⟩
  case round =>
    obtain ⟨j, kk, hj, rfl, rfl, HKK, hbel⟩ := hrel
    by_cases hlt : j < l.length
    · obtain ⟨b, off, fpj, h, rfl, hb, hE, K⟩ := Hrow.out j hlt
      have hle := cntAll_le (c := cntToken) l (j + 1)
      rw [cntAll_take hlt] at hle
      have hKb : (0 : Int) ≤ kk ∧ kk + 3 + l[j].hidden.length ≤ 2305843009213693952 := by
        have := HKK.out
        unfold cntTokenS at h1
        have hc3 : cntToken l[j] = 3 + l[j].hidden.length := rfl
        omega
      obtain ⟨hk0, hk1⟩ := hKb
      have HXK : Hid (kk + 3 + l[j].hidden.length = k + cntAll cntToken (l.take (j + 1))) := by
        show _ = _
        rw [cntAll_take hlt]
        have := HKK.out
        have hc3 : cntToken l[j] = 3 + l[j].hidden.length := rfl
        omega
      rw [← HKK.out] at hE K
      replace hE := hE.frame (hbel.block b hb)
      replace K := (sSlice sStr).below K hbel
      have hbr : b < wr.heap.size := Nat.lt_of_lt_of_le hb hbel.size
      have c0 : wr.cell? ⟨b, off + j * 4, none⟩ = some _ := elem_cell0 hE (by decide) rfl
      have c1 : wr.cell? ⟨b, off + j * 4 + 1, none⟩ = some _ := elem_cell hE (by decide) rfl
      have c2 : wr.cell? ⟨b, off + j * 4 + 2, none⟩ = some _ := elem_cell hE (by decide) rfl
      have c3 : wr.cell? ⟨b, off + j * 4 + 3, none⟩ = some _ := elem_cell hE (by decide) rfl
      have e0 : (kk != kk) = false := by simp
      have e1 := bytes_beq (rfl : mtext (kk + 1) = mtext (kk + 1))
      have e2 : (((kk + 1 + 1) % 3 == 0) != ((kk + 1 + 1) % 3 == 0)) = false := by simp
      clear Hrow h1 hle
      go_wp2_with fail
      go_region_held3 (fun w' => w'.cell? ⟨b, off + j * 4 + 1, none⟩ = some (.string (mtext (kk + 1))))
        (first | go_keep | ((rw [hb2.cell (p := ⟨b, off + j * 4 + 1, none⟩) (by simp; omega)]; assumption)))
        (first | (go_at_call 50; refine (markText _ _ (by omega)).mono ?_; rintro e w2 ⟨rfl, hb2⟩))
      have hbw := hbel.drew.trans (hb2.mono hbel.size)
      have c2' : w2.cell? ⟨b, off + j * 4 + 2, none⟩ = some _ := (hb2.cell (p := ⟨b, off + j * 4 + 2, none⟩) (by simp; omega)).trans c2
      have c3' : w2.cell? ⟨b, off + j * 4 + 3, none⟩ = some _ := (hb2.cell (p := ⟨b, off + j * 4 + 3, none⟩) (by simp; omega)).trans c3
      have K2 := (sSlice sStr).below ((sSlice sStr).frame (w' := wr.drew) (fun _ _ => rfl) K) hb2
      clear c0 c1 c2 c3 K hE hb2
      go_wp2_with (go_at_call 53; refine (heldStringS _ _ _ _ _ (by omega) (by omega) K2).mono ?_; rintro e w3 ⟨rfl, hb3⟩)
      go_roundw
      case rel => exact ⟨j + 1, _, by omega, by go_num, rfl, by show _ = _; have := HXK.out; omega, hbw.trans (hb3.mono hbw.size)⟩
      case measure => simp [intOf]; omega
    · have hjl : l.take j = l := List.take_of_length_le (by omega)
      have HKD := HKK.out
      rw [hjl] at HKD
      have HF := Lib.hid HKD
      clear hjl HKD HKK
      go_wp2
      go_ret
      exact ⟨by rw [HF.out]; rfl, hbel⟩

end Go.Proofs.Ythbojipdhgidlab

/- Tokens as arguments of a law: their size, their copy. -/
namespace Go.Proofs.Ythbojipdhgidlab
open Go.RowKit

def wtToken (x : Tok) : Nat := x.text.size + wtStringS x.hidden

set_option maxHeartbeats 1000000 in
theorem szToken (cs : List Value) (x : Tok) (fp : List Nat) (w : World) (B : Int) (h0 : 0 ≤ B) (h1 : B ≤ 1048576) (H : sTok.R w cs x fp) :
    Calls Try.prog 79 #[.agg cs.toArray, .int .i64 B] w fun e w' => ∃ r : Int, e = .returned (.int .i64 r) ∧ SzR B r (wtToken x) ∧ Below w.heap.size w w' := by
  obtain ⟨h, rfl, _, hok, K⟩ := H
  unfold okStr maxLen at hok
  have b0 := alloc_below' w (.cells #[.int .i64 x.kind, .string x.text, .bool x.spaced, h] 95)
  by_cases ht : B < x.text.size
  · have HN : Hid (SzR B (-1) (wtToken x)) := SzR.no (by unfold wtToken; omega)
    go_enter Try.func79, Try.ntmps79
    go_wp2
    go_ret
    exact ⟨-1, rfl, HN.out, b0⟩
  · have HC : Hid (∀ W, Below w.heap.size w W → Calls Try.prog 44 #[h, .int .i64 (B - x.text.size)] W fun e w' => ∃ r : Int, e = .returned (.int .i64 r) ∧ SzR (B - x.text.size) r (wtStringS x.hidden) ∧ W = w') := fun W hb => szStringS h x.hidden fp W (B - x.text.size) (by omega) (by omega) ((sSlice sStr).below K hb)
    go_enter Try.func79, Try.ntmps79
    go_wp2_with fail
    refine (HC.out _ b0).mono ?_
    rintro e w1 ⟨r, rfl, hr, rfl⟩
    by_cases hn : r < 0
    · have HN : Hid (SzR B (-1) (wtToken x)) := by
        refine SzR.no ?_
        unfold SzR at hr; unfold wtToken; split at hr <;> omega
      go_wp2
      go_ret
      exact ⟨-1, rfl, HN.out, b0⟩
    · have hg := hr.good hn
      have hl := hr.le (by omega)
      have HN : Hid (SzR B r (wtToken x)) := SzR.yes (by unfold wtToken; omega) (by unfold wtToken; omega)
      clear hg hr
      go_wp2
      go_ret
      exact ⟨r, rfl, HN.out, b0⟩

set_option maxHeartbeats 2000000 in
theorem toToken (cs : List Value) (x : Tok) (fp : List Nat) (w : World) (hW : wtToken x ≤ 1048576) (H : sTok.R w cs x fp) :
    Calls Try.prog 80 #[.agg cs.toArray] w (MadeC sTok x w) := by
  obtain ⟨h, rfl, hk, hok, K⟩ := H
  have hW' : wtStringS x.hidden ≤ 1048576 := by unfold wtToken at hW; omega
  have HC : Hid (∀ W, Below w.heap.size w W → Calls Try.prog 46 #[h] W (Made (sSlice sStr) x.hidden W)) := fun W hb => toStringS h x.hidden fp W hW' ((sSlice sStr).below K hb)
  go_enter Try.func80, Try.ntmps80
  have b3 := below3 w #[.int .i64 x.kind, .string x.text, .bool x.spaced, h] #[.int .i64 0, .string ⟨#[]⟩, .bool false, .slice none 0 0] #[.int .i64 x.kind, .string x.text, .bool x.spaced, .slice none 0 0] 95 89 89
  obtain ⟨g1, g2, g3⟩ := alloc3_blk w #[.int .i64 x.kind, .string x.text, .bool x.spaced, h] #[.int .i64 0, .string ⟨#[]⟩, .bool false, .slice none 0 0] #[.int .i64 x.kind, .string x.text, .bool x.spaced, .slice none 0 0] 95 89 89
  have HG := Lib.hid (And.intro g1 (And.intro g2 g3))
  clear g1 g2 g3
  go_wp2_with fail
  refine (HC.out _ b3).mono ?_
  rintro e w1 ⟨h1, fp1, rfl, R1, O1, hb1⟩
  have HG1 : Hid (w1.heap[w.heap.size + 1]? = some (.cells #[.int .i64 0, .string ⟨#[]⟩, .bool false, .slice none 0 0] 89 (0, 0)) ∧ w1.heap[w.heap.size + 1 + 1]? = some (.cells #[.int .i64 x.kind, .string x.text, .bool x.spaced, .slice none 0 0] 89 (0, 0))) :=
    ⟨(hb1.block _ (by rw [HG.out.2.2]; omega)).trans HG.out.1, (hb1.block _ (by rw [HG.out.2.2]; omega)).trans HG.out.2.1⟩
  have hb := b3.trans (hb1.mono b3.size)
  have hlo : ∀ b ∈ fp1, w.heap.size + 3 ≤ b := fun b hb => by have := (O1.2 b hb).1; rw [HG.out.2.2] at this; omega
  rw [HG.out.2.2] at O1
  clear HG hb1 b3 HC
  obtain ⟨a1, cap1, rfl, hq⟩ := open_rows R1
  clear hq
  have c10 : w1.cell? ⟨w.heap.size + 1, 0, none⟩ = some (.int .i64 0) := cell_of_row w1 (w.heap.size + 1) 0 _ _ _ HG1.out.1
  have c11 : w1.cell? ⟨w.heap.size + 1, 1, none⟩ = some (.string ⟨#[]⟩) := cell_of_row w1 (w.heap.size + 1) 1 _ _ _ HG1.out.1
  have c12 : w1.cell? ⟨w.heap.size + 1, 2, none⟩ = some (.bool false) := cell_of_row w1 (w.heap.size + 1) 2 _ _ _ HG1.out.1
  have c13 : w1.cell? ⟨w.heap.size + 1, 3, none⟩ = some (.slice none 0 0) := cell_of_row w1 (w.heap.size + 1) 3 _ _ _ HG1.out.1
  have c20 : w1.cell? ⟨w.heap.size + 1 + 1, 0, none⟩ = some (.int .i64 x.kind) := cell_of_row w1 (w.heap.size + 1 + 1) 0 _ _ _ HG1.out.2
  have c21 : w1.cell? ⟨w.heap.size + 1 + 1, 1, none⟩ = some (.string x.text) := cell_of_row w1 (w.heap.size + 1 + 1) 1 _ _ _ HG1.out.2
  have c22 : w1.cell? ⟨w.heap.size + 1 + 1, 2, none⟩ = some (.bool x.spaced) := cell_of_row w1 (w.heap.size + 1 + 1) 2 _ _ _ HG1.out.2
  have c23 : w1.cell? ⟨w.heap.size + 1 + 1, 3, none⟩ = some (.slice none 0 0) := cell_of_row w1 (w.heap.size + 1 + 1) 3 _ _ _ HG1.out.2
  have f10 : w1.frozen? ⟨w.heap.size + 1, 0, none⟩ = false := frozen_of_row w1 (w.heap.size + 1) 0 _ _ HG1.out.1
  have f11 : w1.frozen? ⟨w.heap.size + 1, 1, none⟩ = false := frozen_of_row w1 (w.heap.size + 1) 1 _ _ HG1.out.1
  have f12 : w1.frozen? ⟨w.heap.size + 1, 2, none⟩ = false := frozen_of_row w1 (w.heap.size + 1) 2 _ _ HG1.out.1
  have f13 : w1.frozen? ⟨w.heap.size + 1, 3, none⟩ = false := frozen_of_row w1 (w.heap.size + 1) 3 _ _ HG1.out.1
  have f23 : w1.frozen? ⟨w.heap.size + 1 + 1, 3, none⟩ = false := frozen_of_row w1 (w.heap.size + 1 + 1) 3 _ _ HG1.out.2
  have hn1 : w.heap.size + 1 ∉ fp1 := fun hx => by have := hlo _ hx; omega
  have hn2 : w.heap.size + 1 + 1 ∉ fp1 := fun hx => by have := hlo _ hx; omega
  have HR := Lib.hid ((sSlice sStr).setB ((sSlice sStr).setB ((sSlice sStr).setB ((sSlice sStr).setB ((sSlice sStr).setB R1 hn2 3 (.slice a1 x.hidden.length cap1)) hn1 0 (.int .i64 x.kind)) hn1 1 (.string x.text)) hn1 2 (.bool x.spaced)) hn1 3 (.slice a1 x.hidden.length cap1))
  have HO := Lib.hid ((((((O1.lower (by omega : w.heap.size ≤ w.heap.size + 1 + 1 + 1)).setCell ⟨w.heap.size + 1 + 1, 3, none⟩ (.slice a1 x.hidden.length cap1)).setCell ⟨w.heap.size + 1, 0, none⟩ (.int .i64 x.kind)).setCell ⟨w.heap.size + 1, 1, none⟩ (.string x.text)).setCell ⟨w.heap.size + 1, 2, none⟩ (.bool x.spaced)).setCell ⟨w.heap.size + 1, 3, none⟩ (.slice a1 x.hidden.length cap1))
  have HB := Lib.hid (((((hb.setCell (p := ⟨w.heap.size + 1 + 1, 3, none⟩) (by simp; omega) (.slice a1 x.hidden.length cap1)).setCell (p := ⟨w.heap.size + 1, 0, none⟩) (by simp) (.int .i64 x.kind)).setCell (p := ⟨w.heap.size + 1, 1, none⟩) (by simp) (.string x.text)).setCell (p := ⟨w.heap.size + 1, 2, none⟩) (by simp) (.bool x.spaced)).setCell (p := ⟨w.heap.size + 1, 3, none⟩) (by simp) (.slice a1 x.hidden.length cap1))
  have HS := Lib.hid (blk_set (blk_set (blk_set (blk_set (blk_other HG1.out.1 (by omega : w.heap.size + 1 ≠ w.heap.size + 1 + 1) 3 (.slice a1 x.hidden.length cap1)) 0 (.int .i64 x.kind)) 1 (.string x.text)) 2 (.bool x.spaced)) 3 (.slice a1 x.hidden.length cap1))
  clear HG1
  go_wp2
  refine bodyPost_ret (results_cell_row rfl _ _ (w.heap.size + 1) _ _ _ _ rfl HS.out Try.underlying89 rfl (by kernel_rfl)) rfl ?_
  exact ⟨[.int .i64 x.kind, .string x.text, .bool x.spaced, .slice a1 x.hidden.length cap1], fp1, rfl, ⟨_, rfl, hk, hok, HR.out⟩, HO.out, HB.out⟩

section
variable {H : Type} {enc : TypeId × Value → H} {w : World} {base : Nat} {spare : Nat → Bool} {held : Bool}
theorem opens_Token : Opens enc Try.prog w base spare held 95 sTok :=
  opens_tok Try.underlying95 (by kernel_rfl) (by kernel_rfl) (opens_int Try.underlying3) (opens_str Try.underlying9) (opens_bool Try.underlying4) (opens_slice Try.underlying32 (by kernel_rfl) (by decide) (opens_str Try.underlying9))
end
abbrev zero_Token : Value := .agg #[.int .i64 0, .string ByteArray.empty, .bool false, .slice none 0 0]

end Go.Proofs.Ythbojipdhgidlab

/- Slices of tokens as arguments of a law: their size, their copy. -/
namespace Go.Proofs.Ythbojipdhgidlab
open Go.RowKit

def wtTokenS (l : List Tok) : Nat := l.length + (l.map wtToken).sum

set_option maxHeartbeats 2000000 in
set_option maxRecDepth 100000 in
theorem szTokenS (v : Value) (l : List Tok) (fp : List Nat) (w : World) (B : Int) (h0 : 0 ≤ B) (h1 : B ≤ 1048576) (H : (sSlice sTok).R w [v] l fp) :
    Calls Try.prog 45 #[v, .int .i64 B] w fun e w' => ∃ r : Int, e = .returned (.int .i64 r) ∧ SzR B r (wtTokenS l) ∧ Below w.heap.size w w' := by
  obtain ⟨a, cap, rfl, hc, hm, hrow⟩ := open_rows H
  unfold maxLen at hm
  clear H
  by_cases hl : B < l.length
  · have HN : Hid (SzR B (-1) (wtTokenS l)) := SzR.no (by unfold wtTokenS; omega)
    go_enter Try.func45, Try.ntmps45
    go_wp2
    go_ret
    exact ⟨-1, rfl, HN.out, Below.refl _ _⟩
  · go_enter Try.func45, Try.ntmps45
    go_wp2
    go_loopw [1, 5] (fun t i wr => ∃ (k : Nat) (r : Int), k ≤ l.length ∧ i = .int .i64 k ∧ t = .int .i64 r ∧ 0 ≤ r ∧ r ≤ B ∧ Hid (r = B - l.length - (((l.take k).map wtToken).sum : Nat)) ∧ Below w.heap.size w wr) (fun _ i _ => l.length - (intOf i).toNat)
    case atStart => exact ⟨0, _, by omega, rfl, rfl, by omega, by omega, by show _ = _; simp, Below.refl _ _⟩
    case round =>
      obtain ⟨k, r, hk, rfl, rfl, hr0, hr1, HA, hb⟩ := hrel
      by_cases hlt : k < l.length
      · obtain ⟨b1, off1, fps1, rfl, hb1, -, he1⟩ := hrow (by omega)
        obtain ⟨es1, hE1, hR1⟩ := he1 k hlt
        clear hrow he1
        have hR2 := sTok.below hR1 hb
        obtain ⟨h1', rfl, _, _, _⟩ := hR1
        have HC := Lib.hid (szToken _ _ _ wr r hr0 (by omega) hR2)
        clear hR2
        replace hE1 := hE1.frame (hb.block b1 hb1)
        have c10 : wr.cell? ⟨b1, off1 + k * 4, none⟩ = some _ := elem_cell0 hE1 (by decide) rfl
        have c11 : wr.cell? ⟨b1, off1 + k * 4 + 1, none⟩ = some _ := elem_cell (j := 1) hE1 (by decide) rfl
        have c12 : wr.cell? ⟨b1, off1 + k * 4 + 2, none⟩ = some _ := elem_cell (j := 2) hE1 (by decide) rfl
        have c13 : wr.cell? ⟨b1, off1 + k * 4 + 3, none⟩ = some _ := elem_cell (j := 3) hE1 (by decide) rfl
        clear hE1
        have HT := Lib.hid (wsum_succ wtToken l k hlt)
        have HT2 := Lib.hid (wsum_le wtToken l (k + 1))
        go_wp2_with fail
        refine (HC.out).mono ?_
        rintro e w1 ⟨r', rfl, hr', hb2⟩
        clear c10 c11 c12 c13
        by_cases hn : r' < 0
        · have HN : Hid (SzR B (-1) (wtTokenS l)) := SzR.no (by
            have hx : r < wtToken l[k] := by unfold SzR at hr'; split at hr' <;> omega
            have := HT2.out; have := HT.out; have := HA.out; unfold wtTokenS; omega)
          go_wp2
          go_ret
          exact ⟨-1, rfl, HN.out, hb.trans (hb2.mono hb.size)⟩
        · have hg := hr'.good hn
          have hle := hr'.le hr0
          have HA' : Hid (r' = B - l.length - (((l.take (k + 1)).map wtToken).sum : Nat)) := by
            show _ = _
            have := HT.out; have := HA.out
            omega
          clear hr' hg
          go_wp2
          go_roundw
          case rel => exact ⟨k + 1, _, by omega, by go_num, rfl, by omega, by omega, HA'.out, hb.trans (hb2.mono hb.size)⟩
          case measure => simp [intOf]; omega
      · have HN : Hid (SzR B r (wtTokenS l)) := by
          have h := HA.out
          rw [List.take_of_length_le (by omega)] at h
          exact SzR.yes (by unfold wtTokenS; omega) (by unfold wtTokenS; omega)
        go_wp2
        go_ret
        exact ⟨r, rfl, HN.out, hb⟩

set_option maxHeartbeats 4000000 in
set_option maxRecDepth 100000 in
theorem toTokenS (v : Value) (l : List Tok) (fp : List Nat) (w : World) (hW : wtTokenS l ≤ 1048576) (H : (sSlice sTok).R w [v] l fp) :
    Calls Try.prog 47 #[v] w (Made (sSlice sTok) l w) := by
  have hB : l.length ≤ 1048576 := by unfold wtTokenS at hW; omega
  have HW : Hid (∀ k, (hk : k < l.length) → wtToken l[k] ≤ 1048576) := fun k hk => by have := wsum_at wtToken l k hk; unfold wtTokenS at hW; omega
  obtain ⟨a, cap, rfl, hc, hm, hrow⟩ := open_rows H
  unfold maxLen at hm
  clear H hW
  go_enter Try.func47, Try.ntmps47
  go_wp2_with (at_make; refine wp_make_full ti_tok _ rfl _ _ rfl w.heap.size l.length rfl rfl (by omega) (by unfold maxLen; omega) (Nat.le_refl _) ?_; intro w1 hown hgrow)
  have hbel := (Below.refl w.heap.size w).grown hgrow (Nat.le_refl _) (by simp)
  have HF0 := Filling.start (S := sTok) (l := l) hown
  clear hgrow hown
  go_loopw [4] (fun i wr => ∃ (k : Nat) (L : List (Elem Tok)) (R : List Value), k ≤ l.length ∧ i = .int .i64 k ∧ Hid (Filling sTok w.heap.size 89 l k wr L R) ∧ Below w.heap.size w wr) (fun i _ => l.length - (intOf i).toNat)
  case atStart => exact ⟨0, _, _, by omega, rfl, HF0, hbel⟩
  case round =>
    obtain ⟨k, L, R, hk, rfl, HF, hb⟩ := hrel
    clear HF0 hbel
    by_cases hlt : k < l.length
    · obtain ⟨b1, off1, fps1, rfl, hb1, -, he1⟩ := hrow (by omega)
      obtain ⟨es1, hE1, hR1⟩ := he1 k hlt
      clear hrow he1
      have hR2 := sTok.below hR1 hb
      obtain ⟨h1', rfl, _, _, _⟩ := hR1
      have HC := Lib.hid (toToken _ _ _ wr (HW.out k hlt) hR2)
      clear hR2
      replace hE1 := hE1.frame (hb.block b1 hb1)
      have c10 : wr.cell? ⟨b1, off1 + k * 4, none⟩ = some _ := elem_cell0 hE1 (by decide) rfl
      have c11 : wr.cell? ⟨b1, off1 + k * 4 + 1, none⟩ = some _ := elem_cell (j := 1) hE1 (by decide) rfl
      have c12 : wr.cell? ⟨b1, off1 + k * 4 + 2, none⟩ = some _ := elem_cell (j := 2) hE1 (by decide) rfl
      have c13 : wr.cell? ⟨b1, off1 + k * 4 + 3, none⟩ = some _ := elem_cell (j := 3) hE1 (by decide) rfl
      clear hE1
      go_wp2_with fail
      refine (HC.out).mono ?_
      rintro e w2 ⟨cs, fp2, rfl, hR2, hO2, hb2⟩
      have HN := Lib.hid (HF.out.next (cs := cs) hlt hb2 (by obtain ⟨_, rfl, _⟩ := hR2; rfl) hR2 hO2)
      obtain ⟨h2, rfl, _, _, K2⟩ := hR2
      obtain ⟨ah, caph, rfl, -⟩ := open_rows K2
      have HF2 := Lib.hid (HF.out.below hb2)
      obtain ⟨u0, d0⟩ : ∃ u, w2.cell? ⟨w.heap.size, k * 4, none⟩ = some u := HF2.out.cell hlt (j := 0) (by decide)
      obtain ⟨u1, d1⟩ : ∃ u, w2.cell? ⟨w.heap.size, k * 4 + 1, none⟩ = some u := HF2.out.cell hlt (j := 1) (by decide)
      obtain ⟨u2, d2⟩ : ∃ u, w2.cell? ⟨w.heap.size, k * 4 + 2, none⟩ = some u := HF2.out.cell hlt (j := 2) (by decide)
      obtain ⟨u3, d3⟩ : ∃ u, w2.cell? ⟨w.heap.size, k * 4 + 3, none⟩ = some u := HF2.out.cell hlt (j := 3) (by decide)
      have f0 := HF2.out.frozen (k * 4)
      have f1 := HF2.out.frozen (k * 4 + 1)
      have f2 := HF2.out.frozen (k * 4 + 2)
      have f3 := HF2.out.frozen (k * 4 + 3)
      clear c10 c11 c12 c13 K2 hO2
      go_wp2
      obtain ⟨R', HN⟩ := HN.out
      go_roundw
      case rel => exact ⟨k + 1, _, R', by omega, by go_num, HN, putAll_below (Nat.le_refl _) [_, _, _, _] _ (k * 4) (hb.trans (hb2.mono hb.size))⟩
      case measure => simp [intOf]; omega
    · obtain ⟨fp', h1, h2⟩ := HF.out.done (by omega)
      go_wp2
      go_ret
      exact ⟨_, fp', rfl, h1, h2, hb⟩

end Go.Proofs.Ythbojipdhgidlab

/- TokenValid: no program. -/
namespace Go.Proofs.Ythbojipdhgidlab
open Go.RowKit

theorem bytesLess_flip : ∀ (x y : List UInt8), Op.bytesLess x y = !(Op.bytesLess y x || y == x)
  | [], [] => rfl
  | _ :: _, [] => by simp [Op.bytesLess]
  | [], _ :: _ => by simp [Op.bytesLess]
  | a :: x, b :: y => by
    have ih := bytesLess_flip x y
    simp only [Op.bytesLess, ih]
    by_cases h : a = b
    · subst h
      have h1 : decide (a < a) = false := by simp [UInt8.lt_irrefl]
      rw [h1]
      cases hL : Op.bytesLess y x <;> by_cases hE : y = x <;> simp [hE]
    · have h2 : (a == b) = false := by simp [h]
      have h3 : (b == a) = false := by simp [Ne.symm h]
      have h4 : ((b :: y) == (a :: x)) = false := by simp [Ne.symm h]
      rw [h2, h3, h4]
      have : decide (a < b) = !decide (b < a) := by
        by_cases hl : a < b
        · have := UInt8.lt_asymm hl; simp [hl, this]
        · have : b < a := by
            rw [UInt8.lt_iff_toNat_lt] at hl ⊢
            have : a.toNat ≠ b.toNat := fun e => h (UInt8.toNat_inj.1 e)
            omega
          simp [hl, this]
      rw [this]; simp

/-- Texts in order. -/
def sLess (a b : ByteArray) : Bool := Op.bytesLess a.toList b.toList
theorem sLess_no {a b : ByteArray} (h : sLess a b = false) : (Op.bytesLess b.toList a.toList || b.toList == a.toList) = true := by
  unfold sLess at h; rw [bytesLess_flip] at h; cases hx : (Op.bytesLess b.toList a.toList || b.toList == a.toList)
  · rw [hx] at h; exact absurd h (by decide)
  · rfl
theorem sLess_yes {a b : ByteArray} (h : sLess a b = true) : (Op.bytesLess b.toList a.toList || b.toList == a.toList) = false := by
  unfold sLess at h; rw [bytesLess_flip] at h; simpa using h

/-- The first token begins where the line begins, or its text is shorter. -/
theorem toks_fit (s : ByteArray) : ∀ (k : Nat) (sp : Bool) (n : Nat) (l : List Tok), toks s k sp n = some l → k ≤ s.size → ∀ t ∈ l, t.text.size ≤ s.size - k := by
  intro k sp n
  induction k, sp, n using toks.induct (s := s) with
  | case1 k sp n hk h32 ih =>
    intro l h hks t ht
    rw [toks, dif_pos hk, if_pos h32] at h
    have := ih l h (by omega) t ht
    omega
  | case2 k sp n hk h32 hb =>
    intro l h hks t ht
    rw [toks, dif_pos hk, if_neg h32, if_pos hb] at h
    exact absurd h (by simp)
  | case3 k sp n hk h32 hb ih =>
    intro l h hks t ht
    rw [toks, dif_pos hk, if_neg h32, if_neg hb] at h
    have hr := cutEnd_room (s := s) (k := k) (by omega)
    rw [Option.map_eq_some_iff] at h
    obtain ⟨l', h1, rfl⟩ := h
    rcases List.mem_cons.1 ht with rfl | ht
    · show (s.extract k (cutEnd s k).toNat).size ≤ _; rw [ByteArray.size_extract]; omega
    · have := ih l' h1 (by omega) t ht
      omega
  | case4 k sp n hk =>
    intro l h hks t ht
    rw [toks, dif_neg hk] at h
    simp only [Option.some.injEq] at h
    subst h; simp at ht
theorem toks_first {s : ByteArray} {t : Tok} {l : List Tok} (h : toks s 0 false 0 = some (t :: l)) (ht : t.text = s) : t.spaced = false := by
  by_cases h0 : 0 < s.size
  · by_cases h32 : s[0].toNat = 32
    · rw [toks, dif_pos h0, if_pos h32] at h
      have := toks_fit s 1 true 0 _ h (by omega) t (by simp)
      rw [ht] at this
      omega
    · rw [toks, dif_pos h0, if_neg h32] at h
      split at h
      · simp at h
      · rw [Option.map_eq_some_iff] at h
        obtain ⟨l', _, h2⟩ := h
        simp only [List.cons.injEq] at h2
        rw [← h2.1]
  · rw [toks, dif_neg h0] at h; simp at h
theorem tokRes_true {s : ByteArray} {l : List Tok} (h : tokRes s = (l, true)) : toks s 0 false 0 = some l ∧ lineOk s = true := by
  unfold tokRes at h
  cases h0 : lineOk s
  · rw [h0, if_neg (by simp)] at h; simp at h
  · rw [h0, if_pos rfl] at h
    cases h1 : toks s 0 false 0 with
    | none => rw [h1] at h; simp at h
    | some l' => rw [h1] at h; simp at h; rw [h]; exact ⟨rfl, rfl⟩
theorem tokRes_false {s : ByteArray} {l : List Tok} (h : tokRes s = (l, false)) : l = [] := by
  unfold tokRes at h
  split at h
  · split at h
    · simp at h
    · simp at h; exact h
  · simp at h; exact h

/-- A text is one token of a kind. -/
def oneTok (x : ByteArray) (k : Int) : Bool := (tokRes x).2 && decide ((tokRes x).1.length = 1) && (tokRes x).1.all (fun t => decide (t.kind = k) && decide (t.text = x))
/-- The ways of a text. -/
theorem one_ways (x : ByteArray) (k : Int) :
    (tokRes x = ([], false) ∧ Hid (oneTok x k = false)) ∨
    (∃ l, tokRes x = (l, true) ∧ l.length ≠ 1 ∧ Hid (oneTok x k = false)) ∨
    (∃ t, tokRes x = ([t], true) ∧ t.kind ≠ k ∧ Hid (oneTok x k = false)) ∨
    (∃ t, tokRes x = ([t], true) ∧ t.kind = k ∧ t.text ≠ x ∧ Hid (oneTok x k = false)) ∨
    (∃ t, tokRes x = ([t], true) ∧ t.kind = k ∧ t.text = x ∧ t.spaced = false ∧ Hid (oneTok x k = true)) := by
  rcases hr : tokRes x with ⟨l, ok⟩
  cases ok
  · obtain rfl := tokRes_false hr
    exact .inl ⟨rfl, by simp [Hid, oneTok, hr]⟩
  · by_cases h1 : l.length = 1
    · obtain ⟨t, rfl⟩ := List.length_eq_one_iff.1 h1
      by_cases h2 : t.kind = k
      · by_cases h3 : t.text = x
        · exact .inr (.inr (.inr (.inr ⟨t, rfl, h2, h3, toks_first (tokRes_true hr).1 h3, by simp [Hid, oneTok, hr, h2, h3]⟩)))
        · exact .inr (.inr (.inr (.inl ⟨t, rfl, h2, h3, by simp [Hid, oneTok, hr, h2, h3]⟩)))
      · exact .inr (.inr (.inl ⟨t, rfl, h2, by simp [Hid, oneTok, hr, h2]⟩))
    · exact .inr (.inl ⟨l, rfl, h1, by simp [Hid, oneTok, hr, h1]⟩)

/-- The name i of a row is a name, and stands behind the one before. -/
def hidOkAt (l : List ByteArray) (i : Nat) : Bool := if h : i < l.length then oneTok l[i] 1 && (decide (i = 0) || sLess (l[i - 1]'(by omega)) l[i]) else true
def hidOk (l : List ByteArray) : Bool := decide (l.length ≤ 60) && (List.range l.length).all (hidOkAt l)
def HidUpto (l : List ByteArray) (k : Nat) : Prop := ∀ j, j < k → hidOkAt l j = true
theorem HidUpto.zero (l : List ByteArray) : HidUpto l 0 := by intro j h; omega
theorem HidUpto.succ {l : List ByteArray} {k : Nat} (h : HidUpto l k) (h1 : hidOkAt l k = true) : HidUpto l (k + 1) := by
  intro j hj
  by_cases e : j = k
  · subst e; exact h1
  · exact h j (by omega)
theorem hidOk_long {l : List ByteArray} (h : 60 < l.length) : hidOk l = false := by unfold hidOk; rw [decide_eq_false (by omega)]; rfl
theorem hidOk_no {l : List ByteArray} {k : Nat} (hk : k < l.length) (h : hidOkAt l k = false) : hidOk l = false := by
  unfold hidOk
  have : (List.range l.length).all (hidOkAt l) = false := by
    rw [List.all_eq_false]; exact ⟨k, by simpa using hk, by simp [h]⟩
  rw [this, Bool.and_false]
theorem hidOk_yes {l : List ByteArray} {k : Nat} (h : HidUpto l k) (hk : l.length ≤ k) (hl : l.length ≤ 60) : hidOk l = true := by
  unfold hidOk
  rw [decide_eq_true hl, Bool.true_and, List.all_eq_true]
  intro i hi
  have : i < l.length := by simpa using hi
  exact h i (by omega)
theorem hidAt_name {l : List ByteArray} {k : Nat} (hk : k < l.length) (h : oneTok l[k] 1 = false) : hidOkAt l k = false := by unfold hidOkAt; rw [dif_pos hk, h]; rfl
theorem hidAt_less {l : List ByteArray} {k : Nat} (hk : k < l.length) (h0 : 0 < k) (h : sLess (l[k - 1]'(by omega)) l[k] = false) : hidOkAt l k = false := by
  unfold hidOkAt; rw [dif_pos hk, h, decide_eq_false (by omega)]; simp
theorem hidAt_first {l : List ByteArray} (hk : 0 < l.length) (h : oneTok l[0] 1 = true) : hidOkAt l 0 = true := by unfold hidOkAt; rw [dif_pos hk, h]; simp
theorem hidAt_later {l : List ByteArray} {k : Nat} (hk : k < l.length) (h0 : 0 < k) (h : oneTok l[k] 1 = true) (h2 : sLess (l[k - 1]'(by omega)) l[k] = true) : hidOkAt l k = true := by
  unfold hidOkAt; rw [dif_pos hk, h, h2]; simp
/-- The ways of the name k. -/
theorem hid_ways {l : List ByteArray} {k : Nat} (hk : k < l.length) :
    (oneTok l[k] 1 = false ∧ Hid (hidOkAt l k = false)) ∨ (oneTok l[k] 1 = true ∧ k = 0 ∧ Hid (hidOkAt l k = true)) ∨
    (∃ hp : 0 < k, oneTok l[k] 1 = true ∧ sLess (l[k - 1]'(by omega)) l[k] = false ∧ Hid (hidOkAt l k = false)) ∨
    (∃ hp : 0 < k, oneTok l[k] 1 = true ∧ sLess (l[k - 1]'(by omega)) l[k] = true ∧ Hid (hidOkAt l k = true)) := by
  cases h : oneTok l[k] 1
  · exact .inl ⟨rfl, hidAt_name hk h⟩
  · by_cases h0 : k = 0
    · subst h0; exact .inr (.inl ⟨rfl, rfl, hidAt_first hk h⟩)
    · cases h2 : sLess (l[k - 1]'(by omega)) l[k]
      · exact .inr (.inr (.inl ⟨by omega, rfl, h2, hidAt_less hk (by omega) h2⟩))
      · exact .inr (.inr (.inr ⟨by omega, rfl, h2, hidAt_later hk (by omega) h h2⟩))

def tokOk (t : Tok) : Bool := oneTok t.text t.kind && hidOk t.hidden

end Go.Proofs.Ythbojipdhgidlab

/- StripComments of the model: the places behind comments and texts, and the whole. -/
namespace Go.Proofs.Ythbojipdhgidlab
open Go.RowKit

/-- A cut of a string between two places. -/
theorem run_cut (s : ByteArray) (i j : Int) (a b : Nat) (hi : i = a) (hj : j = b) (h : a ≤ b) (h2 : b ≤ s.size) (W : World) :
    (Instr.slice 9 (.string s) (some (.int .i64 i)) (some (.int .i64 j)) none).run Try.prog W = .ok (.string (s.extract a b)) W := by
  subst hi; subst hj
  rw [run_slice_string W 9 s .i64 .i64 a b Try.underlying9 (by omega) (by omega) (by omega)]
  simp
theorem ret_int {a b : Int} (h : a = b) : Ending.returned (.int .i64 a) = .returned (.int .i64 b) := by rw [h]

set_option maxHeartbeats 400000 in
theorem spec_l2Text (s : ByteArray) (k0 : Nat) (w : World) (hs : s.size ≤ 1000000) (hk0 : k0 < s.size) :
    Calls Try.prog 99 #[.string s, .int .i64 k0] w fun e w' => e = .returned (.int .i64 (tEnd s (k0 + 1) : Nat)) ∧ w' = w := by
  go_enter Try.func99, Try.ntmps99
  go_wp2
  go_loop [5] (fun i => ∃ k : Nat, k ≤ s.size + 1 ∧ i = .int .i64 k ∧ tEnd s k = tEnd s (k0 + 1)) (fun i => s.size + 1 - (intOf i).toNat)
  case atStart => exact ⟨k0 + 1, by omega, by go_num, rfl⟩
  case round =>
    obtain ⟨k, hk, rfl, he⟩ := hrel
    by_cases hlt : k < s.size
    · by_cases h34 : s[k].toNat = 34
      · have HF := Lib.hid ((tEnd_quote hlt h34).symm.trans he)
        have h34' : ((s[k].toNat : Int) != 34) = false := by simp; omega
        clear he
        go_wp2
        all_goals (go_ret; exact ⟨ret_int (by have := HF.out; omega), rfl⟩)
      · have h34' : ((s[k].toNat : Int) != 34) = true := by simp; omega
        by_cases h92 : s[k].toNat = 92
        · have HF := Lib.hid ((tEnd_back hlt h92).symm.trans he)
          have h92' : ((s[k].toNat : Int) == 92) = true := by simp; omega
          clear he
          go_wp2
          go_round
          case rel => exact ⟨k + 2, by omega, by go_num, HF.out⟩
          case measure => simp [intOf]; omega
        · have HF := Lib.hid ((tEnd_else hlt h34 h92).symm.trans he)
          have h92' : ((s[k].toNat : Int) == 92) = false := by simp; omega
          clear he
          go_wp2
          go_round
          case rel => exact ⟨k + 1, by omega, by go_num, HF.out⟩
          case measure => simp [intOf]; omega
    · have HF := Lib.hid ((tEnd_out (s := s) (k := k) (by omega)).symm.trans he)
      clear he
      go_wp2
      all_goals (go_ret; exact ⟨ret_int (by have := HF.out; omega), rfl⟩)

set_option maxHeartbeats 400000 in
theorem impl_behindText (s : ByteArray) (k0 : Nat) (w : World) (hs : s.size ≤ 1000000) (hk0 : k0 < s.size) :
    Calls Try.prog 109 #[.string s, .int .i64 k0] w fun e w' => e = .returned (.int .i64 (tEnd s (k0 + 1) : Nat)) ∧ w' = w := by
  go_enter Try.func109, Try.ntmps109
  go_wp2
  go_loop [5] (fun i => ∃ k : Nat, k ≤ s.size + 1 ∧ i = .int .i64 k ∧ tEnd s k = tEnd s (k0 + 1)) (fun i => s.size + 1 - (intOf i).toNat)
  case atStart => exact ⟨k0 + 1, by omega, by go_num, rfl⟩
  case round =>
    obtain ⟨k, hk, rfl, he⟩ := hrel
    by_cases hlt : k < s.size
    · by_cases h34 : s[k].toNat = 34
      · have HF := Lib.hid ((tEnd_quote hlt h34).symm.trans he)
        have h34' : ((s[k].toNat : Int) == 34) = true := by simp; omega
        have h92' : ((s[k].toNat : Int) == 92) = false := by simp; omega
        clear he
        go_wp2
        go_ret
        exact ⟨ret_int (by have := HF.out; omega), rfl⟩
      · have h34' : ((s[k].toNat : Int) == 34) = false := by simp; omega
        by_cases h92 : s[k].toNat = 92
        · have HF := Lib.hid ((tEnd_back hlt h92).symm.trans he)
          have h92' : ((s[k].toNat : Int) == 92) = true := by simp; omega
          clear he
          go_wp2
          go_round
          case rel => exact ⟨k + 2, by omega, by go_num, HF.out⟩
          case measure => simp [intOf]; omega
        · have HF := Lib.hid ((tEnd_else hlt h34 h92).symm.trans he)
          have h92' : ((s[k].toNat : Int) == 92) = false := by simp; omega
          clear he
          go_wp2
          go_round
          case rel => exact ⟨k + 1, by omega, by go_num, HF.out⟩
          case measure => simp [intOf]; omega
    · have HF := Lib.hid ((tEnd_out (s := s) (k := k) (by omega)).symm.trans he)
      clear he
      go_wp2
      go_ret
      exact ⟨ret_int (by have := HF.out; omega), rfl⟩

/-- The ways from a place on. -/
def Ways (s : ByteArray) (k : Nat) (out : ByteArray) (hk : k < s.size) : Prop :=
  (two s k 47 47 = true ∧ Hid (strip1 s 0 = some out)) ∨
  (two s k 47 47 = false ∧ two s k 47 42 = true ∧ cEnd s (k + 2) < 0 ∧ Hid (strip1 s 0 = none)) ∨
  (∃ c : Nat, two s k 47 47 = false ∧ two s k 47 42 = true ∧ cEnd s (k + 2) = c ∧ k < c ∧ c ≤ s.size ∧ Hid (At1 s c (out ++ ⟨#[32]⟩))) ∨
  (∃ t : Nat, two s k 47 47 = false ∧ two s k 47 42 = false ∧ ((s[k].toNat : Int) == 34) = true ∧ tEnd s (k + 1) = t ∧ k < t ∧ t ≤ s.size ∧ Hid (At1 s t (out ++ s.extract k t))) ∨
  (two s k 47 47 = false ∧ two s k 47 42 = false ∧ ((s[k].toNat : Int) == 34) = false ∧ Hid (At1 s (k + 1) (out ++ s.extract k (k + 1))))
theorem ways {s : ByteArray} {k : Nat} {out : ByteArray} (hat : At1 s k out) (hk : k < s.size) : Ways s k out hk := by
  unfold Ways
  cases h1 : two s k 47 47
  · cases h2 : two s k 47 42
    · by_cases h3 : s[k].toNat = 34
      · have hb := tEnd_bounds s (k + 1)
        have := hb.2 (by omega)
        exact .inr (.inr (.inr (.inl ⟨_, rfl, rfl, by simp; omega, rfl, by omega, by omega, hat.text hk h1 h2 h3⟩)))
      · exact .inr (.inr (.inr (.inr ⟨rfl, rfl, by simp; omega, hat.byte hk h1 h2 h3⟩)))
    · by_cases h3 : cEnd s (k + 2) < 0
      · exact .inr (.inl ⟨rfl, rfl, h3, hat.open_ hk h1 h2 h3⟩)
      · have := cEnd_room (s := s) (k := k + 2) (by omega) (by have := two_room h2; omega)
        exact .inr (.inr (.inl ⟨(cEnd s (k + 2)).toNat, rfl, rfl, by omega, by omega, by omega, hat.comment hk h1 h2 h3⟩))
  · exact .inl ⟨rfl, hat.line hk h1⟩

end Go.Proofs.Ythbojipdhgidlab

/- The program's tokens: one at a place. -/
namespace Go.Proofs.Ythbojipdhgidlab
open Go.RowKit

theorem ret_ints {a b a' b' : Int} (h : a = a') (h' : b = b') : Ending.returned (.tuple #[.int .i64 a, .int .i64 b]) = .returned (.tuple #[.int .i64 a', .int .i64 b']) := by rw [h, h']

set_option maxHeartbeats 400000 in
theorem impl_isDigit (c : UInt8) (w : World) :
    Calls Try.prog 103 #[.int .u8 (c.toNat : Int)] w fun e w' => e = .returned (.bool (isDig c)) ∧ w = w' := by
  go_enter Try.func103, Try.ntmps103
  go_wp2
  all_goals
    go_ret
    exact ⟨ret_bool (by rw [Bool.eq_iff_iff, isDig_iff]; simp <;> omega), rfl⟩

set_option maxHeartbeats 400000 in
theorem impl_isWordByte (c : UInt8) (w : World) :
    Calls Try.prog 105 #[.int .u8 (c.toNat : Int)] w fun e w' => e = .returned (.bool (isWord c)) ∧ w = w' := by
  go_enter Try.func105, Try.ntmps105
  go_wp2_with (go_at_call 103; refine (impl_isDigit _ _).mono ?_; rintro e w' ⟨rfl, rfl⟩)
  all_goals
    go_ret
    exact ⟨ret_bool (by rw [Bool.eq_iff_iff, isWord_iff]; simp [isDig_iff] <;> omega), rfl⟩

set_option maxHeartbeats 400000 in
theorem impl_behindWord (s : ByteArray) (k0 : Nat) (w : World) (hs : s.size ≤ 1000000) (hk0 : k0 ≤ s.size) :
    Calls Try.prog 104 #[.string s, .int .i64 k0] w fun e w' => e = .returned (.int .i64 (wordTo s k0)) ∧ w = w' := by
  go_enter Try.func104, Try.ntmps104
  go_wp2
  go_loop [5] (fun i => ∃ k : Nat, k0 ≤ k ∧ k ≤ s.size ∧ i = .int .i64 k ∧ wEnd s k = wEnd s k0) (fun i => s.size - (intOf i).toNat)
  case atStart => exact ⟨k0, by omega, by omega, rfl, rfl⟩
  case round =>
    obtain ⟨k, hk0, hk, rfl, he⟩ := hrel
    have HE := Lib.hid he; clear he
    by_cases hlt : k < s.size
    · cases hw : isWord s[k]
      · have HF := Lib.hid ((wEnd_stop hlt hw).symm.trans HE.out)
        go_wp2_with (go_at_call 105; refine (impl_isWordByte _ _).mono ?_; rw [hw]; rintro e w' ⟨rfl, rfl⟩)
        all_goals
          go_ret
          exact ⟨ret_int (by first | exact wordTo_long HF.out (by omega) | exact wordTo_short HF.out (by omega)), rfl⟩
      · have HF := Lib.hid ((wEnd_in hlt hw).symm.trans HE.out)
        go_wp2_with (go_at_call 105; refine (impl_isWordByte _ _).mono ?_; rw [hw]; rintro e w' ⟨rfl, rfl⟩)
        go_round
        case rel => exact ⟨k + 1, by omega, by omega, by go_num, HF.out⟩
        case measure => simp [intOf]; omega
    · have HF := Lib.hid ((wEnd_out (s := s) (k := k) (by omega)).symm.trans HE.out)
      go_wp2
      all_goals
        go_ret
        exact ⟨ret_int (by first | exact wordTo_long HF.out (by omega) | exact wordTo_short HF.out (by omega)), rfl⟩

set_option maxHeartbeats 400000 in
theorem impl_behindClosedText (s : ByteArray) (k0 : Nat) (w : World) (hs : s.size ≤ 999000) (hk0 : k0 < s.size) :
    Calls Try.prog 106 #[.string s, .int .i64 k0] w fun e w' => e = .returned (.int .i64 (closeTo s (k0 + 1))) ∧ w = w' := by
  have hadd := fun W => run_string_add_sum (P := Try.prog) W s ⟨#[32]⟩ (by show s.size + 1 ≤ _; omega)
  have HP := Lib.hid (tEnd_plus s (k0 + 1) (by omega))
  have HS := Lib.hid (plus_size s)
  have HT : Hid (∀ W, Calls Try.prog 109 #[.string (plus s), .int .i64 k0] W fun e w' => e = .returned (.int .i64 (tEnd (plus s) (k0 + 1) : Nat)) ∧ w' = W) := fun W => impl_behindText (plus s) k0 W (by rw [HS.out]; omega) (by rw [HS.out]; omega)
  cases hc : tClose s (k0 + 1) with
  | none =>
    have HV : Hid (tEnd (plus s) (k0 + 1) = s.size + 1) := by show _ = _; rw [HP.out, hc]
    go_enter Try.func106, Try.ntmps106
    go_wp2_with (go_at_call 109; refine (HT.out _).mono ?_; rw [HV.out]; rintro e w' ⟨rfl, rfl⟩)
    go_ret
    exact ⟨ret_int (closeTo_none hc).symm, rfl⟩
  | some e =>
    have hb := tClose_some hc
    have hb1 := hb.1
    have hb2 := hb.2.1
    clear hb
    have HV : Hid (tEnd (plus s) (k0 + 1) = e) := by show _ = _; rw [HP.out, hc]
    go_enter Try.func106, Try.ntmps106
    go_wp2_with (go_at_call 109; refine (HT.out _).mono ?_; rw [HV.out]; rintro e w' ⟨rfl, rfl⟩)
    go_ret
    exact ⟨ret_int (closeTo_some hc).symm, rfl⟩

theorem indexByte_neg : ∀ (l : List UInt8) (c : UInt8), Lib.indexByte l c < 0 ↔ ¬ c ∈ l
  | [], c => by simp [Lib.indexByte]
  | b :: l, c => by
    have ih := indexByte_neg l c
    have hg := Lib.indexByte_ge l c
    unfold Lib.indexByte
    by_cases hb : (b == c) = true
    · rw [if_pos hb]; simp at hb; subst hb; simp
    · rw [if_neg hb]
      have hne : ¬ c = b := fun e => hb (by rw [e]; simp)
      by_cases h1 : (Lib.indexByte l c == -1) = true
      · rw [if_pos h1]
        have : Lib.indexByte l c = -1 := by simpa using h1
        simp only [List.mem_cons, not_or]
        exact ⟨fun _ => ⟨hne, ih.1 (by omega)⟩, fun _ => by omega⟩
      · rw [if_neg h1]
        have : ¬ Lib.indexByte l c = -1 := by simpa using h1
        simp only [List.mem_cons, not_or]
        exact ⟨fun h => absurd h (by omega), fun h => absurd (ih.2 h.2) (by omega)⟩
theorem go_mark (c : UInt8) (w : World) :
    Calls Try.prog 110 #[.string ⟨#[43, 45, 42, 47, 37, 60, 62, 61, 33, 38, 124, 40, 41, 44, 35, 59, 63, 58, 123, 125, 91, 93, 46]⟩, .int .u8 (c.toNat : Int)] w fun e w' => (∃ r : Int, e = .returned (.int .i64 r) ∧ (r < 0 ↔ ¬ c ∈ marks1)) ∧ w = w' := by
  refine (Try.strings_IndexByte _ _ w).mono ?_
  rintro e w' ⟨rfl, rfl⟩
  refine ⟨⟨_, rfl, ?_⟩, rfl⟩
  rw [indexByte_neg]
  have : ((c.toNat : Int)).toNat.toUInt8 = c := by simp
  rw [this]
  exact Iff.rfl

/-- The ways of two bytes. -/
theorem eight (s : ByteArray) (k : Nat) :
    (two s k 61 61 = true ∧ Hid (twoAt s k = true)) ∨
    (two s k 61 61 = false ∧ two s k 33 61 = true ∧ Hid (twoAt s k = true)) ∨
    (two s k 61 61 = false ∧ two s k 33 61 = false ∧ two s k 60 61 = true ∧ Hid (twoAt s k = true)) ∨
    (two s k 61 61 = false ∧ two s k 33 61 = false ∧ two s k 60 61 = false ∧ two s k 62 61 = true ∧ Hid (twoAt s k = true)) ∨
    (two s k 61 61 = false ∧ two s k 33 61 = false ∧ two s k 60 61 = false ∧ two s k 62 61 = false ∧ two s k 38 38 = true ∧ Hid (twoAt s k = true)) ∨
    (two s k 61 61 = false ∧ two s k 33 61 = false ∧ two s k 60 61 = false ∧ two s k 62 61 = false ∧ two s k 38 38 = false ∧ two s k 124 124 = true ∧ Hid (twoAt s k = true)) ∨
    (two s k 61 61 = false ∧ two s k 33 61 = false ∧ two s k 60 61 = false ∧ two s k 62 61 = false ∧ two s k 38 38 = false ∧ two s k 124 124 = false ∧ two s k 35 35 = true ∧ Hid (twoAt s k = true)) ∨
    (two s k 61 61 = false ∧ two s k 33 61 = false ∧ two s k 60 61 = false ∧ two s k 62 61 = false ∧ two s k 38 38 = false ∧ two s k 124 124 = false ∧ two s k 35 35 = false ∧ Hid (twoAt s k = false)) := by
  simp only [Hid, twoAt]
  cases two s k 61 61 <;> cases two s k 33 61 <;> cases two s k 60 61 <;> cases two s k 62 61 <;> cases two s k 38 38 <;> cases two s k 124 124 <;> cases two s k 35 35 <;> simp

theorem markTo_two {s : ByteArray} {k : Nat} (h : twoAt s k = true) : ((k : Int) + 2) = markTo s k := by unfold markTo mLen; rw [if_pos h]; simp
theorem mLen_one {s : ByteArray} {k : Nat} (h : twoAt s k = false) (hk : k < s.size) (hm : s[k] ∈ marks1) : mLen s k = 1 := by unfold mLen; rw [h]; simp [hk, hm]
theorem mLen_none {s : ByteArray} {k : Nat} (h : twoAt s k = false) (hk : k < s.size) (hm : ¬ s[k] ∈ marks1) : mLen s k = 0 := by unfold mLen; rw [h]; simp [hk, hm]
theorem markTo_one {s : ByteArray} {k : Nat} (h : twoAt s k = false) (hk : k < s.size) (hm : s[k] ∈ marks1) : ((k : Int) + 1) = markTo s k := by unfold markTo; rw [mLen_one h hk hm]; simp
theorem markTo_none {s : ByteArray} {k : Nat} (h : twoAt s k = false) (hk : k < s.size) (hm : ¬ s[k] ∈ marks1) : (-1 : Int) = markTo s k := by unfold markTo; rw [mLen_none h hk hm]; simp

set_option maxHeartbeats 1000000 in
theorem impl_behindMark (s : ByteArray) (k : Nat) (w : World) (hs : s.size ≤ 1000000) (hk : k < s.size) :
    Calls Try.prog 107 #[.string s, .int .i64 k] w fun e w' => e = .returned (.int .i64 (markTo s k)) ∧ w = w' := by
  by_cases hr : k + 2 ≤ s.size
  · have hsl := run_cut s (k : Int) ((k : Int) + 2) k (k + 2) rfl (by omega) (by omega) (by omega)
    have e1 := ext_two s k 61 61
    have e2 := ext_two s k 33 61
    have e3 := ext_two s k 60 61
    have e4 := ext_two s k 62 61
    have e5 := ext_two s k 38 38
    have e6 := ext_two s k 124 124
    have e7 := ext_two s k 35 35
    rcases eight s k with ⟨h1, HT⟩ | ⟨h1, h2, HT⟩ | ⟨h1, h2, h3, HT⟩ | ⟨h1, h2, h3, h4, HT⟩ | ⟨h1, h2, h3, h4, h5, HT⟩ | ⟨h1, h2, h3, h4, h5, h6, HT⟩ | ⟨h1, h2, h3, h4, h5, h6, h7, HT⟩ | ⟨h1, h2, h3, h4, h5, h6, h7, HT⟩
    all_goals
      (try rw [h1] at e1); (try rw [h2] at e2); (try rw [h3] at e3); (try rw [h4] at e4); (try rw [h5] at e5); (try rw [h6] at e6); (try rw [h7] at e7)
      go_enter Try.func107, Try.ntmps107
      go_wp2_with (go_at_call 110; refine (go_mark _ _).mono ?_; rintro e w' ⟨⟨r, rfl, hr⟩, rfl⟩; have HR := Lib.hid hr; clear hr)
      all_goals
        go_ret
        exact ⟨ret_int (by first | exact markTo_two HT.out | exact markTo_one HT.out hk (Decidable.byContradiction fun h => absurd (HR.out.2 h) (by omega)) | exact markTo_none HT.out hk (HR.out.1 (by omega))), rfl⟩
  · have HT : Hid (twoAt s k = false) := by
      show _ = _
      cases h : twoAt s k
      · rfl
      · have := twoAt_room h; omega
    go_enter Try.func107, Try.ntmps107
    go_wp2_with (go_at_call 110; refine (go_mark _ _).mono ?_; rintro e w' ⟨⟨r, rfl, hr⟩, rfl⟩; have HR := Lib.hid hr; clear hr)
    all_goals
      go_ret
      exact ⟨ret_int (by first | exact markTo_one HT.out hk (Decidable.byContradiction fun h => absurd (HR.out.2 h) (by omega)) | exact markTo_none HT.out hk (HR.out.1 (by omega))), rfl⟩

theorem kind_dig {c : UInt8} (h : isDig c = true) : (2 : Int) = cutKind c := by unfold cutKind; rw [if_pos h]
theorem kind_word {c : UInt8} (h : isDig c = false) (hw : isWord c = true) : (1 : Int) = cutKind c := by
  unfold cutKind; unfold isWord at hw; rw [h, Bool.or_false] at hw; rw [if_neg (by simp [h]), if_pos hw]
theorem kind_text {c : UInt8} (hw : isWord c = false) (hq : c.toNat = 34) : (3 : Int) = cutKind c := by
  unfold isWord at hw; rw [Bool.or_eq_false_iff] at hw; unfold cutKind; rw [if_neg (by simp [hw.2]), if_neg (by simp [hw.1]), if_pos hq]
theorem kind_mark {c : UInt8} (hw : isWord c = false) (hq : ¬ c.toNat = 34) : (4 : Int) = cutKind c := by
  unfold isWord at hw; rw [Bool.or_eq_false_iff] at hw; unfold cutKind; rw [if_neg (by simp [hw.2]), if_neg (by simp [hw.1]), if_neg hq]
theorem dig_word {c : UInt8} (h : isDig c = true) : isWord c = true := by unfold isWord; rw [h, Bool.or_true]
theorem cutEnd_w {s : ByteArray} {k : Nat} (h : k < s.size) (hw : isWord s[k] = true) : wordTo s k = cutEnd s k := by rw [cutEnd, dif_pos h, if_pos hw]
theorem cutEnd_t {s : ByteArray} {k : Nat} (h : k < s.size) (hw : isWord s[k] = false) (hq : s[k].toNat = 34) : closeTo s (k + 1) = cutEnd s k := by rw [cutEnd, dif_pos h, if_neg (by simp [hw]), if_pos hq]
theorem cutEnd_m {s : ByteArray} {k : Nat} (h : k < s.size) (hw : isWord s[k] = false) (hq : ¬ s[k].toNat = 34) : markTo s k = cutEnd s k := by rw [cutEnd, dif_pos h, if_neg (by simp [hw]), if_neg hq]

set_option maxHeartbeats 1000000 in
theorem impl_tokenAt (s : ByteArray) (k : Nat) (w : World) (hs : s.size ≤ 999000) (hk : k < s.size) :
    Calls Try.prog 94 #[.string s, .int .i64 k] w fun e w' => e = .returned (.tuple #[.int .i64 (cutKind s[k]), .int .i64 (cutEnd s k)]) ∧ w = w' := by
  cases hd : isDig s[k]
  · cases hw : isWord s[k]
    · by_cases hq : s[k].toNat = 34
      · have h34 : ((s[k].toNat : Int) == 34) = true := by simp; omega
        have HF := Lib.hid (cutEnd_t hk hw hq)
        have HK := Lib.hid (kind_text hw hq)
        clear hq
        go_enter Try.func94, Try.ntmps94
        go_wp2_with (first
          | (go_at_call 103; refine (impl_isDigit _ _).mono ?_; rw [hd]; rintro e w' ⟨rfl, rfl⟩)
          | (go_at_call 105; refine (impl_isWordByte _ _).mono ?_; rw [hw]; rintro e w' ⟨rfl, rfl⟩)
          | (go_at_call 106; refine (impl_behindClosedText s k _ hs hk).mono ?_; rintro e w' ⟨rfl, rfl⟩))
        go_ret2
        exact ⟨ret_ints HK.out HF.out, rfl⟩
      · have h34 : ((s[k].toNat : Int) == 34) = false := by simp; omega
        have HF := Lib.hid (cutEnd_m hk hw hq)
        have HK := Lib.hid (kind_mark hw hq)
        clear hq
        go_enter Try.func94, Try.ntmps94
        go_wp2_with (first
          | (go_at_call 103; refine (impl_isDigit _ _).mono ?_; rw [hd]; rintro e w' ⟨rfl, rfl⟩)
          | (go_at_call 105; refine (impl_isWordByte _ _).mono ?_; rw [hw]; rintro e w' ⟨rfl, rfl⟩)
          | (go_at_call 107; refine (impl_behindMark s k _ (by omega) hk).mono ?_; rintro e w' ⟨rfl, rfl⟩))
        go_ret2
        exact ⟨ret_ints HK.out HF.out, rfl⟩
    · have HF := Lib.hid (cutEnd_w hk hw)
      have HK := Lib.hid (kind_word hd hw)
      go_enter Try.func94, Try.ntmps94
      go_wp2_with (first
        | (go_at_call 103; refine (impl_isDigit _ _).mono ?_; rw [hd]; rintro e w' ⟨rfl, rfl⟩)
        | (go_at_call 105; refine (impl_isWordByte _ _).mono ?_; rw [hw]; rintro e w' ⟨rfl, rfl⟩)
        | (go_at_call 104; refine (impl_behindWord s k _ (by omega) (by omega)).mono ?_; rintro e w' ⟨rfl, rfl⟩))
      go_ret2
      exact ⟨ret_ints HK.out HF.out, rfl⟩
  · have HF := Lib.hid (cutEnd_w hk (dig_word hd))
    have HK := Lib.hid (kind_dig hd)
    go_enter Try.func94, Try.ntmps94
    go_wp2_with (first
      | (go_at_call 103; refine (impl_isDigit _ _).mono ?_; rw [hd]; rintro e w' ⟨rfl, rfl⟩)
      | (go_at_call 104; refine (impl_behindWord s k _ (by omega) (by omega)).mono ?_; rintro e w' ⟨rfl, rfl⟩))
    go_ret2
    exact ⟨ret_ints HK.out HF.out, rfl⟩

end Go.Proofs.Ythbojipdhgidlab

/- TokensOf of the program. -/
namespace Go.Proofs.Ythbojipdhgidlab
open Go.RowKit

theorem lineOk_size' {s : ByteArray} (h : lineOk s = true) : s.size ≤ 200 := by
  unfold lineOk at h; rw [Bool.and_eq_true, decide_eq_true_eq] at h; exact h.1
theorem ret_toks {v : Value} {l : List Tok} {b : Bool} {s : ByteArray} (h : tokRes s = (l, b)) {B : Nat} {w w' : World} {fp : List Nat} (hr : (sSlice sTok).R w' [v] l fp) (ho : Own w' w.heap.size fp) (hb : Below w.heap.size w w') :
    TokMade (tokRes s) w (.returned (.tuple #[v, .bool b])) w' := by
  rw [h]; exact ⟨v, fp, rfl, hr, ho, hb⟩
theorem ret_no {s : ByteArray} (h : tokRes s = ([], false)) {w w' : World} {a : Option Addr} {cap : Nat} (hc : cap ≤ maxLen) (hb : Below w.heap.size w w') :
    TokMade (tokRes s) w (.returned (.tuple #[.slice a 0 cap, .bool false])) w' := by
  rw [h]; exact ⟨_, [], rfl, slice_empty _ _ _ _ hc, Own.nil _ _, hb⟩

set_option maxHeartbeats 4000000 in
theorem impl_TokensOf (s : ByteArray) (w : World) (hs : s.size ≤ maxLen) :
    Calls Try.prog 83 #[.string s] w (TokMade (tokRes s) w) := by
  have hm := hs
  unfold maxLen at hm
  cases h0 : lineOk s
  · have HF := Lib.hid (tokRes_bad h0)
    go_enter Try.func83, Try.ntmps83
    go_wp2_with (go_at_call 33; refine (impl_LineValid _ _ hs).mono ?_; rw [h0]; rintro e w' ⟨rfl, rfl⟩)
    go_ret2
    exact ret_no HF.out (by simp) (Below.refl _ _)
  have hsz := lineOk_size' h0
  have H0 := Lib.hid h0
  go_enter Try.func83, Try.ntmps83
  go_wp2_with (go_at_call 33; refine (impl_LineValid _ _ hs).mono ?_; rw [h0]; rintro e w' ⟨rfl, rfl⟩)
  clear h0
  go_loopw [4, 5, 6] (fun v sp i wr => ∃ (k : Nat) (b : Bool) (out : List Tok), k ≤ s.size ∧ i = .int .i64 k ∧ sp = .bool b ∧ AtT s k b out ∧ Fresh s.size out ∧ TokRow w.heap.size v out wr ∧ Below w.heap.size w wr) (fun _ _ i _ => s.size - (intOf i).toNat)
  case atStart => exact ⟨0, false, [], by omega, rfl, rfl, AtT.zero s, Fresh.nil _, TokRow.nil _ _, Below.refl _ _⟩
  case round =>
    obtain ⟨k, b, out, hk, rfl, rfl, hat, hfr, hown, hbel⟩ := hrel
    have ho : out.length ≤ 60 := hat.2
    have hbs := hbel.size
    by_cases hlt : k < s.size
    · by_cases h32 : s[k].toNat = 32
      · have HN := Lib.hid (hat.space hlt h32)
        have h32' : ((s[k].toNat : Int) == 32) = true := by simp; omega
        clear hat h32
        go_wp2
        go_roundw
        case rel => exact ⟨k + 1, true, out, by omega, by go_num, rfl, HN.out, hfr, hown, hbel⟩
        case measure => simp [intOf]; omega
      · have h32' : ((s[k].toNat : Int) == 32) = false := by simp; omega
        rcases cutEnd_ge s k with hneg | ⟨e, he, hke, hes⟩
        · have HF := Lib.hid (tokRes_none (hat.bad hlt h32 (.inl hneg)))
          clear hat h32
          go_wp2_with (go_at_call 94; refine (impl_tokenAt s k _ (by omega) hlt).mono ?_; rintro e w' ⟨rfl, rfl⟩)
          go_ret2
          exact ret_no HF.out (by simp) hbel
        · obtain ⟨a, cap, rfl, hcm⟩ := hown.slice
          by_cases h60 : out.length = 60
          · have HF := Lib.hid (tokRes_none (hat.bad hlt h32 (.inr h60)))
            have h60' : ((out.length : Int) == 60) = true := by simp; omega
            clear hat h32 h60
            go_wp2_with (go_at_call 94; refine (impl_tokenAt s k _ (by omega) hlt).mono ?_; rw [he]; rintro e w' ⟨rfl, rfl⟩)
            go_ret2
            exact ret_no HF.out (by simp) hbel
          · have HN := Lib.hid (hat.tok hlt h32 he h60)
            have HR := Lib.hid (hfr.snoc (k := k) (e := e) (sp := b) (c := s[k]) (Nat.le_refl s.size))
            have h60' : ((out.length : Int) == 60) = false := by simp; omega
            have hsl2 := fun W => (run_cut s (k : Int) (e : Int) k e rfl rfl (by omega) (by omega) W)
            clear hat h32 h60
            go_wp2_with (first
              | (go_at_call 94; refine (impl_tokenAt s k _ (by omega) hlt).mono ?_; rw [he]; rintro e w' ⟨rfl, rfl⟩)
              | (at_builtin; refine wp_append_tok rfl (.tmp 35) (.tmp 43) rfl w.heap.size _ out _ _ _ rfl hown rfl (by omega) hbs ?_; intro v1 w1 hown1 hg1))
            have hbel1 := hbel.grown hg1 hbs hown.mine
            go_roundw
            case rel => exact ⟨e, false, _, hes, rfl, rfl, HN.out, HR.out, hown1, hbel1⟩
            case measure => simp [intOf]; omega
    · have HF := Lib.hid (tokRes_some H0.out (hat.done (by omega)))
      clear hat
      go_wp2
      go_ret2
      obtain ⟨fp, h1, h2, _⟩ := own_toks hown hfr (by omega)
      exact ret_toks (B := 0) HF.out h1 h2 hbel

end Go.Proofs.Ythbojipdhgidlab

/- The model's tokens. -/
namespace Go.Proofs.Ythbojipdhgidlab
open Go.RowKit

set_option maxHeartbeats 400000 in
theorem spec_l3Digit (c : UInt8) (w : World) :
    Calls Try.prog 98 #[.int .u8 (c.toNat : Int)] w fun e w' => e = .returned (.bool (isDig c)) ∧ w = w' := by
  go_enter Try.func98, Try.ntmps98
  go_wp2
  all_goals
    go_ret
    exact ⟨ret_bool (by rw [Bool.eq_iff_iff, isDig_iff]; simp <;> omega), rfl⟩

set_option maxHeartbeats 400000 in
theorem spec_l3Letter (c : UInt8) (w : World) :
    Calls Try.prog 97 #[.int .u8 (c.toNat : Int)] w fun e w' => e = .returned (.bool (isLet c)) ∧ w = w' := by
  go_enter Try.func97, Try.ntmps97
  go_wp2
  all_goals
    go_ret
    exact ⟨ret_bool (by rw [Bool.eq_iff_iff, isLet_iff]; simp <;> omega), rfl⟩

theorem word_of_let {c : UInt8} (h : isLet c = true) : isWord c = true := by unfold isWord; rw [h, Bool.true_or]
theorem word_of_no {c : UInt8} (h : isLet c = false) (h2 : isDig c = false) : isWord c = false := by unfold isWord; rw [h, h2]; rfl

set_option maxHeartbeats 400000 in
theorem spec_l3Back (s : ByteArray) (k0 e : Nat) (w : World) (hs : s.size ≤ 1000000) (he : e ≤ s.size) (h1 : 1 ≤ e) (hk0 : k0 < s.size) :
    Calls Try.prog 100 #[.string s, .int .i64 k0, .int .i64 e] w fun r w' => r = .returned (.bool (decide (bk s (k0 + 1) (e - 1) ≠ e - 1))) ∧ w = w' := by
  go_enter Try.func100, Try.ntmps100
  go_wp2
  go_loop [7] (fun i => ∃ k : Nat, k ≤ s.size + 1 ∧ i = .int .i64 k ∧ bk s k (e - 1) = bk s (k0 + 1) (e - 1)) (fun i => s.size + 1 - (intOf i).toNat)
  case atStart => exact ⟨k0 + 1, by omega, by go_num, rfl⟩
  case round =>
    obtain ⟨k, hk, rfl, hb⟩ := hrel
    by_cases hlt : k < e - 1
    · have hlt' : (k : Int) < (e : Int) - 1 := by omega
      have hks : k < s.size := by omega
      by_cases h92 : s[k].toNat = 92
      · have HF := Lib.hid ((bk_back hlt hks h92).symm.trans hb)
        have h92' : ((s[k].toNat : Int) == 92) = true := by simp; omega
        clear hb h92
        go_wp2
        go_round
        case rel => exact ⟨k + 2, by omega, by go_num, HF.out⟩
        case measure => simp [intOf]; omega
      · have HF := Lib.hid ((bk_else hlt hks h92).symm.trans hb)
        have h92' : ((s[k].toNat : Int) == 92) = false := by simp; omega
        clear hb h92
        go_wp2
        go_round
        case rel => exact ⟨k + 1, by omega, by go_num, HF.out⟩
        case measure => simp [intOf]; omega
    · have HF := Lib.hid ((bk_out (s := s) (k := k) (e := e - 1) (by omega)).symm.trans hb)
      have hge : ¬ (k : Int) < (e : Int) - 1 := by omega
      clear hb
      go_wp2
      go_ret
      exact ⟨ret_bool (by rw [← HF.out, Bool.eq_iff_iff]; simp; omega), rfl⟩

def NoMark (c : UInt8) (k : Nat) : Prop := ∀ j, (h : j < marks1.length) → j < k → marks1[j] ≠ c
theorem NoMark.zero (c : UInt8) : NoMark c 0 := by intro j h hj; omega
theorem NoMark.succ {c : UInt8} {k : Nat} (h : NoMark c k) (hk : k < marks1.length) (hc : marks1[k] ≠ c) : NoMark c (k + 1) := by
  intro j hj hjk
  by_cases e : j = k
  · subst e; exact hc
  · exact h j hj (by omega)
theorem NoMark.none {c : UInt8} (h : NoMark c 23) : ¬ c ∈ marks1 := by
  intro hc
  obtain ⟨i, hi, rfl⟩ := List.getElem_of_mem hc
  exact h i hi hi rfl

set_option maxHeartbeats 1000000 in
theorem spec_l3Mark (s : ByteArray) (k : Nat) (w : World) (hs : s.size ≤ 1000000) (hk : k < s.size) :
    Calls Try.prog 101 #[.string s, .int .i64 k] w fun e w' => e = .returned (.int .i64 (mLen s k : Nat)) ∧ ∃ n, w' = w.drewN n := by
  have hsl : ∀ W, (Instr.slice 9 (.string s) (some (.int .i64 (k : Int))) (some (.int .i64 (min (s.size : Int) ((k : Int) + 2)))) none).run Try.prog W = .ok (.string (s.extract k (k + 2))) W := by
    intro W
    rw [run_cut s _ _ k (min s.size (k + 2)) rfl (by omega) (by omega) (by omega) W, ext_min]
  have e1 := ext_two s k 61 61
  have e2 := ext_two s k 33 61
  have e3 := ext_two s k 60 61
  have e4 := ext_two s k 62 61
  have e5 := ext_two s k 38 38
  have e6 := ext_two s k 124 124
  have e7 := ext_two s k 35 35
  rcases eight s k with ⟨h1, HT⟩ | ⟨h1, h2, HT⟩ | ⟨h1, h2, h3, HT⟩ | ⟨h1, h2, h3, h4, HT⟩ | ⟨h1, h2, h3, h4, h5, HT⟩ | ⟨h1, h2, h3, h4, h5, h6, HT⟩ | ⟨h1, h2, h3, h4, h5, h6, h7, HT⟩ | ⟨h1, h2, h3, h4, h5, h6, h7, HT⟩
  iterate 7
    · (try rw [h1] at e1); (try rw [h2] at e2); (try rw [h3] at e3); (try rw [h4] at e4); (try rw [h5] at e5); (try rw [h6] at e6); (try rw [h7] at e7)
      have HF : Hid (mLen s k = 2) := by show _ = _; unfold mLen; rw [if_pos HT.out]
      go_enter Try.func101, Try.ntmps101
      go_wp2
      go_ret
      exact ⟨ret_int (by rw [HF.out]; rfl), 0, rfl⟩
  · rw [h1] at e1; rw [h2] at e2; rw [h3] at e3; rw [h4] at e4; rw [h5] at e5; rw [h6] at e6; rw [h7] at e7
    go_enter Try.func101, Try.ntmps101
    go_wp2
    go_loopw [7] (fun i wr => ∃ j : Nat, j ≤ 23 ∧ i = .int .i64 j ∧ NoMark s[k] j ∧ ∃ n, wr = w.drewN n) (fun i _ => 23 - (intOf i).toNat)
    case atStart => exact ⟨0, by omega, rfl, NoMark.zero _, 0, rfl⟩
    case round =>
      obtain ⟨j, hj, rfl, hno, n, rfl⟩ := hrel
      by_cases hlt : j < 23
      · have hix : ∀ W, (Instr.index 9 (.string ⟨#[43, 45, 42, 47, 37, 60, 62, 61, 33, 38, 124, 40, 41, 44, 35, 59, 63, 58, 123, 125, 91, 93, 46]⟩) (.int .i64 (j : Int))).run Try.prog W = .ok (.int .u8 ((marks1[j]'hlt).toNat : Int)) W := by
          intro W
          have h1 : (0 : Int) ≤ (j : Int) ∧ (j : Int) < ((⟨#[43, 45, 42, 47, 37, 60, 62, 61, 33, 38, 124, 40, 41, 44, 35, 59, 63, 58, 123, 125, 91, 93, 46]⟩ : ByteArray).size : Int) := ⟨by omega, by show (j : Int) < 23; omega⟩
          rw [run_index_string W _ _ .i64 (j : Int) Try.underlying9, dif_pos h1]
          rfl
        by_cases hc : marks1[j]'hlt = s[k]
        · have HF : Hid (mLen s k = 1) := mLen_one HT.out hk (hc ▸ List.getElem_mem hlt)
          have hce : (((marks1[j]'hlt).toNat : Int) == (s[k].toNat : Int)) = true := by rw [hc]; simp
          clear hc
          go_wp2
          go_quiet (fail)
          go_wp2
          go_ret
          exact ⟨ret_int (by rw [HF.out]; rfl), _, World.drewN_drewN _ _ _⟩
        · have HN := Lib.hid (hno.succ hlt hc)
          have hce : (((marks1[j]'hlt).toNat : Int) == (s[k].toNat : Int)) = false := by
            rw [beq_eq_false_iff_ne]; intro h; exact hc (UInt8.toNat_inj.1 (by omega))
          clear hc hno
          go_wp2
          go_quiet (fail)
          go_wp2
          go_roundw
          case rel => exact ⟨j + 1, by omega, by go_num, HN.out, _, rfl⟩
          case measure => simp [intOf]; omega
      · obtain rfl : j = 23 := by omega
        have HF : Hid (mLen s k = 0) := mLen_none HT.out hk hno.none
        go_wp2
        go_ret
        exact ⟨ret_int (by rw [HF.out]; rfl), _, rfl⟩

theorem sCut_w {s : ByteArray} {k : Nat} (h : k < s.size) (hl : isLet s[k] = true) : sCut s k = (1, (wEnd s (k + 1) : Int)) := by rw [sCut_word h (word_of_let hl), if_pos hl]
theorem sCut_d {s : ByteArray} {k : Nat} (h : k < s.size) (hl : isLet s[k] = false) (hd : isDig s[k] = true) : sCut s k = (2, (wEnd s (k + 1) : Int)) := by rw [sCut_word h (dig_word hd), if_neg (by simp [hl])]
theorem ret_cut {s : ByteArray} {k : Nat} {a b : Int} (h : sCut s k = (a, b)) : Ending.returned (.tuple #[.int .i64 a, .int .i64 b]) = .returned (.tuple #[.int .i64 (sCut s k).1, .int .i64 (sCut s k).2]) := by rw [h]

set_option maxHeartbeats 2000000 in
theorem cut_let (s : ByteArray) (k0 : Nat) (w : World) (hs : s.size ≤ 1000000) (hk0 : k0 < s.size) (hl : isLet s[k0] = true) :
    Calls Try.prog 87 #[.string s, .int .i64 k0] w fun e w' => e = .returned (.tuple #[.int .i64 (sCut s k0).1, .int .i64 (sCut s k0).2]) ∧ ∃ n, w' = w.drewN n := by
  have HF := Lib.hid (sCut_w hk0 hl)
  go_enter Try.func87, Try.ntmps87
  go_wp2_with (first
    | (go_at_call 97; refine (spec_l3Letter _ _).mono ?_; rw [hl]; rintro e w' ⟨rfl, rfl⟩))
  go_loop [6] (fun i => ∃ k : Nat, k0 + 1 ≤ k ∧ k ≤ s.size ∧ i = .int .i64 k ∧ wEnd s k = wEnd s (k0 + 1)) (fun i => s.size - (intOf i).toNat)
  case atStart => exact ⟨k0 + 1, by omega, by omega, by go_num, rfl⟩
  case round =>
    obtain ⟨k, hk1, hk, rfl, he⟩ := hrel
    have HE := Lib.hid he; clear he
    by_cases hlt : k < s.size
    · cases hl2 : isLet s[k]
      · cases hd2 : isDig s[k]
        · have HG := Lib.hid ((wEnd_stop hlt (word_of_no hl2 hd2)).symm.trans HE.out)
          go_wp2_with (first
            | (go_at_call 97; refine (spec_l3Letter _ _).mono ?_; (first | rw [hl2] | rw [hl]); rintro e w' ⟨rfl, rfl⟩)
            | (go_at_call 98; refine (spec_l3Digit _ _).mono ?_; rw [hd2]; rintro e w' ⟨rfl, rfl⟩))
          go_ret2
          exact ⟨ret_cut (by rw [HF.out, ← HG.out]), 0, rfl⟩
        · have HG := Lib.hid ((wEnd_in hlt (dig_word hd2)).symm.trans HE.out)
          go_wp2_with (first
            | (go_at_call 97; refine (spec_l3Letter _ _).mono ?_; rw [hl2]; rintro e w' ⟨rfl, rfl⟩)
            | (go_at_call 98; refine (spec_l3Digit _ _).mono ?_; rw [hd2]; rintro e w' ⟨rfl, rfl⟩))
          go_round
          case rel => exact ⟨k + 1, by omega, by omega, by go_num, HG.out⟩
          case measure => simp [intOf]; omega
      · have HG := Lib.hid ((wEnd_in hlt (word_of_let hl2)).symm.trans HE.out)
        go_wp2_with (first
          | (go_at_call 97; refine (spec_l3Letter _ _).mono ?_; rw [hl2]; rintro e w' ⟨rfl, rfl⟩))
        go_round
        case rel => exact ⟨k + 1, by omega, by omega, by go_num, HG.out⟩
        case measure => simp [intOf]; omega
    · have HG := Lib.hid ((wEnd_out (s := s) (k := k) (by omega)).symm.trans HE.out)
      go_wp2_with (first
        | (go_at_call 97; refine (spec_l3Letter _ _).mono ?_; rw [hl]; rintro e w' ⟨rfl, rfl⟩))
      go_ret2
      exact ⟨ret_cut (by rw [HF.out, ← HG.out]), 0, rfl⟩

set_option maxHeartbeats 2000000 in
theorem cut_dig (s : ByteArray) (k0 : Nat) (w : World) (hs : s.size ≤ 1000000) (hk0 : k0 < s.size) (hl : isLet s[k0] = false) (hd : isDig s[k0] = true) :
    Calls Try.prog 87 #[.string s, .int .i64 k0] w fun e w' => e = .returned (.tuple #[.int .i64 (sCut s k0).1, .int .i64 (sCut s k0).2]) ∧ ∃ n, w' = w.drewN n := by
  have HF := Lib.hid (sCut_d hk0 hl hd)
  go_enter Try.func87, Try.ntmps87
  go_wp2_with (first
    | (go_at_call 97; refine (spec_l3Letter _ _).mono ?_; rw [hl]; rintro e w' ⟨rfl, rfl⟩)
    | (go_at_call 98; refine (spec_l3Digit _ _).mono ?_; rw [hd]; rintro e w' ⟨rfl, rfl⟩))
  go_loop [6] (fun i => ∃ k : Nat, k0 + 1 ≤ k ∧ k ≤ s.size ∧ i = .int .i64 k ∧ wEnd s k = wEnd s (k0 + 1)) (fun i => s.size - (intOf i).toNat)
  case atStart => exact ⟨k0 + 1, by omega, by omega, by go_num, rfl⟩
  case round =>
    obtain ⟨k, hk1, hk, rfl, he⟩ := hrel
    have HE := Lib.hid he; clear he
    by_cases hlt : k < s.size
    · cases hl2 : isLet s[k]
      · cases hd2 : isDig s[k]
        · have HG := Lib.hid ((wEnd_stop hlt (word_of_no hl2 hd2)).symm.trans HE.out)
          go_wp2_with (first
            | (go_at_call 97; refine (spec_l3Letter _ _).mono ?_; (first | rw [hl2] | rw [hl]); rintro e w' ⟨rfl, rfl⟩)
            | (go_at_call 98; refine (spec_l3Digit _ _).mono ?_; rw [hd2]; rintro e w' ⟨rfl, rfl⟩))
          go_ret2
          exact ⟨ret_cut (by rw [HF.out, ← HG.out]), 0, rfl⟩
        · have HG := Lib.hid ((wEnd_in hlt (dig_word hd2)).symm.trans HE.out)
          go_wp2_with (first
            | (go_at_call 97; refine (spec_l3Letter _ _).mono ?_; rw [hl2]; rintro e w' ⟨rfl, rfl⟩)
            | (go_at_call 98; refine (spec_l3Digit _ _).mono ?_; rw [hd2]; rintro e w' ⟨rfl, rfl⟩))
          go_round
          case rel => exact ⟨k + 1, by omega, by omega, by go_num, HG.out⟩
          case measure => simp [intOf]; omega
      · have HG := Lib.hid ((wEnd_in hlt (word_of_let hl2)).symm.trans HE.out)
        go_wp2_with (first
          | (go_at_call 97; refine (spec_l3Letter _ _).mono ?_; rw [hl2]; rintro e w' ⟨rfl, rfl⟩))
        go_round
        case rel => exact ⟨k + 1, by omega, by omega, by go_num, HG.out⟩
        case measure => simp [intOf]; omega
    · have HG := Lib.hid ((wEnd_out (s := s) (k := k) (by omega)).symm.trans HE.out)
      go_wp2_with (first
        | (go_at_call 97; refine (spec_l3Letter _ _).mono ?_; rw [hl]; rintro e w' ⟨rfl, rfl⟩))
      go_ret2
      exact ⟨ret_cut (by rw [HF.out, ← HG.out]), 0, rfl⟩

set_option maxHeartbeats 2000000 in
theorem cut_no (s : ByteArray) (k0 : Nat) (w : World) (hs : s.size ≤ 1000000) (hk0 : k0 < s.size) (hw : isWord s[k0] = false) :
    Calls Try.prog 87 #[.string s, .int .i64 k0] w fun e w' => e = .returned (.tuple #[.int .i64 (sCut s k0).1, .int .i64 (sCut s k0).2]) ∧ ∃ n, w' = w.drewN n := by
  have hl : isLet s[k0] = false := by unfold isWord at hw; rw [Bool.or_eq_false_iff] at hw; exact hw.1
  have hd : isDig s[k0] = false := by unfold isWord at hw; rw [Bool.or_eq_false_iff] at hw; exact hw.2
  by_cases hq : s[k0].toNat = 34
  · have h34 : ((s[k0].toNat : Int) == 34) = true := by simp; omega
    cases hc : tClose s (k0 + 1) with
    | some e =>
      have HF := Lib.hid (sCut_closed hk0 hw hq hc)
      obtain ⟨c1, c2, c3, c4, c5⟩ := tClose_some hc
      have hb := bk_closed hc
      have hB : decide (bk s (k0 + 1) (e - 1) ≠ e - 1) = false := by simp [hb]
      have h5 : ((s[e - 1].toNat : Int) != 34) = false := by simp; omega
      have h6 : ((e : Int) - 1).toNat = e - 1 := by omega
      clear hb hc hq
      go_enter Try.func87, Try.ntmps87
      go_wp2_with (first
        | (go_at_call 97; refine (spec_l3Letter _ _).mono ?_; rw [hl]; rintro e w' ⟨rfl, rfl⟩)
        | (go_at_call 98; refine (spec_l3Digit _ _).mono ?_; rw [hd]; rintro e w' ⟨rfl, rfl⟩)
        | (go_at_call 99; refine (spec_l2Text s k0 _ hs hk0).mono ?_; rw [c3]; rintro e w' ⟨rfl, rfl⟩)
        | (go_at_call 100; refine (spec_l3Back s k0 e _ hs c2 (by omega) hk0).mono ?_; rw [hB]; rintro e w' ⟨rfl, rfl⟩))
      go_ret2
      exact ⟨ret_cut HF.out, 0, rfl⟩
    | none =>
      have HF := Lib.hid (sCut_open hk0 hw hq hc)
      have c3 := tClose_none hc
      have hord : k0 + 1 = s.size ∨ (k0 + 1 < s.size ∧ ((s[s.size - 1].toNat : Int) != 34) = true) ∨ (k0 + 1 < s.size ∧ ((s[s.size - 1].toNat : Int) != 34) = false ∧ decide (bk s (k0 + 1) (s.size - 1) ≠ s.size - 1) = true) := by
        by_cases h1 : k0 + 1 < s.size
        · by_cases h2 : s[s.size - 1].toNat = 34
          · exact .inr (.inr ⟨h1, by simp; omega, by simpa using bk_open hc h1 h2⟩)
          · exact .inr (.inl ⟨h1, by simp; omega⟩)
        · exact .inl (by omega)
      clear hc hq
      have h6 : ((s.size : Int) - 1).toNat = s.size - 1 := by omega
      go_enter Try.func87, Try.ntmps87
      rcases hord with h7 | ⟨h7, h5⟩ | ⟨h7, h5, hB⟩
      all_goals
        go_wp2_with (first
          | (go_at_call 97; refine (spec_l3Letter _ _).mono ?_; rw [hl]; rintro e w' ⟨rfl, rfl⟩)
          | (go_at_call 98; refine (spec_l3Digit _ _).mono ?_; rw [hd]; rintro e w' ⟨rfl, rfl⟩)
          | (go_at_call 99; refine (spec_l2Text s k0 _ hs hk0).mono ?_; rw [c3]; rintro e w' ⟨rfl, rfl⟩)
          | (go_at_call 100; refine (spec_l3Back s k0 s.size _ hs (Nat.le_refl _) (by omega) hk0).mono ?_; rw [hB]; rintro e w' ⟨rfl, rfl⟩))
        go_ret2
        exact ⟨ret_cut HF.out, 0, rfl⟩
  · have h34 : ((s[k0].toNat : Int) == 34) = false := by simp; omega
    have HF := Lib.hid (sCut_mark hk0 hw hq)
    have hml := (mLen_room (s := s) hk0).2
    clear hq
    go_enter Try.func87, Try.ntmps87
    go_wp2_with (first
      | (go_at_call 97; refine (spec_l3Letter _ _).mono ?_; rw [hl]; rintro e w' ⟨rfl, rfl⟩)
      | (go_at_call 98; refine (spec_l3Digit _ _).mono ?_; rw [hd]; rintro e w' ⟨rfl, rfl⟩)
      | (go_at_call 101; refine (spec_l3Mark s k0 _ hs hk0).mono ?_; rintro e w' ⟨rfl, n, rfl⟩))
    go_ret2
    exact ⟨ret_cut (by rw [HF.out]; simp), _, rfl⟩

theorem spec_l3Cut (s : ByteArray) (k0 : Nat) (w : World) (hs : s.size ≤ 1000000) (hk0 : k0 < s.size) :
    Calls Try.prog 87 #[.string s, .int .i64 k0] w fun e w' => e = .returned (.tuple #[.int .i64 (sCut s k0).1, .int .i64 (sCut s k0).2]) ∧ ∃ n, w' = w.drewN n := by
  cases hw : isWord s[k0]
  · exact cut_no s k0 w hs hk0 hw
  · cases h : isLet s[k0]
    · unfold isWord at hw
      rw [h, Bool.false_or] at hw
      exact cut_dig s k0 w hs hk0 h hw
    · exact cut_let s k0 w hs hk0 h

end Go.Proofs.Ythbojipdhgidlab
