/- Texts that the proof of PUndefine stands on, in one file. -/
import Derived.Test.YthbojipdhgidlabZPUndefine2
import Derived.Test.YthbojipdhgidlabZPUndefine1
import Derived.Test.YthbojipdhgidlabZPUndefine3
import Derived.Test.YthbojipdhgidlabZPUndefine4
import Derived.Deep.RegionHeld3
import Derived.Deep.QuietTactic
import Derived.BigQuiet
import Derived.Outline
import Derived.StillTailTactics
import Derived.Deep.Fields
import Derived.ChangeSame
set_option linter.unusedVariables false
set_option linter.unusedSimpArgs false
/- Macro: its shape, and the law's own helpers. (Made by rec.py.) -/
namespace Go.Proofs.Ythbojipdhgidlab
open Go.RowKit Go.ChangeShapes Go.WideShapes Go.Deep

def sMacro : Shape DMacro where
  m := 4
  R w cs d fp := ∃ (h2 : Value) (h3 : Value) (fp2 : List Nat) (fp3 : List Nat), cs = [.string d.name, .bool d.function, h2, h3] ∧ okStr d.name ∧ (sSlice sStr).R w [h2] d.params fp2 ∧ (sSlice sTok).R w [h3] d.body fp3 ∧ fp = fp2 ++ fp3
  frame := by
    rintro w w' cs d fp hf ⟨h2, h3, fp2, fp3, rfl, k0, K2, K3, rfl⟩
    exact ⟨h2, h3, fp2, fp3, rfl, k0, (sSlice sStr).frame (fun b hb => hf b (by simp [hb])) K2, (sSlice sTok).frame (fun b hb => hf b (by simp [hb])) K3, rfl⟩
  lt := by
    rintro w cs d fp ⟨h2, h3, fp2, fp3, rfl, k0, K2, K3, rfl⟩ b hb
    rcases List.mem_append.1 hb with hb | hb
    · exact (sSlice sStr).lt K2 b hb
    · exact (sSlice sTok).lt K3 b hb
theorem ti_Macro : TI Try.prog 23 35 (.agg #[.string ⟨#[]⟩, .bool false, .slice none 0 0, .slice none 0 0]) 4 72 := ⟨by kernel_rfl, by kernel_rfl⟩
def mkMacro (k : Int) (x : DMacro) : DMacro := ⟨mtext (k), (k + 1) % 3 == 0, marks mtext (k + 1 + 1) x.params.length, mkTokenS (k + 1 + 1 + (x.params.length : Int)) x.body⟩
def cntMacro (x : DMacro) : Nat := 2 + x.params.length + cntTokenS x.body
def mkMacroS (k : Int) (l : List DMacro) : List DMacro := mkAll mkMacro cntMacro k l
def cntMacroS (l : List DMacro) : Nat := cntAll cntMacro l
def wtMacro (x : DMacro) : Nat := x.name.size + wtStringS x.params + wtTokenS x.body
def wtMacroS (l : List DMacro) : Nat := l.length + (l.map wtMacro).sum

section
variable {H : Type} {enc : TypeId × Value → H} {P : Program} {w : World} {base : Nat} {spare : Nat → Bool} {held : Bool}
theorem opensP_Macro {t : TypeId} {f0 f1 f2 f3 : Field} (hs : P.underlying t = some (.struct #[f0, f1, f2, f3])) (hone : oneCellFields P #[f0, f1, f2, f3] = true) (hC : P.cellsOf t = 4) (h0 : Opens enc P w base spare held f0.type sStr) (h1 : Opens enc P w base spare held f1.type sBool) (h2 : Opens enc P w base spare held f2.type (sSlice sStr)) (h3 : Opens enc P w base spare held f3.type (sSlice sTok)) : Opens enc P w base spare held t sMacro := by
  intro fuel cs x h
  obtain ⟨xs, n, _, hx, hcl, hlen, hg⟩ := DataW.trod_struct hs h
  rw [hC] at hcl
  match cs, hcl with
  | [c0, c1, c2, c3], _ =>
    obtain ⟨o0, k0⟩ := hone_of hone 0 f0 rfl
    have g0 := hg 0 f0 rfl
    rw [o0, k0] at g0
    obtain ⟨o1, k1⟩ := hone_of hone 1 f1 rfl
    have g1 := hg 1 f1 rfl
    rw [o1, k1] at g1
    obtain ⟨o2, k2⟩ := hone_of hone 2 f2 rfl
    have g2 := hg 2 f2 rfl
    rw [o2, k2] at g2
    obtain ⟨o3, k3⟩ := hone_of hone 3 f3 rfl
    have g3 := hg 3 f3 rfl
    rw [o3, k3] at g3
    match xs, hlen with
    | [y0, y1, y2, y3], _ =>
      obtain ⟨d0, p0, hc0, hok0, rfl⟩ := h0 n _ _ g0
      obtain ⟨d1, p1, hc1, hok1, rfl⟩ := h1 n _ _ g1
      obtain ⟨d2, p2, hc2⟩ := h2 n _ _ g2
      obtain ⟨d3, p3, hc3⟩ := h3 n _ _ g3
      simp at hc0 hc1 hc2 hc3
      subst hc0
      subst hc1
      exact ⟨⟨d0, d1, d2, d3⟩, p2 ++ p3, c2, c3, p2, p3, rfl, hok0, hc2, hc3, rfl⟩
end
section
variable {H : Type} {enc : TypeId × Value → H} {w : World} {base : Nat} {spare : Nat → Bool} {held : Bool}
theorem opens_Macro : Opens enc Try.prog w base spare held 43 sMacro :=
  opensP_Macro Try.underlying43 (by kernel_rfl) (by kernel_rfl) (opens_str Try.underlying9) (opens_bool Try.underlying4) (opens_slice Try.underlying32 (by kernel_rfl) (by decide) (opens_str Try.underlying9)) (opens_slice Try.underlying41 (by kernel_rfl) (by decide) opens_Token)
end
abbrev zero_Macro : Value := .agg #[.string ByteArray.empty, .bool false, .slice none 0 0, .slice none 0 0]

set_option maxHeartbeats 8000000 in
set_option maxRecDepth 100000 in
theorem eqMacro_same (cs1 cs2 : List Value) (x : DMacro) (fp1 fp2 : List Nat) (w : World) (H1 : sMacro.R w cs1 x fp1) (H2 : sMacro.R w cs2 x fp2) :
    Calls Try.prog 21 #[.agg cs1.toArray, .agg cs2.toArray] w fun e w' => e = .returned (.bool true) ∧ Below w.heap.size w w' := by
  obtain ⟨h2, h3, fpa2, fpa3, rfl, -, K2, K3, rfl⟩ := H1
  obtain ⟨g2, g3, fpb2, fpb3, rfl, -, L2, L3, rfl⟩ := H2
  have b0 := alloc_below' w (.cells #[.string x.name, .bool x.function, h2, h3] 35)
  have b1 := b0.trans ((alloc_below' (w.alloc (.cells #[.string x.name, .bool x.function, h2, h3] 35)) (.cells #[.string x.name, .bool x.function, g2, g3] 35)).mono b0.size)
  have HC2 : Hid (∀ W, Below w.heap.size w W → Calls Try.prog 48 #[h2, g2] W fun e w' => e = .returned (.bool true) ∧ Below W.heap.size W w') := fun W hb => eqStringS_same h2 g2 x.params _ _ W ((sSlice sStr).below K2 hb) ((sSlice sStr).below L2 hb)
  have HC3 : Hid (∀ W, Below w.heap.size w W → Calls Try.prog 49 #[h3, g3] W fun e w' => e = .returned (.bool true) ∧ Below W.heap.size W w') := fun W hb => eqTokenS_same h3 g3 x.body _ _ W ((sSlice sTok).below K3 hb) ((sSlice sTok).below L3 hb)
  have HX := Lib.hid (alloc2_blk w #[.string x.name, .bool x.function, h2, h3] #[.string x.name, .bool x.function, g2, g3] 35 35)
  have e0 := bytes_beq (rfl : x.name = x.name)
  have e1 : (x.function != x.function) = false := by simp
  go_enter Try.func21, Try.ntmps21
  go_wp2_with fail
  refine (HC2.out _ b1).mono ?_
  rintro e w2 ⟨rfl, c2⟩
  have d2 := b1.trans (c2.mono b1.size)
  replace HX := Lib.hid (And.intro ((c2.block _ (Array.getElem?_eq_some_iff.1 HX.out.1).1).trans HX.out.1) ((c2.block _ (Array.getElem?_eq_some_iff.1 HX.out.2).1).trans HX.out.2))
  have qa3 : w2.cell? ⟨w.heap.size, 3, none⟩ = some (h3) := cell_of_row _ _ 3 _ _ _ HX.out.1
  have qb3 : w2.cell? ⟨w.heap.size + 1, 3, none⟩ = some (g3) := cell_of_row _ _ 3 _ _ _ HX.out.2
  clear c2
  go_wp2_with fail
  refine (HC3.out _ d2).mono ?_
  rintro e w3 ⟨rfl, c3⟩
  have d3 := d2.trans (c3.mono d2.size)
  go_wp2
  go_ret
  exact ⟨rfl, d3⟩

set_option maxHeartbeats 8000000 in
set_option maxRecDepth 100000 in
theorem eqMacroS_same (v1 v2 : Value) (l : List DMacro) (fp1 fp2 : List Nat) (w : World) (H1 : (sSlice sMacro).R w [v1] l fp1) (H2 : (sSlice sMacro).R w [v2] l fp2) :
    Calls Try.prog 20 #[v1, v2] w fun e w' => e = .returned (.bool true) ∧ Below w.heap.size w w' := by
  obtain ⟨a1, cap1, rfl, hc1, hm1, hrow1⟩ := open_rows H1
  obtain ⟨a2, cap2, rfl, hc2, hm2, hrow2⟩ := open_rows H2
  unfold maxLen at hm1 hm2
  have hnb : ((l.length : Int) != (l.length : Int)) = false := by simp
  go_enter Try.func20, Try.ntmps20
  go_wp2
  go_loopw [5] (fun i wr => ∃ k : Nat, k ≤ l.length ∧ i = .int .i64 k ∧ Below w.heap.size w wr) (fun i _ => l.length - (intOf i).toNat)
  case atStart => exact ⟨0, by omega, rfl, Below.refl _ _⟩
  case round =>
    obtain ⟨k, hk, rfl, hb⟩ := hrel
    by_cases hlt : k < l.length
    · obtain ⟨b1, off1, fps1, rfl, hb1, rfl, he1⟩ := hrow1 (by omega)
      obtain ⟨b2, off2, fps2, rfl, hb2, rfl, he2⟩ := hrow2 (by omega)
      obtain ⟨es1, hE1, hR1⟩ := he1 k hlt
      obtain ⟨es2, hE2, hR2⟩ := he2 k hlt
      clear hrow1 hrow2 he1 he2 H1 H2
      replace hE1 := hE1.frame (hb.block b1 hb1)
      replace hE2 := hE2.frame (hb.block b2 hb2)
      have HC : Hid (∀ W, Below wr.heap.size wr W → Calls Try.prog 21 #[.agg es1.toArray, .agg es2.toArray] W fun e w' => e = .returned (.bool true) ∧ Below W.heap.size W w') := fun W hW => eqMacro_same _ _ l[k] _ _ W (sMacro.below (sMacro.below hR1 hb) hW) (sMacro.below (sMacro.below hR2 hb) hW)
      obtain ⟨h2, h3, fpa2, fpa3, rfl, -, K2, K3, -⟩ := hR1
      obtain ⟨g2, g3, fpb2, fpb3, rfl, -, L2, L3, -⟩ := hR2
      have c1_0 : wr.cell? ⟨b1, off1 + k * 4, none⟩ = some _ := elem_cell0 hE1 (by decide) rfl
      have c1_1 : wr.cell? ⟨b1, off1 + k * 4 + 1, none⟩ = some _ := elem_cell (j := 1) hE1 (by decide) rfl
      have c1_2 : wr.cell? ⟨b1, off1 + k * 4 + 2, none⟩ = some _ := elem_cell (j := 2) hE1 (by decide) rfl
      have c1_3 : wr.cell? ⟨b1, off1 + k * 4 + 3, none⟩ = some _ := elem_cell (j := 3) hE1 (by decide) rfl
      have c2_0 : wr.cell? ⟨b2, off2 + k * 4, none⟩ = some _ := elem_cell0 hE2 (by decide) rfl
      have c2_1 : wr.cell? ⟨b2, off2 + k * 4 + 1, none⟩ = some _ := elem_cell (j := 1) hE2 (by decide) rfl
      have c2_2 : wr.cell? ⟨b2, off2 + k * 4 + 2, none⟩ = some _ := elem_cell (j := 2) hE2 (by decide) rfl
      have c2_3 : wr.cell? ⟨b2, off2 + k * 4 + 3, none⟩ = some _ := elem_cell (j := 3) hE2 (by decide) rfl
      go_wp2_with fail
      go_still_tail 8, (by kernel_rfl)
      change wpList _ _ _ _ _ wr.drew
      have hd : Below wr.heap.size wr wr.drew := belowN (Below.refl _ _) 1
      generalize wr.drew = w2 at *
      go_wp2_with (go_at_call 21; refine (HC.out _ hd).mono ?_; rintro e w3 ⟨rfl, hb3⟩)
      go_roundw
      case rel => exact ⟨k + 1, by omega, by go_num, (hb.trans (hd.mono hb.size)).trans (hb3.mono (Nat.le_trans hb.size hd.size))⟩
      case measure => simp [intOf]; omega
    · go_wp2
      go_ret
      exact ⟨rfl, hb⟩

set_option maxHeartbeats 8000000 in
set_option maxRecDepth 100000 in
theorem markMacroS (v : Value) (l : List DMacro) (fp : List Nat) (lo : Nat) (k : Int) (w : World) (h0 : 0 ≤ k) (h1 : k + cntMacroS l ≤ 2305843009213693952) (H : (sSlice sMacro).R w [v] l fp) (O : Own w lo fp) :
    Calls Try.prog 22 #[v, .int .i64 k] w (Marked (sSlice sMacro) v (mkMacroS k l) fp lo (k + cntMacroS l) w) := by
  have HI := Lib.hid H
  obtain ⟨a, cap, rfl, hc, hm, hrow0⟩ := open_rows H
  have hm' := hm
  unfold maxLen at hm
  clear H hrow0
  go_enter Try.func22, Try.ntmps22
  go_wp2
  go_loopw [1, 5] (fun t i wr => ∃ (j : Nat) (L : List DMacro) (kk : Int), j ≤ l.length ∧ i = .int .i64 j ∧ t = .int .i64 kk ∧ Hid (kk = k + cntAll cntMacro (l.take j)) ∧ Hid (MkUpto mkMacro cntMacro k l j L) ∧ Hid ((sSlice sMacro).R wr [.slice a l.length cap] L fp) ∧ Own wr lo fp ∧ Kept fp w wr) (fun _ i _ => l.length - (intOf i).toNat)
  case atStart => exact ⟨0, l, k, by omega, rfl, rfl, by show _ = _; simp [cntAll], MkUpto.zero _ _, HI.out, O, Kept.refl _ _⟩
  case round =>
    obtain ⟨j, L, kk, hj, rfl, rfl, HKK, HM, HR, HO, HK⟩ := hrel
    by_cases hlt : j < l.length
    · obtain ⟨a', cap', hv, hc', hm'', hrow⟩ := open_rows HR.out
      have hLl := HM.out.len
      obtain ⟨b, off, fps, hab, hb, hfp, he⟩ := hrow (by omega)
      simp only [Value.slice.injEq] at hv
      obtain ⟨rfl, hv2, rfl⟩ := hv
      subst hab
      clear hv2
      rw [hLl] at hfp
      subst hfp
      obtain ⟨es, hE, hR⟩ := he j (by omega)
      rw [HM.out.at hlt] at hR
      have hle := cntAll_le (c := cntMacro) l (j + 1)
      rw [cntAll_take hlt] at hle
      have hc3 : cntMacro l[j] = 2 + l[j].params.length + cntTokenS l[j].body := rfl
      have hKb : (0 : Int) ≤ kk ∧ kk + ((2 + l[j].params.length + cntTokenS l[j].body : Nat) : Int) ≤ 2305843009213693952 := by
        have := HKK.out
        unfold cntMacroS at h1
        omega
      obtain ⟨hk0, hk1⟩ := hKb
      have HX := Lib.hid (HM.out.succ hlt)
      have HXK : Hid (kk + ((2 + l[j].params.length + cntTokenS l[j].body : Nat) : Int) = k + cntAll cntMacro (l.take (j + 1))) := by
        show _ = _
        rw [cntAll_take hlt]
        have := HKK.out
        omega
      rw [← HKK.out] at HX
      obtain ⟨h2, h3, fp_2, fp_3, rfl, _k0, K2, K3, hfj⟩ := hR
      have hnd := HO.1
      have hap := flat_apart hnd hlt
      have hbm : b ∈ b :: (List.range l.length).flatMap fps := by simp
      have Hrow : Hid (∀ (w' : World) (d : DMacro) (es' : List Value), Turned b (off + j * sMacro.m) (off + j * sMacro.m + sMacro.m) (fps j) wr w' → ElemAt w' b off sMacro.m j es' → sMacro.R w' es' d (fps j) → (sSlice sMacro).R w' [.slice (some ⟨b, off, none⟩) l.length cap] (L.set j d) (b :: (List.range l.length).flatMap fps)) :=
        fun w' d es' hT h1 h2 => row_turned hLl hc hm' hb he hlt hnd hT h1 h2
      clear he hrow hc' hm'' hle h1 hLl hc3
      have hm4 : sMacro.m = 4 := rfl
      rw [hm4] at hE
      have hnj := flat_nodup hnd hlt
      rw [hfj] at hnj hap
      have Hfj := Lib.hid hfj
      obtain ⟨hn1, hn2, hn3⟩ := List.nodup_append.1 hnj
      clear hfj
      have W0 := Lib.hid (Wr.start (fpj := (fp_2 ++ fp_3)) hE HO hb hbm hap.1)
      have HOK : Hid (okStr (mtext (kk))) := mtext_size (by omega)
      go_wp2_with fail
      refine (markText _ _ (by omega)).mono ?_
      rintro e u0 ⟨rfl, hb0⟩
      have W1 := Lib.hid (W0.out.below hb0)
      replace K2 := (sSlice sStr).below K2 hb0
      replace K3 := (sSlice sTok).below K3 hb0
      clear hb0 
      have c0 := W1.out.cell0 (by decide) rfl
      have f0 := W1.out.frozen (off + j * 4)
      have W2 := Lib.hid (W1.out.set0 (by decide) (.string (mtext (kk))))
      replace K2 := (sSlice sStr).setB (b := b) K2 (fun hx => hap.1 (by simp [hx])) (off + j * 4) (.string (mtext (kk)))
      replace K3 := (sSlice sTok).setB (b := b) K3 (fun hx => hap.1 (by simp [hx])) (off + j * 4) (.string (mtext (kk)))
      have c1 := W2.out.cell 1 (by decide) rfl
      have f1 := W2.out.frozen (off + j * 4 + 1)
      have W3 := Lib.hid (W2.out.set 1 (by decide) (.bool ((kk + 1) % 3 == 0)))
      replace K2 := (sSlice sStr).setB (b := b) K2 (fun hx => hap.1 (by simp [hx])) (off + j * 4 + 1) (.bool ((kk + 1) % 3 == 0))
      replace K3 := (sSlice sTok).setB (b := b) K3 (fun hx => hap.1 (by simp [hx])) (off + j * 4 + 1) (.bool ((kk + 1) % 3 == 0))
      have c2 := W3.out.cell 2 (by decide) rfl
      have HN2 := Lib.hid (W3.out.o.sub hn1 (fun x hx => flat_sub hlt x (by rw [Hfj.out]; simp [hx])))
      go_wp2_with fail
      refine (markStringS _ _ _ lo _ _ (by omega) (by omega) K2 HN2.out).mono ?_
      rintro e u2 ⟨rfl, R2, O2, hk2⟩
      have W4 := Lib.hid (W3.out.sub hk2 O2 (fun x hx => by simp [hx]))
      replace K3 := (sSlice sTok).kept K3 (fun b hb hx => hn3 b hx b hb rfl) hk2
      clear hk2 HN2 O2 c0 f0 c1 f1 c2
      have c3 := W4.out.cell 3 (by decide) rfl
      have HN3 := Lib.hid (W4.out.o.sub hn2 (fun x hx => flat_sub hlt x (by rw [Hfj.out]; simp [hx])))
      go_wp2_with fail
      refine (markTokenS _ _ _ lo _ _ (by omega) (by omega) K3 HN3.out).mono ?_
      rintro e u3 ⟨rfl, R3, O3, hk3⟩
      have W5 := Lib.hid (W4.out.sub hk3 O3 (fun x hx => by simp [hx]))
      replace R2 := (sSlice sStr).kept R2 (fun b hb hx => hn3 b hb b hx rfl) hk3
      clear hk3 HN3 O3 c3
      rw [← Hfj.out] at W5
      have HRn := Lib.hid (Hrow.out _ (mkMacro kk l[j]) _ W5.out.t W5.out.e ⟨h2, h3, fp_2, fp_3, rfl, HOK.out, R2, R3, Hfj.out⟩)
      have HKn := Lib.hid (HK.trans (W5.out.t.keptAll hlt))
      have HOn := Lib.hid W5.out.o
      clear Hrow HR HO HK hnd hap hb W0 W1 W2 W3 W4 W5 R2 R3
      go_wp2
      go_roundw
      case rel => exact ⟨j + 1, _, _, by omega, by go_num, rfl, by show _ = _; have := HXK.out; omega, HX, HRn, HOn.out, HKn.out⟩
      case measure => simp [intOf]; omega
    · have HD := HM.out.done (by omega)
      have hjl : l.take j = l := List.take_of_length_le (by omega)
      have HKD := HKK.out
      rw [hjl] at HKD
      have HF := Lib.hid HKD
      have HRD := HR.out
      rw [HD] at HRD
      have HRF := Lib.hid HRD
      clear hjl HKD HRD HR HM HKK HD
      go_wp2
      go_ret
      exact ⟨by rw [HF.out]; rfl, HRF.out, HO, HK⟩

set_option maxHeartbeats 8000000 in
set_option maxRecDepth 100000 in
theorem heldMacroS (v : Value) (l : List DMacro) (fp : List Nat) (k : Int) (w : World) (h0 : 0 ≤ k) (h1 : k + cntMacroS l ≤ 2305843009213693952) (H : (sSlice sMacro).R w [v] (mkMacroS k l) fp) :
    Calls Try.prog 24 #[v, .int .i64 k] w fun e w' => e = .returned (.int .i64 (k + cntMacroS l)) ∧ Below w.heap.size w w' := by
  obtain ⟨a, cap, rfl, hc, hm, hrow⟩ := open_rows H
  have hml : (mkMacroS k l).length = l.length := mkAll_len _ _
  rw [hml] at hc ⊢
  unfold maxLen at hm
  have Hrow : Hid (∀ j, (hj : j < l.length) → ∃ (b off : Nat) (h2 : Value) (h3 : Value) (fp2 : List Nat) (fp3 : List Nat), a = some ⟨b, off, none⟩ ∧ b < w.heap.size ∧ ∀ K : Int, K = k + cntAll cntMacro (l.take j) → ElemAt w b off 4 j [.string (mtext (K)), .bool ((K + 1) % 3 == 0), h2, h3] ∧ (sSlice sStr).R w [h2] (marks mtext (K + 1 + 1) l[j].params.length) fp2 ∧ (sSlice sTok).R w [h3] (mkTokenS (K + 1 + 1 + (l[j].params.length : Int)) l[j].body) fp3) := by
    intro j hj
    obtain ⟨b, off, fps, hab, hb, _, he⟩ := hrow (by omega)
    obtain ⟨es, hE, hR⟩ := he j (by rw [hml]; exact hj)
    have hg : (mkMacroS k l)[j]'(by rw [hml]; exact hj) = mkMacro (k + cntAll cntMacro (l.take j)) l[j] := mkAll_get k j hj
    rw [hg] at hR
    obtain ⟨h2, h3, fp2, fp3, rfl, _, K2, K3, -⟩ := hR
    exact ⟨b, off, h2, h3, fp2, fp3,  hab, hb, by rintro K rfl; exact ⟨hE, K2, K3⟩⟩
  clear H hrow hml
  go_enter Try.func24, Try.ntmps24
  go_wp2
  go_loopw [1, 5] (fun t i wr => ∃ (j : Nat) (kk : Int), j ≤ l.length ∧ i = .int .i64 j ∧ t = .int .i64 kk ∧ Hid (kk = k + cntAll cntMacro (l.take j)) ∧ Below w.heap.size w wr) (fun _ i _ => l.length - (intOf i).toNat)
  case atStart => exact ⟨0, k, by omega, rfl, rfl, by show _ = _; simp [cntAll], Below.refl _ _⟩
  case round =>
    obtain ⟨j, kk, hj, rfl, rfl, HKK, hbel⟩ := hrel
    by_cases hlt : j < l.length
    · obtain ⟨b, off, h2, h3, fp2, fp3,  rfl, hb, hEK⟩ := Hrow.out j hlt
      have hle := cntAll_le (c := cntMacro) l (j + 1)
      rw [cntAll_take hlt] at hle
      have hc3 : cntMacro l[j] = 2 + l[j].params.length + cntTokenS l[j].body := rfl
      have hKb : (0 : Int) ≤ kk ∧ kk + ((2 + l[j].params.length + cntTokenS l[j].body : Nat) : Int) ≤ 2305843009213693952 := by
        have := HKK.out
        unfold cntMacroS at h1
        omega
      obtain ⟨hk0, hk1⟩ := hKb
      have HXK : Hid (kk + ((2 + l[j].params.length + cntTokenS l[j].body : Nat) : Int) = k + cntAll cntMacro (l.take (j + 1))) := by
        show _ = _
        rw [cntAll_take hlt]
        have := HKK.out
        omega
      obtain ⟨hE, K2, K3⟩ := hEK kk HKK.out
      replace hE := hE.frame (hbel.block b hb)
      clear Hrow h1 hle hEK hc3
      replace K2 := (sSlice sStr).below K2 hbel
      replace K3 := (sSlice sTok).below K3 hbel
      have hbr : b < wr.heap.size := Nat.lt_of_lt_of_le hb hbel.size
      have e0 := bytes_beq (rfl : mtext (kk) = mtext (kk))
      have e1 : (((kk + 1) % 3 == 0) != ((kk + 1) % 3 == 0)) = false := by simp
      have c0 : wr.cell? ⟨b, off + j * 4, none⟩ = some _ := elem_cell0 hE (by decide) rfl
      have c1 : wr.cell? ⟨b, off + j * 4 + 1, none⟩ = some _ := elem_cell hE (by decide) rfl
      have c2 : wr.cell? ⟨b, off + j * 4 + 2, none⟩ = some _ := elem_cell hE (by decide) rfl
      have c3 : wr.cell? ⟨b, off + j * 4 + 3, none⟩ = some _ := elem_cell hE (by decide) rfl
      go_wp2_with fail
      go_region_held3 (fun w' => w'.cell? ⟨b, off + j * 4, none⟩ = some (.string (mtext (kk))))
        (first | go_keep | ((rw [hb0.cell (p := ⟨b, off + j * 4, none⟩) (by simp; omega)]; assumption)))
        (first | (go_at_call 50; refine (markText _ _ (by omega)).mono ?_; rintro e u0 ⟨rfl, hb0⟩))
      have B0 := hbel.drew.trans (hb0.mono hbel.size)
      clear c0 c1 c2 c3
      replace hE := (show ElemAt wr.drew b off 4 j _ from hE).frame (hb0.block b (by simp; omega))
      replace K2 := (sSlice sStr).below ((sSlice sStr).frame (w' := wr.drew) (fun _ _ => rfl) K2) hb0
      replace K3 := (sSlice sTok).below ((sSlice sTok).frame (w' := wr.drew) (fun _ _ => rfl) K3) hb0
      replace hbr : b < u0.heap.size := Nat.lt_of_lt_of_le (show b < wr.drew.heap.size from hbr) hb0.size
      clear hb0
      have c1 : u0.cell? ⟨b, off + j * 4 + 1, none⟩ = some _ := elem_cell hE (by decide) rfl
      have c2 : u0.cell? ⟨b, off + j * 4 + 2, none⟩ = some _ := elem_cell hE (by decide) rfl
      have c3 : u0.cell? ⟨b, off + j * 4 + 3, none⟩ = some _ := elem_cell hE (by decide) rfl
      go_wp2_with fail
      refine (heldStringS _ _ _ _ _ (by omega) (by omega) K2).mono ?_
      rintro e u2 ⟨rfl, hb2⟩
      have B2 := B0.trans (hb2.mono B0.size)
      clear c1 c2 c3
      replace hE := hE.frame (hb2.block b hbr)
      replace K3 := (sSlice sTok).below K3 hb2
      replace hbr : b < u2.heap.size := Nat.lt_of_lt_of_le hbr hb2.size
      have c3 : u2.cell? ⟨b, off + j * 4 + 3, none⟩ = some _ := elem_cell hE (by decide) rfl
      clear hb2
      go_wp2_with fail
      refine (heldTokenS _ _ _ _ _ (by omega) (by omega) K3).mono ?_
      rintro e u3 ⟨rfl, hb3⟩
      have B3 := B2.trans (hb3.mono B2.size)
      clear c3
      clear hb3
      go_wp2
      go_roundw
      case rel => exact ⟨j + 1, _, by omega, by go_num, rfl, by show _ = _; have := HXK.out; omega, B3⟩
      case measure => simp [intOf]; omega
    · have hjl : l.take j = l := List.take_of_length_le (by omega)
      have HKD := HKK.out
      rw [hjl] at HKD
      have HF := Lib.hid HKD
      clear hjl HKD HKK
      go_wp2
      go_ret
      exact ⟨by rw [HF.out]; rfl, hbel⟩

set_option maxHeartbeats 8000000 in
set_option maxRecDepth 100000 in
theorem szMacro (cs : List Value) (x : DMacro) (fp : List Nat) (w : World) (B : Int) (h0 : 0 ≤ B) (h1 : B ≤ 1048576) (H : sMacro.R w cs x fp) :
    Calls Try.prog 17 #[.agg cs.toArray, .int .i64 B] w fun e w' => ∃ r : Int, e = .returned (.int .i64 r) ∧ SzR B r (wtMacro x) ∧ Below w.heap.size w w' := by
  obtain ⟨v2, v3, fp2, fp3, rfl, k0, K2, K3, rfl⟩ := H
  unfold okStr maxLen at k0
  have b0 := alloc_below' w (.cells #[.string x.name, .bool x.function, v2, v3] 43)
  have HC2 : Hid (∀ W r, Below w.heap.size w W → 0 ≤ r → r ≤ 1048576 → Calls Try.prog 44 #[v2, .int .i64 r] W fun e w' => ∃ r' : Int, e = .returned (.int .i64 r') ∧ SzR r r' (wtStringS x.params) ∧ Below W.heap.size W w') := fun W r hb hr0 hr1 => (szStringS v2 x.params _ W r hr0 hr1 ((sSlice sStr).below K2 hb)).mono fun e w' ⟨r, a, b, c⟩ => ⟨r, a, b, c ▸ Below.refl _ _⟩
  have HC3 : Hid (∀ W r, Below w.heap.size w W → 0 ≤ r → r ≤ 1048576 → Calls Try.prog 45 #[v3, .int .i64 r] W fun e w' => ∃ r' : Int, e = .returned (.int .i64 r') ∧ SzR r r' (wtTokenS x.body) ∧ Below W.heap.size W w') := fun W r hb hr0 hr1 => (szTokenS v3 x.body _ W r hr0 hr1 ((sSlice sTok).below K3 hb)).mono fun e w' ⟨r, a, b, c⟩ => ⟨r, a, b, c⟩
  have HX := Lib.hid (heap_alloc_new w (.cells #[.string x.name, .bool x.function, v2, v3] 43))
  clear K2
  clear K3
  go_enter Try.func17, Try.ntmps17
  by_cases ht0 : B < x.name.size
  · have HN : Hid (SzR B (-1) (wtMacro x)) := SzR.no (by unfold wtMacro; omega)
    go_wp2
    go_ret
    exact ⟨-1, rfl, HN.out, b0⟩
  go_wp2_with fail
  refine (HC2.out _ _ b0 (by omega) (by omega)).mono ?_
  rintro e u2 ⟨r2, rfl, hr2, c2⟩
  have e2 := b0.trans (c2.mono b0.size)
  replace HX := Lib.hid ((c2.block _ (Array.getElem?_eq_some_iff.1 HX.out).1).trans HX.out)
  have q2_3 : u2.cell? ⟨w.heap.size, 3, none⟩ = some v3 := cell_of_row _ _ 3 _ _ _ HX.out
  clear c2
  by_cases hn2 : r2 < 0
  · have HN : Hid (SzR B (-1) (wtMacro x)) := by
      refine SzR.no ?_
      unfold SzR at hr2; unfold wtMacro; split at hr2 <;> omega
    go_wp2
    go_ret
    exact ⟨-1, rfl, HN.out, e2⟩
  have hg2 := hr2.good hn2
  have hl2 := hr2.le (by omega)
  clear hr2
  go_wp2_with fail
  refine (HC3.out _ _ e2 (by omega) (by omega)).mono ?_
  rintro e u3 ⟨r3, rfl, hr3, c3⟩
  have e3 := e2.trans (c3.mono e2.size)
  clear c3
  by_cases hn3 : r3 < 0
  · have HN : Hid (SzR B (-1) (wtMacro x)) := by
      refine SzR.no ?_
      unfold SzR at hr3; unfold wtMacro; split at hr3 <;> omega
    go_wp2
    go_ret
    exact ⟨-1, rfl, HN.out, e3⟩
  have hg3 := hr3.good hn3
  have hl3 := hr3.le (by omega)
  clear hr3
  have HN : Hid (SzR B r3 (wtMacro x)) := SzR.yes (by unfold wtMacro; omega) (by unfold wtMacro; omega)
  clear hg2 hg3
  go_wp2
  go_ret
  exact ⟨r3, rfl, HN.out, e3⟩

set_option maxHeartbeats 8000000 in
set_option maxRecDepth 100000 in
theorem toMacro (cs : List Value) (x : DMacro) (fp : List Nat) (w : World) (hW : wtMacro x ≤ 1048576) (H : sMacro.R w cs x fp) :
    Calls Try.prog 19 #[.agg cs.toArray] w (MadeC sMacro x w) := by
  obtain ⟨v2, v3, fp2, fp3, rfl, k0, K2, K3, rfl⟩ := H
  have HC2 : Hid (∀ W, Below w.heap.size w W → Calls Try.prog 46 #[v2] W (Made (sSlice sStr) x.params W)) := fun W hb => toStringS v2 x.params _ W (by unfold wtMacro at hW; omega) ((sSlice sStr).below K2 hb)
  have HC3 : Hid (∀ W, Below w.heap.size w W → Calls Try.prog 47 #[v3] W (Made (sSlice sTok) x.body W)) := fun W hb => toTokenS v3 x.body _ W (by unfold wtMacro at hW; omega) ((sSlice sTok).below K3 hb)
  clear K2
  clear K3
  go_enter Try.func19, Try.ntmps19
  have b3 := below3 w #[.string x.name, .bool x.function, v2, v3] #[.string ⟨#[]⟩, .bool false, .slice none 0 0, .slice none 0 0] #[.string x.name, .bool x.function, .slice none 0 0, .slice none 0 0] 43 35 35
  have HA := Lib.hid (alloc3_blk0 w #[.string x.name, .bool x.function, v2, v3] #[.string ⟨#[]⟩, .bool false, .slice none 0 0, .slice none 0 0] #[.string x.name, .bool x.function, .slice none 0 0, .slice none 0 0] 43 35 35)
  obtain ⟨g1_, g2_, g3_⟩ := alloc3_blk w #[.string x.name, .bool x.function, v2, v3] #[.string ⟨#[]⟩, .bool false, .slice none 0 0, .slice none 0 0] #[.string x.name, .bool x.function, .slice none 0 0, .slice none 0 0] 43 35 35
  have HG := Lib.hid (And.intro g1_ g2_)
  have HS := Lib.hid g3_
  clear g1_ g2_ g3_
  go_wp2_with fail
  refine (HC2.out _ b3).mono ?_
  rintro e u2 ⟨h2, fp2, rfl, R2, O2, c2⟩
  have lo2 : ∀ b ∈ fp2, w.heap.size + 3 ≤ b := fun b hb => by have := (O2.2 b hb).1; rw [HS.out] at this; omega
  replace HA := Lib.hid ((c2.block _ (Array.getElem?_eq_some_iff.1 HA.out).1).trans HA.out)
  replace HG := Lib.hid (And.intro ((c2.block _ (Array.getElem?_eq_some_iff.1 HG.out.1).1).trans HG.out.1) ((c2.block _ (Array.getElem?_eq_some_iff.1 HG.out.2).1).trans HG.out.2))
  have e2 := b3.trans (c2.mono b3.size)
  clear c2
  obtain ⟨a2, cap2, rfl, -⟩ := open_rows R2
  have hn1_2 : w.heap.size + 1 ∉ fp2 := fun hx => by have := lo2 _ hx; omega
  have hn2_2 : w.heap.size + 1 + 1 ∉ fp2 := fun hx => by have := lo2 _ hx; omega
  have d2 : u2.cell? ⟨w.heap.size + 1 + 1, 2, none⟩ = some (.slice none 0 0) := cell_of_row _ _ 2 _ _ _ HG.out.2
  have f2 : u2.frozen? ⟨w.heap.size + 1 + 1, 2, none⟩ = false := frozen_of_row _ _ 2 _ _ HG.out.2
  replace HA := Lib.hid (blk_other HA.out (by omega : w.heap.size ≠ w.heap.size + 1 + 1) 2 (.slice a2 x.params.length cap2))
  replace HG := Lib.hid (And.intro (blk_other HG.out.1 (by omega : w.heap.size + 1 ≠ w.heap.size + 1 + 1) 2 (.slice a2 x.params.length cap2)) (blk_set HG.out.2 2 (.slice a2 x.params.length cap2)))
  replace R2 := Lib.hid ((sSlice sStr).setB R2 hn2_2 2 (.slice a2 x.params.length cap2))
  replace O2 := Lib.hid (O2.setCell ⟨w.heap.size + 1 + 1, 2, none⟩ (.slice a2 x.params.length cap2))
  replace e2 := e2.setCell (p := ⟨w.heap.size + 1 + 1, 2, none⟩) (by simp; omega) (.slice a2 x.params.length cap2)
  have U2 : Hid (∀ b ∈ fp2, b < (u2.setCell ⟨w.heap.size + 1 + 1, 2, none⟩ (.slice a2 x.params.length cap2)).heap.size) := fun b hb => (O2.out.lt b hb)
  have Z2 : Hid (w.heap.size + 1 + 1 < (u2.setCell ⟨w.heap.size + 1 + 1, 2, none⟩ (.slice a2 x.params.length cap2)).heap.size) := (Array.getElem?_eq_some_iff.1 HG.out.2).1
  have p3 : (u2.setCell ⟨w.heap.size + 1 + 1, 2, none⟩ (.slice a2 x.params.length cap2)).cell? ⟨w.heap.size, 3, none⟩ = some v3 := cell_of_row _ _ 3 _ _ _ HA.out
  go_wp2_with fail
  refine (HC3.out _ e2).mono ?_
  rintro e u3 ⟨h3, fp3, rfl, R3, O3, c3⟩
  have lo3 := Lib.hid (show ∀ b ∈ fp3, _ ≤ b from fun b hb => (O3.2 b hb).1)
  replace HA := Lib.hid ((c3.block _ (Array.getElem?_eq_some_iff.1 HA.out).1).trans HA.out)
  replace HG := Lib.hid (And.intro ((c3.block _ (Array.getElem?_eq_some_iff.1 HG.out.1).1).trans HG.out.1) ((c3.block _ (Array.getElem?_eq_some_iff.1 HG.out.2).1).trans HG.out.2))
  have e3 := e2.trans (c3.mono e2.size)
  replace R2 := Lib.hid ((sSlice sStr).below R2.out c3)
  replace O2 := Lib.hid (O2.out.grow c3)
  have ap3 : Hid (∀ b ∈ fp2, b ∉ fp3) := fun b h1 h2 => by have := lo3.out b h2; have := U2.out b h1; omega
  clear c3
  obtain ⟨a3, cap3, rfl, -⟩ := open_rows R3
  have hn1_3 : w.heap.size + 1 ∉ fp3 := fun hx => by have := lo3.out _ hx; have := Z2.out; omega
  have hn2_3 : w.heap.size + 1 + 1 ∉ fp3 := fun hx => by have := lo3.out _ hx; have := Z2.out; omega
  have d3 : u3.cell? ⟨w.heap.size + 1 + 1, 3, none⟩ = some (.slice none 0 0) := cell_of_row _ _ 3 _ _ _ HG.out.2
  have f3 : u3.frozen? ⟨w.heap.size + 1 + 1, 3, none⟩ = false := frozen_of_row _ _ 3 _ _ HG.out.2
  replace HA := Lib.hid (blk_other HA.out (by omega : w.heap.size ≠ w.heap.size + 1 + 1) 3 (.slice a3 x.body.length cap3))
  replace HG := Lib.hid (And.intro (blk_other HG.out.1 (by omega : w.heap.size + 1 ≠ w.heap.size + 1 + 1) 3 (.slice a3 x.body.length cap3)) (blk_set HG.out.2 3 (.slice a3 x.body.length cap3)))
  replace R3 := Lib.hid ((sSlice sTok).setB R3 hn2_3 3 (.slice a3 x.body.length cap3))
  replace O3 := Lib.hid (O3.setCell ⟨w.heap.size + 1 + 1, 3, none⟩ (.slice a3 x.body.length cap3))
  replace R2 := Lib.hid ((sSlice sStr).setB R2.out hn2_2 3 (.slice a3 x.body.length cap3))
  replace O2 := Lib.hid (O2.out.setCell ⟨w.heap.size + 1 + 1, 3, none⟩ (.slice a3 x.body.length cap3))
  replace e3 := e3.setCell (p := ⟨w.heap.size + 1 + 1, 3, none⟩) (by simp; omega) (.slice a3 x.body.length cap3)
  have U3 : Hid (∀ b ∈ fp3, b < (u3.setCell ⟨w.heap.size + 1 + 1, 3, none⟩ (.slice a3 x.body.length cap3)).heap.size) := fun b hb => (O3.out.lt b hb)
  have Z3 : Hid (w.heap.size + 1 + 1 < (u3.setCell ⟨w.heap.size + 1 + 1, 3, none⟩ (.slice a3 x.body.length cap3)).heap.size) := (Array.getElem?_eq_some_iff.1 HG.out.2).1
  -- the copy

  have y0 : (u3.setCell ⟨w.heap.size + 1 + 1, 3, none⟩ (.slice a3 x.body.length cap3)).cell? ⟨w.heap.size + 1, 0, none⟩ = some (.string ⟨#[]⟩) := cell_of_row _ _ 0 _ _ _ HG.out.1
  have z0 : (u3.setCell ⟨w.heap.size + 1 + 1, 3, none⟩ (.slice a3 x.body.length cap3)).cell? ⟨w.heap.size + 1 + 1, 0, none⟩ = some (.string x.name) := cell_of_row _ _ 0 _ _ _ HG.out.2
  have w0 : (u3.setCell ⟨w.heap.size + 1 + 1, 3, none⟩ (.slice a3 x.body.length cap3)).frozen? ⟨w.heap.size + 1, 0, none⟩ = false := frozen_of_row _ _ 0 _ _ HG.out.1
  have y1 : (u3.setCell ⟨w.heap.size + 1 + 1, 3, none⟩ (.slice a3 x.body.length cap3)).cell? ⟨w.heap.size + 1, 1, none⟩ = some (.bool false) := cell_of_row _ _ 1 _ _ _ HG.out.1
  have z1 : (u3.setCell ⟨w.heap.size + 1 + 1, 3, none⟩ (.slice a3 x.body.length cap3)).cell? ⟨w.heap.size + 1 + 1, 1, none⟩ = some (.bool x.function) := cell_of_row _ _ 1 _ _ _ HG.out.2
  have w1 : (u3.setCell ⟨w.heap.size + 1 + 1, 3, none⟩ (.slice a3 x.body.length cap3)).frozen? ⟨w.heap.size + 1, 1, none⟩ = false := frozen_of_row _ _ 1 _ _ HG.out.1
  have y2 : (u3.setCell ⟨w.heap.size + 1 + 1, 3, none⟩ (.slice a3 x.body.length cap3)).cell? ⟨w.heap.size + 1, 2, none⟩ = some (.slice none 0 0) := cell_of_row _ _ 2 _ _ _ HG.out.1
  have z2 : (u3.setCell ⟨w.heap.size + 1 + 1, 3, none⟩ (.slice a3 x.body.length cap3)).cell? ⟨w.heap.size + 1 + 1, 2, none⟩ = some (.slice a2 x.params.length cap2) := cell_of_row _ _ 2 _ _ _ HG.out.2
  have w2 : (u3.setCell ⟨w.heap.size + 1 + 1, 3, none⟩ (.slice a3 x.body.length cap3)).frozen? ⟨w.heap.size + 1, 2, none⟩ = false := frozen_of_row _ _ 2 _ _ HG.out.1
  have y3 : (u3.setCell ⟨w.heap.size + 1 + 1, 3, none⟩ (.slice a3 x.body.length cap3)).cell? ⟨w.heap.size + 1, 3, none⟩ = some (.slice none 0 0) := cell_of_row _ _ 3 _ _ _ HG.out.1
  have z3 : (u3.setCell ⟨w.heap.size + 1 + 1, 3, none⟩ (.slice a3 x.body.length cap3)).cell? ⟨w.heap.size + 1 + 1, 3, none⟩ = some (.slice a3 x.body.length cap3) := cell_of_row _ _ 3 _ _ _ HG.out.2
  have w3 : (u3.setCell ⟨w.heap.size + 1 + 1, 3, none⟩ (.slice a3 x.body.length cap3)).frozen? ⟨w.heap.size + 1, 3, none⟩ = false := frozen_of_row _ _ 3 _ _ HG.out.1
  have RF2 := Lib.hid ((sSlice sStr).setB ((sSlice sStr).setB ((sSlice sStr).setB ((sSlice sStr).setB (R2.out) hn1_2 0 (.string x.name)) hn1_2 1 (.bool x.function)) hn1_2 2 (.slice a2 x.params.length cap2)) hn1_2 3 (.slice a3 x.body.length cap3))
  have OF2 := Lib.hid (((((O2.out).setCell ⟨w.heap.size + 1, 0, none⟩ (.string x.name)).setCell ⟨w.heap.size + 1, 1, none⟩ (.bool x.function)).setCell ⟨w.heap.size + 1, 2, none⟩ (.slice a2 x.params.length cap2)).setCell ⟨w.heap.size + 1, 3, none⟩ (.slice a3 x.body.length cap3))
  have RF3 := Lib.hid ((sSlice sTok).setB ((sSlice sTok).setB ((sSlice sTok).setB ((sSlice sTok).setB (R3.out) hn1_3 0 (.string x.name)) hn1_3 1 (.bool x.function)) hn1_3 2 (.slice a2 x.params.length cap2)) hn1_3 3 (.slice a3 x.body.length cap3))
  have OF3 := Lib.hid (((((O3.out).setCell ⟨w.heap.size + 1, 0, none⟩ (.string x.name)).setCell ⟨w.heap.size + 1, 1, none⟩ (.bool x.function)).setCell ⟨w.heap.size + 1, 2, none⟩ (.slice a2 x.params.length cap2)).setCell ⟨w.heap.size + 1, 3, none⟩ (.slice a3 x.body.length cap3))
  have BF := Lib.hid (((((e3).setCell (p := ⟨w.heap.size + 1, 0, none⟩) (by simp) (.string x.name)).setCell (p := ⟨w.heap.size + 1, 1, none⟩) (by simp) (.bool x.function)).setCell (p := ⟨w.heap.size + 1, 2, none⟩) (by simp) (.slice a2 x.params.length cap2)).setCell (p := ⟨w.heap.size + 1, 3, none⟩) (by simp) (.slice a3 x.body.length cap3))
  have HF := Lib.hid (blk_set (blk_set (blk_set (blk_set (HG.out.1) 0 (.string x.name)) 1 (.bool x.function)) 2 (.slice a2 x.params.length cap2)) 3 (.slice a3 x.body.length cap3))
  clear HG HA
  go_wp2
  refine bodyPost_ret (results_cell_row rfl _ _ (w.heap.size + 1) _ _ _ _ rfl HF.out Try.underlying35 rfl (by kernel_rfl)) rfl ?_
  exact ⟨[.string x.name, .bool x.function, .slice a2 x.params.length cap2, .slice a3 x.body.length cap3], fp2 ++ fp3, rfl, ⟨_, _, fp2, fp3, rfl, k0, RF2.out, RF3.out, rfl⟩, Own.app (OF2.out.lower (by rw [HS.out]; omega)) (OF3.out.lower (by have := Z2.out; omega)) ap3.out, BF.out⟩

set_option maxHeartbeats 2000000 in
set_option maxRecDepth 100000 in
theorem szMacroS (v : Value) (l : List DMacro) (fp : List Nat) (w : World) (B : Int) (h0 : 0 ≤ B) (h1 : B ≤ 1048576) (H : (sSlice sMacro).R w [v] l fp) :
    Calls Try.prog 16 #[v, .int .i64 B] w fun e w' => ∃ r : Int, e = .returned (.int .i64 r) ∧ SzR B r (wtMacroS l) ∧ Below w.heap.size w w' := by
  obtain ⟨a, cap, rfl, hc, hm, hrow⟩ := open_rows H
  unfold maxLen at hm
  clear H
  by_cases hl : B < l.length
  · have HN : Hid (SzR B (-1) (wtMacroS l)) := SzR.no (by unfold wtMacroS; omega)
    go_enter Try.func16, Try.ntmps16
    go_wp2
    go_ret
    exact ⟨-1, rfl, HN.out, Below.refl _ _⟩
  · go_enter Try.func16, Try.ntmps16
    go_wp2
    go_loopw [1, 5] (fun t i wr => ∃ (k : Nat) (r : Int), k ≤ l.length ∧ i = .int .i64 k ∧ t = .int .i64 r ∧ 0 ≤ r ∧ r ≤ B ∧ Hid (r = B - l.length - (((l.take k).map wtMacro).sum : Nat)) ∧ Below w.heap.size w wr) (fun _ i _ => l.length - (intOf i).toNat)
    case atStart => exact ⟨0, _, by omega, rfl, rfl, by omega, by omega, by show _ = _; simp, Below.refl _ _⟩
    case round =>
      obtain ⟨k, r, hk, rfl, rfl, hr0, hr1, HA, hb⟩ := hrel
      by_cases hlt : k < l.length
      · obtain ⟨b1, off1, fps1, rfl, hb1, -, he1⟩ := hrow (by omega)
        obtain ⟨es1, hE1, hR1⟩ := he1 k hlt
        clear hrow he1
        have hR2 := sMacro.below hR1 hb
        obtain ⟨h2, h3, _fp2, _fp3, rfl, _k0, _K2, _K3, -⟩ := hR1
        have HC := Lib.hid (szMacro _ _ _ wr r hr0 (by omega) hR2)
        clear hR2
        replace hE1 := hE1.frame (hb.block b1 hb1)
        have c10 : wr.cell? ⟨b1, off1 + k * 4, none⟩ = some _ := elem_cell0 hE1 (by decide) rfl
        have c11 : wr.cell? ⟨b1, off1 + k * 4 + 1, none⟩ = some _ := elem_cell (j := 1) hE1 (by decide) rfl
        have c12 : wr.cell? ⟨b1, off1 + k * 4 + 2, none⟩ = some _ := elem_cell (j := 2) hE1 (by decide) rfl
        have c13 : wr.cell? ⟨b1, off1 + k * 4 + 3, none⟩ = some _ := elem_cell (j := 3) hE1 (by decide) rfl
        clear hE1
        have HT := Lib.hid (wsum_succ wtMacro l k hlt)
        have HT2 := Lib.hid (wsum_le wtMacro l (k + 1))
        go_wp2_with fail
        refine (HC.out).mono ?_
        rintro e w1 ⟨r', rfl, hr', hb2⟩
        clear c10 c11 c12 c13
        by_cases hn : r' < 0
        · have HN : Hid (SzR B (-1) (wtMacroS l)) := SzR.no (by
            have hx : r < wtMacro l[k] := by unfold SzR at hr'; split at hr' <;> omega
            have := HT2.out; have := HT.out; have := HA.out; unfold wtMacroS; omega)
          go_wp2
          go_ret
          exact ⟨-1, rfl, HN.out, hb.trans (hb2.mono hb.size)⟩
        · have hg := hr'.good hn
          have hle := hr'.le hr0
          have HA' : Hid (r' = B - l.length - (((l.take (k + 1)).map wtMacro).sum : Nat)) := by
            show _ = _
            have := HT.out; have := HA.out
            omega
          clear hr' hg
          go_wp2
          go_roundw
          case rel => exact ⟨k + 1, _, by omega, by go_num, rfl, by omega, by omega, HA'.out, hb.trans (hb2.mono hb.size)⟩
          case measure => simp [intOf]; omega
      · have HN : Hid (SzR B r (wtMacroS l)) := by
          have h := HA.out
          rw [List.take_of_length_le (by omega)] at h
          exact SzR.yes (by unfold wtMacroS; omega) (by unfold wtMacroS; omega)
        go_wp2
        go_ret
        exact ⟨r, rfl, HN.out, hb⟩


set_option maxHeartbeats 4000000 in
set_option maxRecDepth 100000 in
theorem toMacroS (v : Value) (l : List DMacro) (fp : List Nat) (w : World) (hW : wtMacroS l ≤ 1048576) (H : (sSlice sMacro).R w [v] l fp) :
    Calls Try.prog 18 #[v] w (Made (sSlice sMacro) l w) := by
  have hB : l.length ≤ 1048576 := by unfold wtMacroS at hW; omega
  have HW : Hid (∀ k, (hk : k < l.length) → wtMacro l[k] ≤ 1048576) := fun k hk => by have := wsum_at wtMacro l k hk; unfold wtMacroS at hW; omega
  obtain ⟨a, cap, rfl, hc, hm, hrow⟩ := open_rows H
  unfold maxLen at hm
  clear H hW
  go_enter Try.func18, Try.ntmps18
  go_wp2_with (at_make; refine wp_make_full ti_Macro _ rfl _ _ rfl w.heap.size l.length rfl rfl (by omega) (by unfold maxLen; omega) (Nat.le_refl _) ?_; intro w1 hown hgrow)
  have hbel := (Below.refl w.heap.size w).grown hgrow (Nat.le_refl _) (by simp)
  have HF0 := Filling.start (S := sMacro) (l := l) hown
  clear hgrow hown
  go_loopw [4] (fun i wr => ∃ (k : Nat) (L : List (Elem DMacro)) (R : List Value), k ≤ l.length ∧ i = .int .i64 k ∧ Hid (Filling sMacro w.heap.size 35 l k wr L R) ∧ Below w.heap.size w wr) (fun i _ => l.length - (intOf i).toNat)
  case atStart => exact ⟨0, _, _, by omega, rfl, HF0, hbel⟩
  case round =>
    obtain ⟨k, L, R, hk, rfl, HF, hb⟩ := hrel
    clear HF0 hbel
    by_cases hlt : k < l.length
    · obtain ⟨b1, off1, fps1, rfl, hb1, -, he1⟩ := hrow (by omega)
      obtain ⟨es1, hE1, hR1⟩ := he1 k hlt
      clear hrow he1
      have hR2 := sMacro.below hR1 hb
      obtain ⟨h2, h3, _fp2, _fp3, rfl, _k0, _K2, _K3, -⟩ := hR1
      have HC := Lib.hid (toMacro _ _ _ wr (HW.out k hlt) hR2)
      clear hR2
      replace hE1 := hE1.frame (hb.block b1 hb1)
      have c10 : wr.cell? ⟨b1, off1 + k * 4, none⟩ = some _ := elem_cell0 hE1 (by decide) rfl
      have c11 : wr.cell? ⟨b1, off1 + k * 4 + 1, none⟩ = some _ := elem_cell (j := 1) hE1 (by decide) rfl
      have c12 : wr.cell? ⟨b1, off1 + k * 4 + 2, none⟩ = some _ := elem_cell (j := 2) hE1 (by decide) rfl
      have c13 : wr.cell? ⟨b1, off1 + k * 4 + 3, none⟩ = some _ := elem_cell (j := 3) hE1 (by decide) rfl
      clear hE1
      go_wp2_with fail
      refine (HC.out).mono ?_
      rintro e w2 ⟨cs, fp2, rfl, hR2, hO2, hb2⟩
      have HN := Lib.hid (HF.out.next (cs := cs) hlt hb2 (by obtain ⟨y2, y3, _fp2, _fp3, rfl, _k0, K2, K3, rfl⟩ := hR2; rfl) hR2 hO2)
      obtain ⟨y2, y3, _fp2, _fp3, rfl, _k0, K2, K3, rfl⟩ := hR2
      obtain ⟨ah2, caph2, rfl, -⟩ := open_rows K2
      obtain ⟨ah3, caph3, rfl, -⟩ := open_rows K3
      have HF2 := Lib.hid (HF.out.below hb2)
      obtain ⟨u0, d0⟩ : ∃ u, w2.cell? ⟨w.heap.size, k * 4, none⟩ = some u := HF2.out.cell hlt (j := 0) (by decide)
      obtain ⟨u1, d1⟩ : ∃ u, w2.cell? ⟨w.heap.size, k * 4 + 1, none⟩ = some u := HF2.out.cell hlt (j := 1) (by decide)
      obtain ⟨u2, d2⟩ : ∃ u, w2.cell? ⟨w.heap.size, k * 4 + 2, none⟩ = some u := HF2.out.cell hlt (j := 2) (by decide)
      obtain ⟨u3, d3⟩ : ∃ u, w2.cell? ⟨w.heap.size, k * 4 + 3, none⟩ = some u := HF2.out.cell hlt (j := 3) (by decide)
      have f0 := HF2.out.frozen (k * 4)
      have f1 := HF2.out.frozen (k * 4 + 1)
      have f2 := HF2.out.frozen (k * 4 + 2)
      have f3 := HF2.out.frozen (k * 4 + 3)
      clear c10 c11 c12 c13 K2 K3 hO2
      go_wp2
      obtain ⟨R', HN⟩ := HN.out
      go_roundw
      case rel => exact ⟨k + 1, _, R', by omega, by go_num, HN, putAll_below (Nat.le_refl _) [_, _, _, _] _ (k * 4) (hb.trans (hb2.mono hb.size))⟩
      case measure => simp [intOf]; omega
    · obtain ⟨fp', h1, h2⟩ := HF.out.done (by omega)
      go_wp2
      go_ret
      exact ⟨_, fp', rfl, h1, h2, hb⟩


def cntVMacro (x : DMacro) : Nat := x.params.length + cntTokenS x.body
def mkVMacro (k : Int) (x : DMacro) : DMacro := ⟨x.name, x.function, (marks mtext (k) x.params.length), (mkTokenS (k + (x.params.length : Int)) x.body)⟩
end Go.Proofs.Ythbojipdhgidlab

/- Whether two tokens need a space between them: the program and its model. -/
namespace Go.Proofs.Ythbojipdhgidlab
open Go.RowKit

def begins (x y : UInt8) : Bool := decide (x.toNat = 47) && (decide (y.toNat = 47) || decide (y.toNat = 42))
theorem meets_begins {a b : ByteArray} (ha : 0 < a.size) (hb : 0 < b.size) : meets a b = begins (a[a.size - 1]'(by omega)) b[0] := by
  unfold meets; rw [dif_pos ⟨ha, hb⟩]; rfl

theorem run_lastB (P : Program) (t : TypeId) (s : ByteArray) (h : P.underlying t = some .string) (h0 : 0 < s.size) (W : World) :
    (Instr.index t (.string s) (.int .i64 ((s.size : Int) - 1))).run P W = .ok (.int .u8 ((s[s.size - 1]'(by omega)).toNat : Int)) W := by
  rw [run_index_string W t s .i64 _ h, dif_pos (by omega)]
  congr 4
  congr 1
  omega

/-- A literal of structs, as a slice. -/
theorem lit_row {α : Type} {S : Shape α} {w : World} {e : TypeId} (L : List (Elem α)) (hlen : ∀ x ∈ L, x.cells.length = S.m) (hR : ∀ x ∈ L, S.R w x.cells x.d x.fp) (hn : L.length ≤ maxLen) :
    ∃ fp, (sSlice S).R (w.alloc (.cells (L.flatMap (·.cells)).toArray e)) [.slice (some ⟨w.heap.size, 0, none⟩) L.length L.length] (L.map (·.d)) fp := by
  have h := World.ownsRow_lit (base := w.heap.size) (e := e) (size := S.m) w (L.flatMap (·.cells)).toArray L.length (Nat.le_refl _) hn (by simpa using flatMap_len hlen)
  obtain ⟨fp, h1, _⟩ := slice_of_row h fun x hx => ⟨hlen x hx, S.below (hR x hx) (alloc_below' _ _)⟩
  exact ⟨fp, h1⟩

/-- What is asked of two tokens, before their texts meet. -/
def needBy (a b : Tok) (ok : Bool) (l : List Tok) : Bool := !ok || !sameTx l [a, b]
theorem need_meets {a b : Tok} (h : meets a.text b.text = true) : glued a.text b.text = true := by unfold glued; rw [h, Bool.or_true]
theorem need_no {a b : Tok} (ha : tokOk a = true) (hb : tokOk b = true) {l : List Tok} (h : meets a.text b.text = false) (hr : tokRes (a.text ++ b.text) = (l, false)) : glued a.text b.text = true := by
  have := glued_same ha hb
  rw [hr] at this
  unfold glued
  rw [← this, h]; rfl
theorem need_yes {a b : Tok} (ha : tokOk a = true) (hb : tokOk b = true) {l : List Tok} (h : meets a.text b.text = false) (hr : tokRes (a.text ++ b.text) = (l, true)) : glued a.text b.text = !sameTx l [a, b] := by
  have := glued_same ha hb
  rw [hr] at this
  unfold glued
  rw [← this, h]; simp

end Go.Proofs.Ythbojipdhgidlab

/- Whether two texts are read otherwise together: the model. -/
namespace Go.Proofs.Ythbojipdhgidlab
open Go.RowKit

/-- Two tokens, opened: their texts' cells. -/
theorem open_two {w : World} {v : Value} {t1 t2 : Tok} {fp : List Nat} (H : (sSlice sTok).R w [v] [t1, t2] fp) :
    ∃ b off cap, v = .slice (some ⟨b, off, none⟩) 2 cap ∧ cap ≤ maxLen ∧ 2 ≤ cap ∧ b < w.heap.size ∧ w.cell? ⟨b, off + 1, none⟩ = some (.string t1.text) ∧ w.cell? ⟨b, off + 4 + 1, none⟩ = some (.string t2.text) := by
  obtain ⟨a, cap, rfl, hc, hm, h⟩ := open_rows H
  obtain ⟨b, off, fps, rfl, hb, _, he⟩ := h (by simp)
  obtain ⟨es, ⟨h1, h2⟩, hh, rfl, _, _, _⟩ := he 0 (by simp)
  obtain ⟨es', ⟨h1', h2'⟩, hh', rfl, _, _, _⟩ := he 1 (by simp)
  refine ⟨b, off, cap, rfl, hm, by simpa using hc, hb, ?_, ?_⟩
  · simpa [sTok] using h2 1 (by decide)
  · simpa [sTok, Nat.add_assoc] using h2' 1 (by decide)

theorem meet_list {a b : ByteArray} (ha : 0 < a.size) (hb : 0 < b.size) : (a.extract (a.size - 1) a.size ++ b.extract 0 1).toList = [a[a.size - 1]'(by omega), b[0]] := by
  rw [ByteArray.toList_eq, ByteArray.data_append, Array.toList_append, ext_list, ext_list]
  have h1 : a.data.toList.drop (a.size - 1) = [a[a.size - 1]'(by omega)] := by
    rw [List.drop_eq_getElem_cons (by show a.size - 1 < a.size; omega)]
    have : a.data.toList.drop (a.size - 1 + 1) = [] := List.drop_eq_nil_iff.2 (by show a.size ≤ _; omega)
    rw [this]
    simp [ByteArray.getElem_eq_getElem_data]
  have h2 : (b.data.toList.drop 0).take (1 - 0) = [b[0]] := by
    rw [List.drop_zero]
    obtain ⟨c, l, hl⟩ : ∃ c l, b.data.toList = c :: l := by
      cases h : b.data.toList with
      | nil =>
        have : b.size = 0 := by show b.data.toList.length = 0; rw [h]; rfl
        omega
      | cons c l => exact ⟨c, l, rfl⟩
    have h3 : b[0] = c := by
      have h4 : b.data.toList[0]? = some c := by rw [hl]; rfl
      rw [ByteArray.getElem_eq_getElem_data]
      rw [List.getElem?_eq_getElem (by rw [hl]; simp)] at h4
      simpa using h4
    rw [hl, h3]; rfl
  rw [h1, h2, List.take_of_length_le (by simp; omega)]; rfl
/-- The three ways of two texts where they meet. -/
theorem meet_ways {a b : ByteArray} (ha : 0 < a.size) (hb : 0 < b.size) :
    (((a.extract (a.size - 1) a.size ++ b.extract 0 1).toList == [47, 47]) = true ∧ Hid (meets a b = true)) ∨
    (((a.extract (a.size - 1) a.size ++ b.extract 0 1).toList == [47, 47]) = false ∧ ((a.extract (a.size - 1) a.size ++ b.extract 0 1).toList == [47, 42]) = true ∧ Hid (meets a b = true)) ∨
    (((a.extract (a.size - 1) a.size ++ b.extract 0 1).toList == [47, 47]) = false ∧ ((a.extract (a.size - 1) a.size ++ b.extract 0 1).toList == [47, 42]) = false ∧ Hid (meets a b = false)) := by
  rw [meet_list ha hb, meets_begins ha hb]
  generalize a[a.size - 1]'(by omega) = x
  generalize b[0] = y
  have e47 : ∀ z : UInt8, z = 47 ↔ z.toNat = 47 := fun z => by rw [← UInt8.toNat_inj]; rfl
  have e42 : ∀ z : UInt8, z = 42 ↔ z.toNat = 42 := fun z => by rw [← UInt8.toNat_inj]; rfl
  by_cases h1 : x.toNat = 47
  · by_cases h2 : y.toNat = 47
    · exact .inl ⟨by simp [e47, h1, h2], by simp [Hid, begins, h1, h2]⟩
    · by_cases h3 : y.toNat = 42
      · exact .inr (.inl ⟨by simp [e47, h2], by simp [e47, e42, h1, h3], by simp [Hid, begins, h1, h3]⟩)
      · exact .inr (.inr ⟨by simp [e47, h2], by simp [e42, h3], by simp [Hid, begins, h2, h3]⟩)
  · exact .inr (.inr ⟨by simp [e47, h1], by simp [e47, h1], by simp [Hid, begins, h1]⟩)

end Go.Proofs.Ythbojipdhgidlab

/- PrintTokens: the model. -/
namespace Go.Proofs.Ythbojipdhgidlab
open Go.RowKit

/-- What PrintTokens hands back. -/
def Printed (l : List Tok) (w : World) (e : Ending) (w' : World) : Prop := e = .returned (.tuple #[.string (printRes l).1, .bool (printRes l).2]) ∧ Below w.heap.size w w'
theorem printed_ret {l : List Tok} {s : ByteArray} {b : Bool} {w w' : World} (h : printRes l = (s, b)) (hb : Below w.heap.size w w') : Printed l w (.returned (.tuple #[.string s, .bool b])) w' := ⟨by rw [h], hb⟩

end Go.Proofs.Ythbojipdhgidlab

/- Macros: the model's own helpers; what both sides walk over. -/
namespace Go.Proofs.Ythbojipdhgidlab
open Go.RowKit

set_option maxHeartbeats 1000000 in
theorem spec_l5Name (x : ByteArray) (w : World) (hs : x.size ≤ maxLen) :
    Calls Try.prog 75 #[.string x] w (Says (oneTok x 1) w) := by
  have HT : Hid (∀ W, Calls Try.prog 67 #[.string x] W (TokMade (tokRes x) W)) := fun W => spec_TokensOf x W hs
  go_enter Try.func75, Try.ntmps75
  rcases one_ways x 1 with ⟨hr, HF⟩ | ⟨l, hr, hl, HF⟩ | ⟨t, hr, hk, HF⟩ | ⟨t, hr, hk, hx, HF⟩ | ⟨t, hr, hk, hx, _, HF⟩
  · rw [hr] at HT
    clear hr
    go_wp2_with (go_at_call 67; refine (HT.out _).mono ?_; rintro e w' ⟨v, fp, rfl, hR, hO, hB⟩)
    go_ret
    exact ⟨ret_bool HF.out.symm, hB⟩
  · rw [hr] at HT
    have hl' : ((l.length : Int) == 1) = false := by simp; omega
    clear hr hl
    go_wp2_with (go_at_call 67; refine (HT.out _).mono ?_; rintro e w' ⟨v, fp, rfl, hR, hO, hB⟩; obtain ⟨a, cap, rfl, _, _, _⟩ := open_rows hR)
    go_ret
    exact ⟨ret_bool HF.out.symm, hB⟩
  · rw [hr] at HT
    have hk' : (t.kind == 1) = false := by simp [hk]
    clear hr hk
    go_wp2_with (go_at_call 67; refine (HT.out _).mono ?_; rintro e w' ⟨v, fp, rfl, hR, hO, hB⟩; obtain ⟨b, off, cap, h, rfl, hc1, hc2, hb, h0, h1, h2, h3, _, _⟩ := open_one hR)
    go_ret
    exact ⟨ret_bool HF.out.symm, hB⟩
  · rw [hr] at HT
    have hk' : (t.kind == 1) = true := by simp [hk]
    have hx' : (t.text.toList == x.toList) = false := bytes_bne hx
    clear hr hk hx
    go_wp2_with (go_at_call 67; refine (HT.out _).mono ?_; rintro e w' ⟨v, fp, rfl, hR, hO, hB⟩; obtain ⟨b, off, cap, h, rfl, hc1, hc2, hb, h0, h1, h2, h3, _, _⟩ := open_one hR)
    go_ret
    exact ⟨ret_bool HF.out.symm, hB⟩
  · rw [hr] at HT
    have hk' : (t.kind == 1) = true := by simp [hk]
    have hx' : (t.text.toList == x.toList) = true := bytes_beq hx
    clear hr hk hx
    go_wp2_with (go_at_call 67; refine (HT.out _).mono ?_; rintro e w' ⟨v, fp, rfl, hR, hO, hB⟩; obtain ⟨b, off, cap, h, rfl, hc1, hc2, hb, h0, h1, h2, h3, _, _⟩ := open_one hR)
    go_ret
    exact ⟨ret_bool HF.out.symm, hB⟩

theorem par_end {ps : List ByteArray} {t : Tok} {k : Nat} (h : ps.length ≤ k) : parFrom ps t k = -1 := by rw [parFrom, dif_neg (by omega)]
theorem par_hit {ps : List ByteArray} {t : Tok} {k : Nat} (h : k < ps.length) (h1 : t.kind = 1) (h2 : ps[k] = t.text) : parFrom ps t k = k := by rw [parFrom, dif_pos h, if_pos ⟨h1, h2⟩]
theorem par_miss {ps : List ByteArray} {t : Tok} {k : Nat} (h : k < ps.length) (h1 : ¬ (t.kind = 1 ∧ ps[k] = t.text)) : parFrom ps t k = parFrom ps t (k + 1) := by rw [parFrom, dif_pos h, if_neg h1]

set_option maxHeartbeats 4000000 in
set_option maxRecDepth 100000 in
theorem spec_l5Param (csM csT : List Value) (m : DMacro) (t : Tok) (fpM fpT : List Nat) (w : World) (HM : sMacro.R w csM m fpM) (HT : sTok.R w csT t fpT) :
    Calls Try.prog 77 #[.agg csM.toArray, .agg csT.toArray] w fun e w' => e = .returned (.int .i64 (parOf m.params t)) ∧ Below w.heap.size w w' := by
  obtain ⟨h2, h3, fp2, fp3, rfl, -, K2, K3, rfl⟩ := HM
  obtain ⟨hh, rfl, -, -, -⟩ := HT
  obtain ⟨a, cap, rfl, hc, hm, hcell, hsz⟩ := open_strs K2
  unfold maxLen at hm
  clear K2 K3
  have b0 := alloc_below' w (.cells #[.string m.name, .bool m.function, .slice a m.params.length cap, h3] 35)
  have b1 := b0.trans ((alloc_below' (w.alloc (.cells #[.string m.name, .bool m.function, .slice a m.params.length cap, h3] 35)) (.cells #[.int .i64 t.kind, .string t.text, .bool t.spaced, hh] 89)).mono b0.size)
  have HX := Lib.hid (alloc2_blk w #[.string m.name, .bool m.function, .slice a m.params.length cap, h3] #[.int .i64 t.kind, .string t.text, .bool t.spaced, hh] 35 89)
  go_enter Try.func77, Try.ntmps77
  go_wp2
  generalize (w.alloc (.cells #[.string m.name, .bool m.function, .slice a m.params.length cap, h3] 35)).alloc (.cells #[.int .i64 t.kind, .string t.text, .bool t.spaced, hh] 89) = W at *
  clear b0
  go_loopw [5] (fun i wr => ∃ k : Nat, k ≤ m.params.length ∧ i = .int .i64 k ∧ Hid (parOf m.params t = parFrom m.params t k) ∧ Below W.heap.size W wr) (fun i _ => m.params.length - (intOf i).toNat)
  case atStart => exact ⟨0, by omega, rfl, rfl, Below.refl _ _⟩
  case round =>
    obtain ⟨k, hk, rfl, HP, hb⟩ := hrel
    have HX1 := Lib.hid (And.intro ((hb.block _ (Array.getElem?_eq_some_iff.1 HX.out.1).1).trans HX.out.1) ((hb.block _ (Array.getElem?_eq_some_iff.1 HX.out.2).1).trans HX.out.2))
    have q2 : wr.cell? ⟨w.heap.size, 2, none⟩ = some (.slice a m.params.length cap) := cell_of_row _ _ 2 _ _ _ HX1.out.1
    have p0 : wr.cell? ⟨w.heap.size + 1, 0, none⟩ = some (.int .i64 t.kind) := cell_of_row _ _ 0 _ _ _ HX1.out.2
    have p1 : wr.cell? ⟨w.heap.size + 1, 1, none⟩ = some (.string t.text) := cell_of_row _ _ 1 _ _ _ HX1.out.2
    by_cases hlt : k < m.params.length
    · obtain ⟨b, off, rfl, hbl, _, hc2⟩ := hcell (by omega)
      have hck := ((b1.trans (hb.mono b1.size)).cell (p := ⟨b, off + k, none⟩) hbl).trans (hc2 k hlt)
      clear hcell hc2
      by_cases e1 : t.kind = 1
      · have g1 : (t.kind == 1) = true := by simp [e1]
        by_cases e2 : m.params[k] = t.text
        · have g2 := bytes_beq e2
          have HF := Lib.hid (par_hit hlt e1 e2)
          clear e1 e2
          go_wp2
          go_quiet (fail)
          go_wp2
          go_ret
          exact ⟨ret_int (by rw [HP.out, HF.out]), b1.trans ((belowN hb _).mono b1.size)⟩
        · have g2 : (m.params[k].toList == t.text.toList) = false := bytes_bne e2
          have HF := Lib.hid (par_miss hlt (fun h => e2 h.2))
          clear e1 e2
          go_wp2
          go_quiet (fail)
          go_wp2
          go_roundw
          case rel => exact ⟨k + 1, by omega, by go_num, by show _ = _; rw [HP.out, HF.out], belowN hb _⟩
          case measure => simp [intOf]; omega
      · have g1 : (t.kind == 1) = false := by simp [e1]
        have HF := Lib.hid (par_miss hlt (fun h => e1 h.1))
        clear e1
        go_wp2
        go_quiet (fail)
        go_wp2
        go_roundw
        case rel => exact ⟨k + 1, by omega, by go_num, by show _ = _; rw [HP.out, HF.out], belowN hb _⟩
        case measure => simp [intOf]; omega
    · have HF := Lib.hid (par_end (t := t) (by omega : m.params.length ≤ k))
      go_wp2
      go_ret
      exact ⟨ret_int (by rw [HP.out, HF.out]), b1.trans (hb.mono b1.size)⟩

end Go.Proofs.Ythbojipdhgidlab

/- The text of a macro is read as the macro again: no program. -/
namespace Go.Proofs.Ythbojipdhgidlab
open Go.RowKit

/-! ### Tokens that need no space between them -/
theorem cut_ends {a : Tok} (ha : tokOk a = true) {z : ByteArray} (h : ∀ c, bAt z 0 = some c → stopB c = true) : cutEnd (a.text ++ z) 0 = (a.text.size : Nat) := by
  obtain ⟨h0, _, hc, _⟩ := tokOk_cut ha
  have := cut_same (s := a.text) (s' := a.text ++ z) (k := 0) (k' := 0) (d := a.text.size) (by rw [hc]; omega) (fun j hj => by rw [Nat.zero_add]; exact bAt_left hj) (.inr fun c hc => h c (by rwa [bAt_right (j := 0) (by omega)] at hc))
  rw [this]; omega
theorem one_at (c : UInt8) : ∃ h : 0 < (⟨#[c]⟩ : ByteArray).size, (⟨#[c]⟩ : ByteArray)[0] = c := ⟨by show 0 < 1; omega, rfl⟩
theorem cut_solo {c : UInt8} (hc : c = 40 ∨ c = 44) (z : ByteArray) : cutEnd ((⟨#[c]⟩ : ByteArray) ++ z) 0 = 1 := by
  obtain ⟨g0, g1⟩ := one_at c
  have hz : 0 < ((⟨#[c]⟩ : ByteArray) ++ z).size := by rw [ByteArray.size_append]; omega
  have h0 : ((⟨#[c]⟩ : ByteArray) ++ z)[0] = c := by rw [ByteArray.getElem_append_left g0, g1]
  have hw : isWord c = false := by rcases hc with rfl | rfl <;> decide
  have hq : ¬ c.toNat = 34 := by rcases hc with rfl | rfl <;> decide
  have ht : twoAt ((⟨#[c]⟩ : ByteArray) ++ z) 0 = false := by
    unfold twoAt; simp only [two_bAt, bAt_lt hz, h0]
    rcases hc with rfl | rfl <;> simp
  have hm : mLen ((⟨#[c]⟩ : ByteArray) ++ z) 0 = 1 := by
    unfold mLen
    rw [if_neg (by simp [ht]), dif_pos hz, if_pos (by rw [h0]; rcases hc with rfl | rfl <;> decide)]
  rw [cutEnd_mark hz (by rw [h0]; exact hw) (by rw [h0]; exact hq), hm]; rfl
theorem cut_one {c : UInt8} (hc : c = 40 ∨ c = 41 ∨ c = 44) : cutEnd (⟨#[c]⟩ : ByteArray) 0 = (1 : Nat) := by
  obtain ⟨g0, g1⟩ := one_at c
  have hw : isWord c = false := by rcases hc with rfl | rfl | rfl <;> decide
  have hq : ¬ c.toNat = 34 := by rcases hc with rfl | rfl | rfl <;> decide
  have ht : twoAt (⟨#[c]⟩ : ByteArray) 0 = false := twoAt_no (fun d hd => by
    obtain ⟨h, _⟩ := bAt_some hd
    exact absurd h (by show ¬ 0 + 1 < 1; omega))
  have hm : mLen (⟨#[c]⟩ : ByteArray) 0 = 1 := by
    unfold mLen
    rw [if_neg (by simp [ht]), dif_pos g0, if_pos (by rw [g1]; rcases hc with rfl | rfl | rfl <;> decide)]
  rw [cutEnd_mark g0 (by rw [g1]; exact hw) (by rw [g1]; exact hq), hm]; rfl
def markT (c : UInt8) : Tok := ⟨4, ⟨#[c]⟩, false, []⟩
def nameT (s : ByteArray) : Tok := ⟨1, s, false, []⟩
theorem markT_ok {c : UInt8} (hc : c = 40 ∨ c = 41 ∨ c = 44) : tokOk (markT c) = true := by
  obtain ⟨g0, g1⟩ := one_at c
  have hl : lineOk (⟨#[c]⟩ : ByteArray) = true := by rcases hc with rfl | rfl | rfl <;> decide
  have := sub_tok hl g0 (by rw [g1]; rcases hc with rfl | rfl | rfl <;> decide) (cut_one hc) false
  have e1 : (⟨#[c]⟩ : ByteArray).extract 0 1 = ⟨#[c]⟩ := by
    refine bAt_ext rfl fun j hj => ?_
    rw [bAt_sub (by show 1 ≤ 1; omega) (by have : j < 1 := hj; omega), Nat.zero_add]
  have e2 : cutKind ((⟨#[c]⟩ : ByteArray)[0]) = 4 := by rw [g1]; rcases hc with rfl | rfl | rfl <;> decide
  rw [e1, e2] at this
  exact this
theorem nameT_ok {s : ByteArray} (h : oneTok s 1 = true) : tokOk (nameT s) = true := by
  unfold tokOk nameT
  rw [Bool.and_eq_true]
  exact ⟨h, by show hidOk [] = true; decide⟩
theorem wEnd_words (s : ByteArray) (k : Nat) : ∀ j, (h : j < s.size) → k ≤ j → j < wEnd s k → isWord s[j] = true := by
  induction k using wEnd.induct (s := s) with
  | case1 k h hc ih =>
    intro j hj hkj hje
    rw [wEnd_in h hc] at hje
    by_cases e : j = k
    · subst e; exact hc
    · exact ih j hj (by omega) hje
  | case2 k h hc => intro j hj hkj hje; rw [wEnd_stop h (by simpa using hc)] at hje; omega
  | case3 k h => intro j hj hkj hje; rw [wEnd_out (by omega)] at hje; omega
/-- A name: at most twelve bytes, each of a word. -/
theorem name_facts {s : ByteArray} (h : oneTok s 1 = true) : 0 < s.size ∧ s.size ≤ 12 ∧ ∀ j, (hj : j < s.size) → isWord s[j] = true := by
  obtain ⟨h0, _, hc, _⟩ := tokOk_cut (nameT_ok h)
  obtain ⟨_, hk⟩ := (tokOk_facts (nameT_ok h)).1
  have h0' : 0 < s.size := h0
  have hc' : cutEnd s 0 = (s.size : Nat) := hc
  have hk' : (1 : Int) = cutKind s[0] := hk
  have hw : isWord s[0] = true := by
    unfold cutKind at hk'
    unfold isWord
    split at hk'
    · omega
    · split at hk'
      · rename_i h; rw [h]; rfl
      · split at hk' <;> omega
  rw [cutEnd_word h0' hw] at hc'
  split at hc'
  · omega
  · exact ⟨h0', by omega, fun j hj => wEnd_words s 0 j hj (by omega) (by omega)⟩
theorem reads_two {a b : Tok} (ha : tokOk a = true) (hb : tokOk b = true) (hc : cutEnd (a.text ++ b.text) 0 = (a.text.size : Nat)) (hs : a.text.size + b.text.size ≤ 200) : readsTwo a.text b.text = true := by
  obtain ⟨a0, a32, _, al⟩ := tokOk_cut ha
  obtain ⟨b0, b32, bc, bl⟩ := tokOk_cut hb
  have hz : (a.text ++ b.text).size = a.text.size + b.text.size := ByteArray.size_append
  have hl : lineOk (a.text ++ b.text) = true := ((AllOk.of al).app (AllOk.of bl)).line (by omega)
  have g0 : 0 < (a.text ++ b.text).size := by omega
  have g1 : a.text.size < (a.text ++ b.text).size := by omega
  have e0 : (a.text ++ b.text)[0] = a.text[0] := ByteArray.getElem_append_left a0
  have e1 : (a.text ++ b.text)[a.text.size] = b.text[0] := by
    have h1 := bAt_right (s := a.text) (t := b.text) (i := a.text.size) (j := 0) (by omega)
    rw [bAt_lt g1, bAt_lt b0, Option.some.injEq] at h1
    exact h1
  have hc2 : cutEnd (a.text ++ b.text) a.text.size = (a.text.size + b.text.size : Nat) := by
    refine cut_same (s := b.text) (k := 0) (by rw [bc]; omega) (fun j hj => ?_) (ends_none (bAt_ge (by omega)))
    rw [Nat.zero_add]; exact bAt_right rfl
  have t1 := (AtT.zero (a.text ++ b.text)).tok g0 (by rw [e0]; exact a32) (by rw [hc]) (by simp)
  have t2 := t1.tok g1 (by rw [e1]; exact b32) hc2 (by simp)
  have t3 := tokRes_some hl (t2.done (by omega))
  have x1 : (a.text ++ b.text).extract 0 a.text.size = a.text := by
    have hzz : ((a.text ++ b.text).extract 0 a.text.size).size = a.text.size := by rw [ByteArray.size_extract]; omega
    refine bAt_ext hzz fun j hj => ?_
    rw [bAt_sub (by omega) (by omega), Nat.zero_add, bAt_left (by omega)]
  have x2 : (a.text ++ b.text).extract a.text.size (a.text.size + b.text.size) = b.text := by
    have hzz : ((a.text ++ b.text).extract a.text.size (a.text.size + b.text.size)).size = b.text.size := by rw [ByteArray.size_extract]; omega
    refine bAt_ext hzz fun j hj => ?_
    rw [bAt_sub (by omega) (by omega)]
    exact bAt_right rfl
  unfold readsTwo
  rw [t3]
  simp [x1, x2]
theorem meets_no {a b : ByteArray} (h : ∀ h : 0 < a.size, (a[a.size - 1]'(by omega)).toNat ≠ 47) : meets a b = false := by
  unfold meets
  split
  · rename_i hh
    rw [decide_eq_false (h hh.1)]; rfl
  · rfl
theorem glue_name {s : ByteArray} (h : oneTok s 1 = true) {c : UInt8} (hc : c = 40 ∨ c = 41 ∨ c = 44) : glued s (⟨#[c]⟩ : ByteArray) = false := by
  obtain ⟨h0, h12, hw⟩ := name_facts h
  have hr : readsTwo (nameT s).text (markT c).text = true := by
    refine reads_two (nameT_ok h) (markT_ok hc) (cut_ends (nameT_ok h) fun d hd => ?_) (by show s.size + 1 ≤ 200; omega)
    obtain ⟨_, hx⟩ := bAt_some hd
    have hx' : c = d := hx
    subst hx'
    rcases hc with rfl | rfl | rfl <;> decide
  have hm : meets s (⟨#[c]⟩ : ByteArray) = false := meets_no fun hp => by
    have := hw (s.size - 1) (by omega)
    rw [isWord_iff] at this
    omega
  unfold glued
  rw [show readsTwo s (⟨#[c]⟩ : ByteArray) = true from hr, hm]; rfl
theorem glue_mark {c : UInt8} (hc : c = 40 ∨ c = 44) {b : Tok} (hb : tokOk b = true) (hs : b.text.size ≤ 100) : glued (⟨#[c]⟩ : ByteArray) b.text = false := by
  have hr : readsTwo (markT c).text b.text = true := by
    refine reads_two (markT_ok (by rcases hc with h | h; exact .inl h; exact .inr (.inr h))) hb ?_ (by show 1 + b.text.size ≤ 200; omega)
    exact (cut_solo hc b.text).trans rfl
  have hm : meets (⟨#[c]⟩ : ByteArray) b.text = false := meets_no fun hp => by
    have : (⟨#[c]⟩ : ByteArray)[(⟨#[c]⟩ : ByteArray).size - 1] = c := rfl
    rw [this]
    rcases hc with rfl | rfl <;> decide
  unfold glued
  rw [show readsTwo (⟨#[c]⟩ : ByteArray) b.text = true from hr, hm]; rfl

/-! ### Printing token by token -/
def prAll (l : List Tok) : ByteArray := prTo l l.length
theorem gap_pre (A X : List Tok) {k : Nat} (hk : k < A.length) : gap (A ++ X) k = gap A k := by
  unfold gap
  by_cases h0 : 0 < k
  · rw [dif_pos ⟨h0, by rw [List.length_append]; omega⟩, dif_pos ⟨h0, hk⟩, List.getElem_append_left hk, List.getElem_append_left (by omega)]
  · rw [dif_neg (by omega), dif_neg (by omega)]
theorem prTo_pre (A X : List Tok) : ∀ k, k ≤ A.length → prTo (A ++ X) k = prTo A k
  | 0, _ => rfl
  | k + 1, hk => by
    have ih := prTo_pre A X k (by omega)
    have hk' : k < A.length := by omega
    rw [prTo, prTo, gap_pre A X hk', ih, dif_pos (by rw [List.length_append]; omega), dif_pos hk', List.getElem_append_left hk']
theorem prAll_snoc (A : List Tok) (p t : Tok) : prAll (A ++ [p] ++ [t]) = (if (t.spaced || glued p.text t.text) = true then prAll (A ++ [p]) ++ ⟨#[32]⟩ else prAll (A ++ [p])) ++ t.text := by
  have hl : (A ++ [p] ++ [t]).length = (A ++ [p]).length + 1 := by simp
  have hlp : (A ++ [p]).length = A.length + 1 := by simp
  unfold prAll
  rw [hl, prTo]
  have hg : gap (A ++ [p] ++ [t]) (A ++ [p]).length = (t.spaced || glued p.text t.text) := by
    unfold gap
    rw [dif_pos ⟨by omega, by omega⟩]
    have e1 : (A ++ [p] ++ [t])[(A ++ [p]).length] = t := by rw [List.getElem_append_right (Nat.le_refl _)]; simp
    have e2 : (A ++ [p] ++ [t])[(A ++ [p]).length - 1]'(by omega) = p := by
      rw [List.getElem_append_left (by omega), List.getElem_append_right (by omega)]; simp
    rw [e1, e2]
  rw [hg, prTo_pre _ _ _ (Nat.le_refl _), dif_pos (by omega)]
  congr 1
  rw [List.getElem_append_right (Nat.le_refl _)]; simp
theorem prAll_one (t : Tok) : prAll [t] = t.text := by
  unfold prAll
  show prTo [t] 1 = _
  rw [prTo_no (by simp) (gap_zero _)]
  exact nil_app t.text

/-! ### The tokens of a macro's text -/
/-- The head's tokens up to the parameter k. -/
def hL (m : DMacro) : Nat → List Tok
  | 0 => [nameT m.name, markT 40]
  | k + 1 => (if 0 < k then hL m k ++ [markT 44] else hL m k) ++ [nameT (if h : k < m.params.length then m.params[k] else ⟨#[]⟩)]
def lastT (m : DMacro) (k : Nat) : Tok := if 0 < k then nameT (if h : k - 1 < m.params.length then m.params[k - 1] else ⟨#[]⟩) else markT 40
theorem hL_last (m : DMacro) (k : Nat) : ∃ A, hL m k = A ++ [lastT m k] := by
  cases k with
  | zero => exact ⟨[nameT m.name], rfl⟩
  | succ k =>
    refine ⟨if 0 < k then hL m k ++ [markT 44] else hL m k, ?_⟩
    unfold lastT
    rw [if_pos (Nat.succ_pos k)]; rfl
theorem hL_len (m : DMacro) : ∀ k, (hL m k).length = if 0 < k then 2 * k + 1 else 2
  | 0 => rfl
  | 1 => rfl
  | k + 2 => by
    have ih := hL_len m (k + 1)
    rw [if_pos (by omega)] at ih
    rw [hL, if_pos (by omega), if_pos (by omega), List.length_append, List.length_append, ih]
    simp; omega
theorem hL_first (m : DMacro) : ∀ k, (hL m k)[0]? = some (nameT m.name) ∧ (hL m k)[1]? = some (markT 40)
  | 0 => ⟨rfl, rfl⟩
  | k + 1 => by
    obtain ⟨h1, h2⟩ := hL_first m k
    have hl : 2 ≤ (hL m k).length := by rw [hL_len]; split <;> omega
    have hl' : 2 ≤ (if 0 < k then hL m k ++ [markT 44] else hL m k).length := by
      split
      · rw [List.length_append]; omega
      · exact hl
    rw [hL, List.getElem?_append_left (by omega), List.getElem?_append_left (by omega)]
    split
    · rw [List.getElem?_append_left (by omega), List.getElem?_append_left (by omega)]; exact ⟨h1, h2⟩
    · exact ⟨h1, h2⟩
theorem hL_at (m : DMacro) : ∀ k, k ≤ m.params.length → ∀ i, (hi : i < k) → (hn : i < m.params.length) → (hL m k)[2 + 2 * i]? = some (nameT m.params[i]) ∧ (i + 1 < k → (hL m k)[3 + 2 * i]? = some (markT 44))
  | 0, _, i, hi, _ => by omega
  | k + 1, hk, i, hi, hn => by
    have hlen := hL_len m k
    by_cases h0 : 0 < k
    · rw [if_pos h0] at hlen
      have hl1 : (hL m k ++ [markT 44]).length = 2 * k + 2 := by rw [List.length_append, hlen]; rfl
      rw [hL, if_pos h0]
      by_cases e : i = k
      · subst e
        refine ⟨?_, fun h => by omega⟩
        rw [List.getElem?_append_right (by omega), hl1, show 2 + 2 * i - (2 * i + 2) = 0 by omega]
        simp [hn]
      · obtain ⟨h1, h2⟩ := hL_at m k (by omega) i (by omega) hn
        refine ⟨?_, fun h => ?_⟩
        · rw [List.getElem?_append_left (by omega), List.getElem?_append_left (by omega)]; exact h1
        · rw [List.getElem?_append_left (by omega)]
          by_cases h3 : i + 1 < k
          · rw [List.getElem?_append_left (by omega)]; exact h2 h3
          · rw [List.getElem?_append_right (by omega), hlen, show 3 + 2 * i - (2 * k + 1) = 0 by omega]; rfl
    · obtain rfl : k = 0 := by omega
      obtain rfl : i = 0 := by omega
      refine ⟨?_, fun h => by omega⟩
      rw [hL, if_neg (by omega)]
      simp [hL, hn]
theorem hL_ok {m : DMacro} (h : macOk m = true) : ∀ k, k ≤ m.params.length → ∀ t ∈ hL m k, tokOk t = true := by
  obtain ⟨⟨h1, _⟩, h2, _⟩ := macOk_facts h
  intro k
  induction k with
  | zero =>
    intro _ t ht
    simp only [hL, List.mem_cons, List.not_mem_nil, or_false] at ht
    rcases ht with rfl | rfl
    · exact nameT_ok h1
    · exact markT_ok (by decide)
  | succ k ih =>
    intro hk t ht
    rw [hL] at ht
    rcases List.mem_append.1 ht with ht | ht
    · split at ht
      · rcases List.mem_append.1 ht with ht | ht
        · exact ih (by omega) t ht
        · obtain rfl := List.mem_singleton.1 ht
          exact markT_ok (by decide)
      · exact ih (by omega) t ht
    · obtain rfl := List.mem_singleton.1 ht
      rw [dif_pos (by omega)]
      exact nameT_ok (h2 k (by omega))
theorem hL_print {m : DMacro} (h : macOk m = true) : ∀ k, k ≤ m.params.length → prAll (hL m k) = hdTo m k := by
  obtain ⟨⟨h1, _⟩, h2, _⟩ := macOk_facts h
  intro k
  induction k with
  | zero =>
    intro _
    have := prAll_snoc [] (nameT m.name) (markT 40)
    have hg : ((markT 40).spaced || glued (nameT m.name).text (markT 40).text) = false := glue_name h1 (.inl rfl)
    rw [hg, if_neg (by simp)] at this
    show prAll ([] ++ [nameT m.name] ++ [markT 40]) = _
    rw [this]
    show prAll [nameT m.name] ++ _ = _
    rw [prAll_one]; rfl
  | succ k ih =>
    intro hk
    have ih' := ih (by omega)
    have hkp : k < m.params.length := by omega
    have hnk := h2 k hkp
    have hsz : (nameT m.params[k]).text.size ≤ 100 := by have := (name_facts hnk).2.1; show m.params[k].size ≤ 100; omega
    obtain ⟨A, hA⟩ := hL_last m k
    by_cases h0 : 0 < k
    · have hlast : lastT m k = nameT (m.params[k - 1]'(by omega)) := by unfold lastT; rw [if_pos h0, dif_pos (by omega)]
      rw [hlast] at hA
      have s1 := prAll_snoc A (nameT (m.params[k - 1]'(by omega))) (markT 44)
      have g1 : ((markT 44).spaced || glued (nameT (m.params[k - 1]'(by omega))).text (markT 44).text) = false := glue_name (h2 (k - 1) (by omega)) (.inr (.inr rfl))
      rw [g1, if_neg (by simp), ← hA, ih'] at s1
      have s2 := prAll_snoc (hL m k) (markT 44) (nameT m.params[k])
      have g2 : ((nameT m.params[k]).spaced || glued (markT 44).text (nameT m.params[k]).text) = false := glue_mark (.inr rfl) (nameT_ok hnk) hsz
      rw [g2, if_neg (by simp), s1] at s2
      rw [hL, if_pos h0, dif_pos hkp, s2, hdTo, if_pos h0, dif_pos hkp]
      rfl
    · have hlast : lastT m k = markT 40 := by unfold lastT; rw [if_neg h0]
      rw [hlast] at hA
      have s1 := prAll_snoc A (markT 40) (nameT m.params[k])
      have g1 : ((nameT m.params[k]).spaced || glued (markT 40).text (nameT m.params[k]).text) = false := glue_mark (.inl rfl) (nameT_ok hnk) hsz
      rw [g1, if_neg (by simp), ← hA, ih'] at s1
      rw [hL, if_neg h0, dif_pos hkp, s1, hdTo, if_neg h0, dif_pos hkp]
      rfl
def headL (m : DMacro) : List Tok := if m.function = true then hL m m.params.length ++ [markT 41] else [nameT m.name]
theorem headL_print {m : DMacro} (h : macOk m = true) : prAll (headL m) = headOf m := by
  obtain ⟨⟨h1, _⟩, h2, _⟩ := macOk_facts h
  unfold headL headOf
  split
  · obtain ⟨A, hA⟩ := hL_last m m.params.length
    have s1 := prAll_snoc A (lastT m m.params.length) (markT 41)
    have g1 : ((markT 41).spaced || glued (lastT m m.params.length).text (markT 41).text) = false := by
      unfold lastT
      split
      · rename_i h0
        rw [dif_pos (by omega)]
        exact glue_name (h2 _ (by omega)) (.inr (.inl rfl))
      · exact glue_mark (.inl rfl) (markT_ok (by decide)) (by decide)
    rw [g1, if_neg (by simp), ← hA, hL_print h _ (Nat.le_refl _)] at s1
    rw [s1]; rfl
  · exact prAll_one _
theorem headL_ok {m : DMacro} (h : macOk m = true) : ∀ t ∈ headL m, tokOk t = true := by
  unfold headL
  split
  · intro t ht
    rcases List.mem_append.1 ht with ht | ht
    · exact hL_ok h _ (Nat.le_refl _) t ht
    · obtain rfl := List.mem_singleton.1 ht
      exact markT_ok (by decide)
  · intro t ht
    obtain rfl := List.mem_singleton.1 ht
    exact nameT_ok (macOk_facts h).1.1
theorem headL_len {m : DMacro} (h : macOk m = true) : 0 < (headL m).length ∧ (headL m).length ≤ 11 := by
  have h4 := (macOk_facts h).1.2.2.1
  unfold headL
  split
  · have := hL_len m m.params.length
    rw [List.length_append, this]
    split <;> simp <;> omega
  · simp

/-- The body behind a space. -/
def bodyS (b : List Tok) : List Tok := b.mapIdx fun i t => ⟨t.kind, t.text, t.spaced || decide (i = 0), []⟩
theorem bodyS_len (b : List Tok) : (bodyS b).length = b.length := by simp [bodyS]
theorem bodyS_get (b : List Tok) (i : Nat) (h : i < (bodyS b).length) : (bodyS b)[i] = ⟨(b[i]'(by rw [bodyS_len] at h; exact h)).kind, (b[i]'(by rw [bodyS_len] at h; exact h)).text, (b[i]'(by rw [bodyS_len] at h; exact h)).spaced || decide (i = 0), []⟩ := by simp [bodyS]
def macL (m : DMacro) : List Tok := headL m ++ bodyS m.body
theorem macL_len (m : DMacro) : (macL m).length = (headL m).length + m.body.length := by unfold macL; rw [List.length_append, bodyS_len]
theorem macL_head (m : DMacro) {i : Nat} (h : i < (headL m).length) (h' : i < (macL m).length) : (macL m)[i] = (headL m)[i] := List.getElem_append_left h
theorem macL_body (m : DMacro) {i j : Nat} (hj : j = (headL m).length + i) (h : i < m.body.length) (h' : j < (macL m).length) : (macL m)[j] = ⟨m.body[i].kind, m.body[i].text, m.body[i].spaced || decide (i = 0), []⟩ := by
  subst hj
  have h2 : (headL m).length + i < (headL m ++ bodyS m.body).length := h'
  have e : (headL m ++ bodyS m.body)[(headL m).length + i] = (bodyS m.body)[i]'(by rw [bodyS_len]; exact h) := by
    rw [List.getElem_append_right (by omega)]; simp
  exact e.trans (bodyS_get m.body i (by rw [bodyS_len]; exact h))
theorem macL_ok {m : DMacro} (h : macOk m = true) : toksOk (macL m) = true := by
  obtain ⟨⟨_, _, _, _, h5⟩, _, h7⟩ := macOk_facts h
  have hl := headL_len h
  unfold toksOk
  rw [Bool.and_eq_true, decide_eq_true_eq, List.all_eq_true]
  refine ⟨by rw [macL_len]; omega, fun t ht => ?_⟩
  rcases List.mem_append.1 ht with ht | ht
  · exact headL_ok h t ht
  · obtain ⟨i, hi, rfl⟩ := List.getElem_of_mem ht
    have hi' : i < m.body.length := by rw [bodyS_len] at hi; exact hi
    rw [bodyS_get]
    exact tokOk_bare (bodOk_facts hi' (h7 i hi')).1 _
theorem macL_gap {m : DMacro} (h : macOk m = true) {i : Nat} (hi : i < m.body.length) : gap (macL m) ((headL m).length + i) = if i = 0 then true else gap m.body i := by
  have hl := headL_len h
  have hlen := macL_len m
  unfold gap
  rw [dif_pos ⟨by omega, by omega⟩, macL_body m rfl hi]
  by_cases h0 : i = 0
  · rw [if_pos h0, decide_eq_true h0]; simp
  · rw [if_neg h0, dif_pos ⟨by omega, hi⟩, macL_body m (i := i - 1) (by omega) (by omega), decide_eq_false h0]
    simp
theorem macL_print {m : DMacro} (h : macOk m = true) : ∀ i, i ≤ m.body.length → prTo (macL m) ((headL m).length + i) = if 0 < i then headOf m ++ ⟨#[32]⟩ ++ prTo m.body i else headOf m
  | 0, _ => by
    rw [if_neg (by omega), Nat.add_zero]
    unfold macL
    rw [prTo_pre _ _ _ (Nat.le_refl _)]
    exact headL_print h
  | i + 1, hi => by
    have ih := macL_print h i (by omega)
    have hlen := macL_len m
    have hi' : i < m.body.length := by omega
    have hg := macL_gap h hi'
    rw [if_pos (Nat.succ_pos i), show (headL m).length + (i + 1) = (headL m).length + i + 1 by omega]
    by_cases h0 : i = 0
    · have ih' : prTo (macL m) ((headL m).length + i) = headOf m := by rw [ih, if_neg (by omega)]
      rw [if_pos h0] at hg
      rw [prTo_yes (by omega) hg, macL_body m rfl hi', ih', prTo_no hi' (by rw [h0]; exact gap_zero _)]
      subst h0
      show headOf m ++ ⟨#[32]⟩ ++ m.body[0].text = headOf m ++ ⟨#[32]⟩ ++ (⟨#[]⟩ ++ m.body[0].text)
      rw [nil_app]
    · have ih' : prTo (macL m) ((headL m).length + i) = headOf m ++ ⟨#[32]⟩ ++ prTo m.body i := by rw [ih, if_pos (by omega)]
      rw [if_neg h0] at hg
      cases hb : gap m.body i
      · rw [hb] at hg
        rw [prTo_no (by omega) hg, macL_body m rfl hi', ih', prTo_no hi' hb]
        simp only [ByteArray.append_assoc]
      · rw [hb] at hg
        rw [prTo_yes (by omega) hg, macL_body m rfl hi', ih', prTo_yes hi' hb]
        simp only [ByteArray.append_assoc]

/-! ### Reading it -/
theorem back_get (m : DMacro) {i : Nat} (h : i < (macL m).length) : ∃ h' : i < (readBack (macL m)).length, (readBack (macL m))[i] = ⟨(macL m)[i].kind, (macL m)[i].text, gap (macL m) i, []⟩ :=
  ⟨by rw [readBack_len]; exact h, readBack_get _ _ _⟩
theorem headL_fun {m : DMacro} (hf : m.function = true) : headL m = hL m m.params.length ++ [markT 41] := by unfold headL; rw [if_pos hf]
theorem headL_flen {m : DMacro} (hf : m.function = true) : (headL m).length = if 0 < m.params.length then 2 * m.params.length + 2 else 3 := by
  rw [headL_fun hf, List.length_append, hL_len]; split <;> rfl
theorem get_some {l : List Tok} {i : Nat} {t : Tok} (h : l[i]? = some t) : ∃ h : i < l.length, l[i] = t := List.getElem?_eq_some_iff.1 h
theorem macL_at {m : DMacro} {i : Nat} {t : Tok} (h : (headL m)[i]? = some t) : ∃ h : i < (macL m).length, (macL m)[i] = t := by
  obtain ⟨h1, h2⟩ := get_some h
  have h3 : i < (macL m).length := by rw [macL_len]; omega
  exact ⟨h3, (macL_head m h1 h3).trans h2⟩
theorem pars_read {m : DMacro} (hf : m.function = true) : ∀ d i, i + d + 1 = m.params.length → parsAt (readBack (macL m)) (2 + 2 * i) = some (m.params.drop i, (headL m).length) := by
  intro d
  induction d with
  | zero =>
    intro i hi
    have hlen := headL_flen hf
    rw [if_pos (by omega)] at hlen
    have hn : i < m.params.length := by omega
    have a1 : (headL m)[2 + 2 * i]? = some (nameT m.params[i]) := by
      rw [headL_fun hf, List.getElem?_append_left (by rw [hL_len, if_pos (by omega)]; omega)]
      exact (hL_at m _ (Nat.le_refl _) i hn hn).1
    have a2 : (headL m)[2 + 2 * i + 1]? = some (markT 41) := by
      have := hL_len m m.params.length
      rw [if_pos (by omega)] at this
      rw [headL_fun hf, List.getElem?_append_right (by omega), this, show 2 + 2 * i + 1 - (2 * m.params.length + 1) = 0 by omega]; rfl
    obtain ⟨h1, e1⟩ := macL_at a1
    obtain ⟨h2, e2⟩ := macL_at a2
    obtain ⟨g1, r1⟩ := back_get m h1
    obtain ⟨g2, r2⟩ := back_get m h2
    rw [parsAt, dif_pos g2, r1, r2, e1, e2, if_pos (by rfl), if_pos (by rfl)]
    show some ([m.params[i]], 2 + 2 * i + 2) = _
    have : m.params.drop i = [m.params[i]] := by
      rw [List.drop_eq_getElem_cons hn, List.drop_eq_nil_iff.2 (by omega)]
    rw [this, hlen]
    congr 2
    omega
  | succ d ih =>
    intro i hi
    have hlen := headL_flen hf
    rw [if_pos (by omega)] at hlen
    have hn : i < m.params.length := by omega
    have a1 : (headL m)[2 + 2 * i]? = some (nameT m.params[i]) := by
      rw [headL_fun hf, List.getElem?_append_left (by rw [hL_len, if_pos (by omega)]; omega)]
      exact (hL_at m _ (Nat.le_refl _) i hn hn).1
    have a2 : (headL m)[2 + 2 * i + 1]? = some (markT 44) := by
      rw [headL_fun hf, List.getElem?_append_left (by rw [hL_len, if_pos (by omega)]; omega), show 2 + 2 * i + 1 = 3 + 2 * i by omega]
      exact (hL_at m _ (Nat.le_refl _) i hn hn).2 (by omega)
    obtain ⟨h1, e1⟩ := macL_at a1
    obtain ⟨h2, e2⟩ := macL_at a2
    obtain ⟨g1, r1⟩ := back_get m h1
    obtain ⟨g2, r2⟩ := back_get m h2
    have ih' := ih (i + 1) (by omega)
    rw [parsAt, dif_pos g2, r1, r2, e1, e2, if_pos (by rfl), if_neg (by show ¬ (⟨#[44]⟩ : ByteArray) = ⟨#[41]⟩; decide), if_pos (by rfl), show 2 + 2 * i + 2 = 2 + 2 * (i + 1) by omega, ih', List.drop_eq_getElem_cons hn]
    rfl
theorem bodyFrom_len (l : List Tok) (k : Nat) : (bodyFrom l k).length = l.length - k := by simp [bodyFrom]
theorem bodyFrom_get (l : List Tok) (k i : Nat) (h : i < (bodyFrom l k).length) : (bodyFrom l k)[i] = ⟨(l[k + i]'(by rw [bodyFrom_len] at h; omega)).kind, (l[k + i]'(by rw [bodyFrom_len] at h; omega)).text, (l[k + i]'(by rw [bodyFrom_len] at h; omega)).spaced && decide (0 < i), []⟩ := by simp [bodyFrom]
theorem gap_back (b : List Tok) (k : Nat) : gap (readBack b) k = gap b k := by
  unfold gap
  by_cases h : 0 < k ∧ k < b.length
  · rw [dif_pos ⟨h.1, by rw [readBack_len]; exact h.2⟩, dif_pos h, readBack_get, readBack_get]
    show (gap b k || glued _ _) = _
    unfold gap
    rw [dif_pos h]
    cases b[k].spaced <;> simp
  · rw [dif_neg (by rw [readBack_len]; exact h), dif_neg h]
theorem prTo_back (b : List Tok) : ∀ k, k ≤ b.length → prTo (readBack b) k = prTo b k
  | 0, _ => rfl
  | k + 1, hk => by
    have ih := prTo_back b k (by omega)
    have hk' : k < b.length := by omega
    rw [prTo, prTo, gap_back, ih, dif_pos hk', dif_pos (by rw [readBack_len]; exact hk'), readBack_get]
/-- A macro as it is read back. -/
def macBack (m : DMacro) : DMacro := ⟨m.name, m.function, m.params, readBack m.body⟩
theorem macBack_ok {m : DMacro} (h : macOk m = true) : macOk (macBack m) = true :=
  macOk_keys h (readBack_len _) fun k h1 h2 => by
    rw [readBack_get]
    exact ⟨rfl, rfl, rfl, fun h => by subst h; show gap m.body 0 = false; exact gap_zero m.body⟩
theorem macBack_same (m : DMacro) : sameTx (macBack m).body m.body = true := by
  unfold sameTx macBack
  rw [readBack_keys]; simp
theorem hdTo_back (m : DMacro) : ∀ k, hdTo (macBack m) k = hdTo m k
  | 0 => rfl
  | k + 1 => by rw [hdTo, hdTo, hdTo_back m k]; rfl
theorem body_toks {m : DMacro} (h : macOk m = true) : toksOk m.body = true := by
  obtain ⟨⟨_, _, _, _, h5⟩, _, h7⟩ := macOk_facts h
  unfold toksOk
  rw [Bool.and_eq_true, decide_eq_true_eq, List.all_eq_true]
  refine ⟨by omega, fun t ht => ?_⟩
  obtain ⟨i, hi, rfl⟩ := List.getElem_of_mem ht
  exact (bodOk_facts hi (h7 i hi)).1
theorem print_same {a b : List Tok} (ha : toksOk a = true) (hb : toksOk b = true) (h : prTo a a.length = prTo b b.length) : printRes a = printRes b := by
  unfold printRes; rw [if_pos ha, if_pos hb, h]
theorem macBack_text {m : DMacro} (h : macOk m = true) : macText (macBack m) = macText m := by
  have hb := macBack_ok h
  have hp : printRes (macBack m).body = printRes m.body := print_same (body_toks hb) (body_toks h) (by
    show prTo (readBack m.body) (readBack m.body).length = _
    rw [readBack_len]; exact prTo_back _ _ (Nat.le_refl _))
  have hh : headOf (macBack m) = headOf m := by unfold headOf; rw [hdTo_back]; rfl
  have hl : (macBack m).body.length = m.body.length := readBack_len _
  have ho : macOut (macBack m) = macOut m := by unfold macOut; rw [hh, hp, hl]
  unfold macText
  rw [if_pos hb, if_pos h, hp, ho]
/-- The text of a macro is read as one with the same name, parameters and texts of its body. -/
theorem mac_reads {m : DMacro} {s : ByteArray} (h : macText m = (s, true)) : ∃ l, tokRes s = (l, true) ∧ macOf l = (macBack m, true) := by
  have hv : macOk m = true := by
    cases hv : macOk m
    · unfold macText at h; rw [hv, if_neg (by simp)] at h; simp at h
    · rfl
  obtain ⟨⟨f1, f2, f3, f4, f5⟩, f6, f7⟩ := macOk_facts hv
  have hT := macL_ok hv
  have hHl := headL_len hv
  have hLl := macL_len m
  have hprint : prTo (macL m) (macL m).length = if 0 < m.body.length then headOf m ++ ⟨#[32]⟩ ++ prTo m.body m.body.length else headOf m := by
    rw [hLl]; exact macL_print hv _ (Nat.le_refl _)
  unfold macText at h
  rw [if_pos hv] at h
  split at h
  · simp at h
  · rename_i hn
    rw [not_or] at hn
    obtain ⟨hn1, hn2⟩ := hn
    simp only [Prod.mk.injEq, and_true] at h
    have hpr : printRes m.body = (prTo m.body m.body.length, true) := by
      have h2 : (printRes m.body).2 = true := by simpa using hn1
      unfold printRes at h2 ⊢
      split
      · split
        · rename_i h3 h4; rw [if_pos h3, if_pos h4] at h2; simp at h2
        · rfl
      · rename_i h3; rw [if_neg h3] at h2; simp at h2
    have hout : macOut m = prTo (macL m) (macL m).length := by
      rw [hprint]; unfold macOut; rw [hpr]
    rw [hout] at h hn2
    have hback := print_back hT (by omega)
    rw [h] at hback
    refine ⟨_, hback, ?_⟩
    have hok := tokRes_valid hback
    have h0 : 0 < (macL m).length := by omega
    obtain ⟨g0, r0⟩ := back_get m h0
    have e0 : (macL m)[0] = nameT m.name := by
      rw [macL_head m hHl.1 h0]
      unfold headL
      split
      · obtain ⟨h1, h2⟩ := get_some (hL_first m m.params.length).1
        rw [List.getElem_append_left h1]; exact h2
      · rfl
    -- the body
    have hbody : bodyFrom (readBack (macL m)) (headL m).length = readBack m.body := by
      have hbl : (bodyFrom (readBack (macL m)) (headL m).length).length = m.body.length := by
        rw [bodyFrom_len, readBack_len]; omega
      refine List.ext_getElem (by rw [hbl, readBack_len]) fun k h1 h2 => ?_
      have h3 : k < m.body.length := by omega
      have hj : (headL m).length + k < (macL m).length := by omega
      obtain ⟨g1, r1⟩ := back_get m hj
      have e1 := macL_body m (j := (headL m).length + k) rfl h3 hj
      have hg := macL_gap hv h3
      rw [bodyFrom_get, r1, e1, hg, readBack_get]
      by_cases h0 : k = 0
      · subst h0; simp [gap_zero]
      · rw [if_neg h0, decide_eq_true (by omega : 0 < k), Bool.and_true]
    have hb1 := macBack_ok hv
    unfold macOf
    rw [dif_pos ⟨hok, by rw [readBack_len]; exact h0⟩]
    cases hf : m.function
    · have hp : m.params = [] := by rcases f4 with h | h; rw [hf] at h; simp at h; exact h
      have hh : (headL m).length = 1 := by unfold headL; rw [hf]; rfl
      have ho : opens2 (readBack (macL m)) = false := by
        unfold opens2
        split
        · rename_i h1
          rw [readBack_len] at h1
          have hj : 0 < m.body.length := by omega
          have hg := macL_gap hv hj
          rw [hh, if_pos rfl] at hg
          obtain ⟨g1, r1⟩ := back_get m h1
          rw [r1, hg]; simp
        · rfl
      rw [ho, if_neg (by simp), r0, e0]
      show macChk ⟨m.name, false, [], bodyFrom (readBack (macL m)) 1⟩ = _
      have e : (⟨m.name, false, [], bodyFrom (readBack (macL m)) 1⟩ : DMacro) = macBack m := by
        unfold macBack; rw [hf, hp, ← hbody, hh]
      rw [e]
      unfold macChk
      rw [if_pos hb1]
    · have hlen := headL_flen hf
      have h1 : 1 < (macL m).length := by rw [hLl, hlen]; split <;> omega
      obtain ⟨_, e1⟩ := macL_at (m := m) (i := 1) (t := markT 40) (by
        have h2 : 2 ≤ (hL m m.params.length).length := by rw [hL_len]; split <;> omega
        rw [headL_fun hf, List.getElem?_append_left (by omega)]; exact (hL_first m _).2)
      have hg : gap (macL m) 1 = false := by
        unfold gap
        rw [dif_pos ⟨by omega, h1⟩, e1]
        show ((markT 40).spaced || glued (macL m)[0].text _) = false
        rw [e0]
        exact glue_name f1 (.inl rfl)
      obtain ⟨g1, r1⟩ := back_get m h1
      have ho : opens2 (readBack (macL m)) = true := by
        unfold opens2
        rw [dif_pos g1, r1, e1, hg]; rfl
      have hpo : parsOf (readBack (macL m)) = some (m.params, (headL m).length) := by
        unfold parsOf
        by_cases hz : 0 < m.params.length
        · rw [if_pos hz] at hlen
          have hn : 0 < m.params.length := hz
          obtain ⟨h2, e2⟩ := macL_at (m := m) (i := 2) (t := nameT m.params[0]) (by
            rw [headL_fun hf, List.getElem?_append_left (by rw [hL_len, if_pos hz]; omega)]
            exact (hL_at m _ (Nat.le_refl _) 0 hn hn).1)
          obtain ⟨g2, r2⟩ := back_get m h2
          rw [dif_pos g2, r2, e2, if_neg (by rintro ⟨_, h⟩; revert h; show ¬ (1 : Int) = 4; decide)]
          have := pars_read hf (m.params.length - 1) 0 (by omega)
          rw [List.drop_zero] at this
          exact this
        · have hp : m.params = [] := List.length_eq_zero_iff.1 (by omega)
          rw [if_neg hz] at hlen
          obtain ⟨h2, e2⟩ := macL_at (m := m) (i := 2) (t := markT 41) (by
            rw [headL_fun hf, List.getElem?_append_right (by rw [hL_len, if_neg hz]; omega), hL_len, if_neg hz]; rfl)
          obtain ⟨g2, r2⟩ := back_get m h2
          rw [dif_pos g2, r2, e2, if_pos ⟨rfl, rfl⟩, hp, hlen]
      rw [ho, if_pos rfl, hpo, r0, e0]
      show macChk ⟨m.name, true, m.params, bodyFrom (readBack (macL m)) (headL m).length⟩ = _
      have e : (⟨m.name, true, m.params, bodyFrom (readBack (macL m)) (headL m).length⟩ : DMacro) = macBack m := by
        unfold macBack; rw [hf, ← hbody]
      rw [e]
      unfold macChk
      rw [if_pos hb1]

/-! ### What the other promises ask -/
theorem macOf_ok {l : List Tok} {m : DMacro} (h : macOf l = (m, true)) : macOk m = true := by
  have hc : ∀ x : DMacro, macChk x = (m, true) → macOk m = true := fun x hx => by
    unfold macChk at hx
    split at hx
    · rename_i h1
      simp only [Prod.mk.injEq, and_true] at hx
      rw [← hx]; exact h1
    · simp at hx
  unfold macOf at h
  split at h
  · split at h
    · split at h
      · exact hc _ h
      · simp at h
    · exact hc _ h
  · simp at h
theorem macOf_no {l : List Tok} {m : DMacro} (h : macOf l = (m, false)) : m = zeroMac := by
  have hc : ∀ x : DMacro, macChk x = (m, false) → m = zeroMac := fun x hx => by
    unfold macChk at hx
    split at hx
    · simp at hx
    · simp only [Prod.mk.injEq, and_true] at hx; exact hx.symm
  unfold macOf at h
  split at h
  · split at h
    · split at h
      · exact hc _ h
      · simp only [Prod.mk.injEq, and_true] at h; exact h.symm
    · exact hc _ h
  · simp only [Prod.mk.injEq, and_true] at h; exact h.symm
theorem macText_no {m : DMacro} {s : ByteArray} (h : macText m = (s, false)) : s = ⟨#[]⟩ := by
  unfold macText at h
  split at h
  · split at h
    · simp only [Prod.mk.injEq, and_true] at h; exact h.symm
    · simp at h
  · simp only [Prod.mk.injEq, and_true] at h; exact h.symm
theorem macText_size {m : DMacro} : (macText m).1.size ≤ 200 := by
  unfold macText
  split
  · split
    · show (0 : Nat) ≤ 200; omega
    · rename_i h; rw [not_or] at h; show (macOut m).size ≤ 200; omega
  · show (0 : Nat) ≤ 200; omega
/-- A number is no name. -/
theorem digit_no {c : UInt8} (hc : isDig c = true) (m : DMacro) (h : m.name = (⟨#[c]⟩ : ByteArray)) : macOk m = false := by
  cases hm : macOk m
  · rfl
  · have h1 := (macOk_facts hm).1.1
    rw [h] at h1
    obtain ⟨_, hk⟩ := (tokOk_facts (nameT_ok h1)).1
    have hk' : (1 : Int) = cutKind c := hk
    unfold cutKind at hk'
    rw [if_pos hc] at hk'
    omega
theorem macOk_bare {m : DMacro} (h : macOk m = true) : macOk ⟨m.name, false, [], []⟩ = true := by
  obtain ⟨⟨f1, f2, _⟩, _⟩ := macOk_facts h
  unfold macOk macHead
  simp [f1, f2]

end Go.Proofs.Ythbojipdhgidlab

/- Valid macros, part by part, as both sides ask for them: no program. -/
namespace Go.Proofs.Ythbojipdhgidlab
open Go.RowKit

/-- A text beside a literal. -/
theorem txt_dec (x : ByteArray) (l : List UInt8) : (x.toList == l) = decide (x = ⟨l.toArray⟩) := by
  rw [ByteArray.toList_eq]
  by_cases h : x = ⟨l.toArray⟩
  · subst h; simp
  · rw [decide_eq_false h, beq_eq_false_iff_ne]
    intro e
    apply h
    rw [← e]
theorem txt_t {x : ByteArray} {l : List UInt8} (h : x = ⟨l.toArray⟩) : (x.toList == l) = true := by rw [txt_dec, decide_eq_true h]
theorem txt_f {x : ByteArray} {l : List UInt8} (h : x ≠ ⟨l.toArray⟩) : (x.toList == l) = false := by rw [txt_dec, decide_eq_false h]

/-! ### Parameters -/
def ParUpto (ps : List ByteArray) (k : Nat) : Prop := ∀ j, j < k → parOk ps j = true
theorem ParUpto.zero (ps : List ByteArray) : ParUpto ps 0 := by intro j h; omega
theorem ParUpto.succ {ps : List ByteArray} {k : Nat} (h : ParUpto ps k) (h1 : parOk ps k = true) : ParUpto ps (k + 1) := by
  intro j hj
  by_cases e : j = k
  · subst e; exact h1
  · exact h j (by omega)
/-- None of the first j parameters is the parameter k. -/
def NotUpto (ps : List ByteArray) (x : ByteArray) (j : Nat) : Prop := ∀ i, i < j → ps[i]? ≠ some x
theorem NotUpto.zero (ps : List ByteArray) (x : ByteArray) : NotUpto ps x 0 := by intro i h; omega
theorem NotUpto.succ {ps : List ByteArray} {x : ByteArray} {j : Nat} (h : NotUpto ps x j) (hj : j < ps.length) (hn : ps[j] ≠ x) : NotUpto ps x (j + 1) := by
  intro i hi
  by_cases e : i = j
  · subst e; rw [List.getElem?_eq_getElem hj]; intro h'; exact hn (Option.some.inj h')
  · exact h i (by omega)
theorem par_name {ps : List ByteArray} {k : Nat} (hk : k < ps.length) (h : oneTok ps[k] 1 = false) : parOk ps k = false := by unfold parOk; rw [dif_pos hk, h]; rfl
theorem par_twice {ps : List ByteArray} {k j : Nat} (hk : k < ps.length) (hj : j < k) (h : ps[j]'(by omega) = ps[k]) : parOk ps k = false := by
  unfold parOk
  rw [dif_pos hk]
  have : (List.range k).all (fun j => !decide (ps[j]? = some ps[k])) = false := by
    rw [List.all_eq_false]
    exact ⟨j, by simpa using hj, by simp [List.getElem?_eq_getElem (show j < ps.length by omega), h]⟩
  rw [this, Bool.and_false]
theorem par_yes {ps : List ByteArray} {k : Nat} (hk : k < ps.length) (h : oneTok ps[k] 1 = true) (hn : NotUpto ps ps[k] k) : parOk ps k = true := by
  unfold parOk
  rw [dif_pos hk, h, Bool.true_and, List.all_eq_true]
  intro j hj
  have := hn j (by simpa using hj)
  simp [this]

/-! ### The body -/
/-- What the program asks of the token k of a body, besides its being valid. -/
def bodI (b : List Tok) (k : Nat) : Bool :=
  if h : k < b.length then
    decide (b[k].hidden.length = 0) && !(decide (k = 0) && b[k].spaced) && !(decide (b[k].text = hash2) && (decide (k = 0) || decide (k + 1 = b.length) || decide ((b[k - 1]'(by omega)).text = hash2)))
  else true
/-- A text is among others. -/
def hasTx (ps : List ByteArray) (x : ByteArray) : Bool := ps.any fun p => decide (p = x)
theorem hasTx_iff {ps : List ByteArray} {x : ByteArray} : hasTx ps x = true ↔ x ∈ ps := by
  unfold hasTx
  rw [List.any_eq_true]
  exact ⟨fun ⟨p, h1, h2⟩ => by rw [← of_decide_eq_true h2]; exact h1, fun h => ⟨x, h, by simp⟩⟩
/-- # stands before a parameter. -/
def signS (m : DMacro) (k : Nat) : Bool := if h : k < m.body.length then !(decide (m.body[k].text = hash1) && (if h2 : k + 1 < m.body.length then decide (parOf m.params m.body[k + 1] < 0) else true)) else true
def signI (m : DMacro) (k : Nat) : Bool := if h : k < m.body.length then !(decide (m.body[k].text = hash1) && (if h2 : k + 1 < m.body.length then !hasTx m.params m.body[k + 1].text else true)) else true
theorem bodOk_split (m : DMacro) (k : Nat) (hk : k < m.body.length) : bodOk m k = (tokOk m.body[k] && bodI m.body k && (!m.function || signS m k)) := by
  unfold bodOk bodI signS
  rw [dif_pos hk, dif_pos hk, dif_pos hk]
  cases tokOk m.body[k] <;> cases decide (m.body[k].hidden.length = 0) <;> cases (decide (k = 0) && m.body[k].spaced) <;> cases m.function <;> simp
/-- The ways of the token k of a body. -/
theorem bodI_ways {b : List Tok} {k : Nat} (hk : k < b.length) :
    (b[k].hidden.length ≠ 0 ∧ Hid (bodI b k = false)) ∨
    (b[k].hidden.length = 0 ∧ k = 0 ∧ b[k].spaced = true ∧ Hid (bodI b k = false)) ∨
    (b[k].hidden.length = 0 ∧ k = 0 ∧ b[k].spaced = false ∧ b[k].text = hash2 ∧ Hid (bodI b k = false)) ∨
    (b[k].hidden.length = 0 ∧ k = 0 ∧ b[k].spaced = false ∧ b[k].text ≠ hash2 ∧ Hid (bodI b k = true)) ∨
    (b[k].hidden.length = 0 ∧ k ≠ 0 ∧ b[k].text = hash2 ∧ k + 1 = b.length ∧ Hid (bodI b k = false)) ∨
    (b[k].hidden.length = 0 ∧ k ≠ 0 ∧ b[k].text = hash2 ∧ k + 1 ≠ b.length ∧ (b[k - 1]'(by omega)).text = hash2 ∧ Hid (bodI b k = false)) ∨
    (b[k].hidden.length = 0 ∧ k ≠ 0 ∧ b[k].text = hash2 ∧ k + 1 ≠ b.length ∧ (b[k - 1]'(by omega)).text ≠ hash2 ∧ Hid (bodI b k = true)) ∨
    (b[k].hidden.length = 0 ∧ k ≠ 0 ∧ b[k].text ≠ hash2 ∧ Hid (bodI b k = true)) := by
  have e : bodI b k = (decide (b[k].hidden.length = 0) && !(decide (k = 0) && b[k].spaced) && !(decide (b[k].text = hash2) && (decide (k = 0) || decide (k + 1 = b.length) || decide ((b[k - 1]'(by omega)).text = hash2)))) := by
    unfold bodI; rw [dif_pos hk]
  by_cases h1 : b[k].hidden.length = 0
  · by_cases h2 : k = 0
    · subst h2
      cases h3 : b[0].spaced
      · by_cases h4 : b[0].text = hash2
        · exact .inr (.inr (.inl ⟨h1, rfl, rfl, h4, by show _ = _; rw [e, h3, decide_eq_true h4]; simp⟩))
        · exact .inr (.inr (.inr (.inl ⟨h1, rfl, rfl, h4, by show _ = _; rw [e, h3, decide_eq_true h1, decide_eq_false h4]; simp⟩)))
      · exact .inr (.inl ⟨h1, rfl, rfl, by show _ = _; rw [e, h3]; simp⟩)
    · by_cases h4 : b[k].text = hash2
      · by_cases h5 : k + 1 = b.length
        · exact .inr (.inr (.inr (.inr (.inl ⟨h1, h2, h4, h5, by show _ = _; rw [e]; simp [h4, h5]⟩))))
        · by_cases h6 : (b[k - 1]'(by omega)).text = hash2
          · exact .inr (.inr (.inr (.inr (.inr (.inl ⟨h1, h2, h4, h5, h6, by show _ = _; rw [e]; simp [h4, h6]⟩)))))
          · exact .inr (.inr (.inr (.inr (.inr (.inr (.inl ⟨h1, h2, h4, h5, h6, by show _ = _; rw [e]; simp [h1, h2, h5, h6]⟩))))))
      · exact .inr (.inr (.inr (.inr (.inr (.inr (.inr ⟨h1, h2, h4, by show _ = _; rw [e]; simp [h1, h2, h4]⟩))))))
  · exact .inl ⟨h1, by show _ = _; rw [e]; simp [h1]⟩
def BodUpto (p : Nat → Bool) (k : Nat) : Prop := ∀ j, j < k → p j = true
theorem BodUpto.zero (p : Nat → Bool) : BodUpto p 0 := by intro j h; omega
theorem BodUpto.succ {p : Nat → Bool} {k : Nat} (h : BodUpto p k) (h1 : p k = true) : BodUpto p (k + 1) := by
  intro j hj
  by_cases e : j = k
  · subst e; exact h1
  · exact h j (by omega)
theorem range_no {p : Nat → Bool} {n k : Nat} (hk : k < n) (h : p k = false) : (List.range n).all p = false := by
  rw [List.all_eq_false]; exact ⟨k, by simpa using hk, by simp [h]⟩
theorem range_yes {p : Nat → Bool} {n : Nat} (h : ∀ j, j < n → p j = true) : (List.range n).all p = true := by
  rw [List.all_eq_true]; intro j hj; exact h j (by simpa using hj)

theorem signS_other {m : DMacro} {k : Nat} (hk : k < m.body.length) (h : m.body[k].text ≠ hash1) : signS m k = true := by unfold signS; rw [dif_pos hk, decide_eq_false h]; rfl
theorem signS_last {m : DMacro} {k : Nat} (hk : k < m.body.length) (h : m.body[k].text = hash1) (hl : k + 1 = m.body.length) : signS m k = false := by unfold signS; rw [dif_pos hk, decide_eq_true h, dif_neg (by omega)]; rfl
theorem signS_no {m : DMacro} {k : Nat} (hk : k + 1 < m.body.length) (h : (m.body[k]'(by omega)).text = hash1) (hp : parOf m.params m.body[k + 1] < 0) : signS m k = false := by unfold signS; rw [dif_pos (by omega), decide_eq_true h, dif_pos hk, decide_eq_true hp]; rfl
theorem signS_yes {m : DMacro} {k : Nat} (hk : k + 1 < m.body.length) (h : (m.body[k]'(by omega)).text = hash1) (hp : ¬ parOf m.params m.body[k + 1] < 0) : signS m k = true := by unfold signS; rw [dif_pos (by omega), decide_eq_true h, dif_pos hk, decide_eq_false hp]; rfl

/-! ### Macros of the model -/
theorem macOk_head {m : DMacro} (h : macHead m = false) : macOk m = false := by unfold macOk; rw [h]; rfl
theorem macOk_par {m : DMacro} {k : Nat} (hk : k < m.params.length) (h : parOk m.params k = false) : macOk m = false := by unfold macOk; rw [range_no hk h]; simp
theorem macOk_bod {m : DMacro} {k : Nat} (hk : k < m.body.length) (h : bodOk m k = false) : macOk m = false := by unfold macOk; rw [range_no hk h]; simp
theorem macOk_yes {m : DMacro} (h : macHead m = true) (h1 : ParUpto m.params m.params.length) (h2 : BodUpto (bodOk m) m.body.length) : macOk m = true := by unfold macOk; rw [h, range_yes h1, range_yes h2]; rfl
/-- The ways of a macro's head. -/
theorem head_ways (m : DMacro) :
    (oneTok m.name 1 = false ∧ Hid (macOk m = false)) ∨
    (oneTok m.name 1 = true ∧ m.name = definedB ∧ Hid (macOk m = false)) ∨
    (oneTok m.name 1 = true ∧ m.name ≠ definedB ∧ 4 < m.params.length ∧ Hid (macOk m = false)) ∨
    (oneTok m.name 1 = true ∧ m.name ≠ definedB ∧ m.params.length ≤ 4 ∧ m.function = false ∧ 0 < m.params.length ∧ Hid (macOk m = false)) ∨
    (oneTok m.name 1 = true ∧ m.name ≠ definedB ∧ m.params.length ≤ 4 ∧ (m.function = true ∨ m.params.length = 0) ∧ 20 < m.body.length ∧ Hid (macOk m = false)) ∨
    (oneTok m.name 1 = true ∧ m.name ≠ definedB ∧ m.params.length ≤ 4 ∧ (m.function = true ∨ m.params.length = 0) ∧ m.body.length ≤ 20 ∧ Hid (macHead m = true)) := by
  have hd : macHead m = (oneTok m.name 1 && !decide (m.name = definedB) && decide (m.params.length ≤ 4) && (m.function || decide (m.params.length = 0)) && decide (m.body.length ≤ 20)) := rfl
  cases h1 : oneTok m.name 1
  · exact .inl ⟨rfl, macOk_head (by rw [hd, h1]; rfl)⟩
  by_cases h2 : m.name = definedB
  · exact .inr (.inl ⟨rfl, h2, macOk_head (by rw [hd, h1]; simp [h2])⟩)
  by_cases h3 : m.params.length ≤ 4
  · cases h4 : m.function
    · by_cases h5 : m.params.length = 0
      · by_cases h6 : m.body.length ≤ 20
        · exact .inr (.inr (.inr (.inr (.inr ⟨rfl, h2, h3, .inr h5, h6, by show _ = _; rw [hd, h1]; simp [h2, h5, h6]⟩))))
        · exact .inr (.inr (.inr (.inr (.inl ⟨rfl, h2, h3, .inr h5, by omega, macOk_head (by rw [hd]; simp [h6])⟩))))
      · exact .inr (.inr (.inr (.inl ⟨rfl, h2, h3, rfl, by omega, macOk_head (by rw [hd, h4]; simp [h5])⟩)))
    · by_cases h6 : m.body.length ≤ 20
      · exact .inr (.inr (.inr (.inr (.inr ⟨rfl, h2, h3, .inl rfl, h6, by show _ = _; rw [hd, h1, h4]; simp [h2, h3, h6]⟩))))
      · exact .inr (.inr (.inr (.inr (.inl ⟨rfl, h2, h3, .inl rfl, by omega, macOk_head (by rw [hd]; simp [h6])⟩))))
  · exact .inr (.inr (.inl ⟨rfl, h2, by omega, macOk_head (by rw [hd]; simp [h3])⟩))

/-! ### Macros of the program -/
def parsOk (ps : List ByteArray) : Bool := decide (ps.length ≤ 4) && (List.range ps.length).all (parOk ps)
def bodyOkI (b : List Tok) : Bool := decide (b.length ≤ 20) && toksOk b && (List.range b.length).all (bodI b)
def signsOk (m : DMacro) : Bool := (List.range m.body.length).all (signI m)
/-- A text is one token of one kind. -/
theorem one_kind {x : ByteArray} {k k' : Int} (h : oneTok x k = true) (h' : oneTok x k' = true) : k = k' := by
  rcases one_ways x k with ⟨_, H⟩ | ⟨_, _, _, H⟩ | ⟨_, _, _, H⟩ | ⟨_, _, _, _, H⟩ | ⟨t, hr, hk, _, _, _⟩
  · exact absurd (H.out.symm.trans h) (by simp)
  · exact absurd (H.out.symm.trans h) (by simp)
  · exact absurd (H.out.symm.trans h) (by simp)
  · exact absurd (H.out.symm.trans h) (by simp)
  · unfold oneTok at h'
    rw [hr] at h'
    simp at h'
    rw [← hk, ← h'.1]
theorem parFrom_neg {ps : List ByteArray} {t : Tok} (hk : t.kind = 1) (k : Nat) : parFrom ps t k < 0 ↔ t.text ∉ ps.drop k := by
  induction k using parFrom.induct (ps := ps) (t := t) with
  | case1 k h hc =>
    rw [parFrom, dif_pos h, if_pos hc, List.drop_eq_getElem_cons h]
    simp [hc.2]
  | case2 k h hc ih =>
    rw [parFrom, dif_pos h, if_neg hc, ih, List.drop_eq_getElem_cons h]
    have hn : ¬ t.text = ps[k] := fun e => hc ⟨hk, e.symm⟩
    rw [List.mem_cons, not_or]
    exact ⟨fun h => ⟨hn, h⟩, fun h => h.2⟩
  | case3 k h => rw [parFrom, dif_neg h, List.drop_eq_nil_iff.2 (by omega)]; simp
theorem parFrom_kind {ps : List ByteArray} {t : Tok} (hk : t.kind ≠ 1) (k : Nat) : parFrom ps t k < 0 := by
  induction k using parFrom.induct (ps := ps) (t := t) with
  | case1 k h hc => exact absurd hc.1 hk
  | case2 k h hc ih => rw [parFrom, dif_pos h, if_neg hc]; exact ih
  | case3 k h => rw [parFrom, dif_neg h]; omega
theorem sign_same {m : DMacro} (hp : ∀ k, (hk : k < m.params.length) → oneTok m.params[k] 1 = true) (hb : ∀ k, (hk : k < m.body.length) → tokOk m.body[k] = true) (k : Nat) : signI m k = signS m k := by
  unfold signI signS
  by_cases h : k < m.body.length
  · rw [dif_pos h, dif_pos h]
    by_cases h2 : k + 1 < m.body.length
    · rw [dif_pos h2, dif_pos h2]
      have e : (!hasTx m.params m.body[k + 1].text) = decide (parOf m.params m.body[k + 1] < 0) := by
        by_cases hk : m.body[k + 1].kind = 1
        · have := parFrom_neg (ps := m.params) hk 0
          rw [List.drop_zero] at this
          unfold parOf
          by_cases hm : m.body[k + 1].text ∈ m.params
          · have h3 : ¬ parFrom m.params m.body[k + 1] 0 < 0 := fun h => this.1 h hm
            rw [hasTx_iff.2 hm, decide_eq_false h3]; rfl
          · have h4 : hasTx m.params m.body[k + 1].text = false := by
              cases h : hasTx m.params m.body[k + 1].text
              · rfl
              · exact absurd (hasTx_iff.1 h) hm
            rw [h4, decide_eq_true (this.2 hm)]; rfl
        · have h3 := parFrom_kind (ps := m.params) hk 0
          have hm : m.body[k + 1].text ∉ m.params := fun hm => by
            obtain ⟨i, hi, he⟩ := List.getElem_of_mem hm
            have h4 := hp i hi
            rw [he] at h4
            have h5 := hb (k + 1) h2
            unfold tokOk at h5
            rw [Bool.and_eq_true] at h5
            exact hk (one_kind h5.1 h4)
          have h4 : hasTx m.params m.body[k + 1].text = false := by
            cases h : hasTx m.params m.body[k + 1].text
            · rfl
            · exact absurd (hasTx_iff.1 h) hm
          unfold parOf
          rw [h4, decide_eq_true h3]; rfl
      rw [e]
    · rw [dif_neg h2, dif_neg h2]
  · rw [dif_neg h, dif_neg h]
theorem all_and (n : Nat) (p q : Nat → Bool) : (List.range n).all (fun k => p k && q k) = ((List.range n).all p && (List.range n).all q) := by
  induction n with
  | zero => rfl
  | succ n ih =>
    simp only [List.range_succ, List.all_append, ih, List.all_cons, List.all_nil, Bool.and_true]
    cases (List.range n).all p <;> cases (List.range n).all q <;> cases p n <;> cases q n <;> rfl
theorem all_ext {n : Nat} {p q : Nat → Bool} (h : ∀ k, k < n → p k = q k) : (List.range n).all p = (List.range n).all q := by
  cases hq : (List.range n).all q
  · rw [List.all_eq_false] at hq
    obtain ⟨k, hk, h2⟩ := hq
    have hk' : k < n := by simpa using hk
    exact range_no hk' (by rw [h k hk']; simpa using h2)
  · rw [List.all_eq_true] at hq
    exact range_yes fun j hj => by rw [h j hj]; exact hq j (by simpa using hj)
theorem toks_range {b : List Tok} (h : b.length ≤ 20) : toksOk b = (List.range b.length).all (fun k => if h : k < b.length then tokOk b[k] else true) := by
  unfold toksOk
  rw [decide_eq_true (by omega : b.length ≤ 60), Bool.true_and]
  cases hr : (List.range b.length).all (fun k => if h : k < b.length then tokOk b[k] else true)
  · rw [List.all_eq_false] at hr ⊢
    obtain ⟨k, hk, h2⟩ := hr
    have hk' : k < b.length := by simpa using hk
    rw [dif_pos hk'] at h2
    exact ⟨b[k], List.getElem_mem hk', h2⟩
  · rw [List.all_eq_true] at hr ⊢
    intro t ht
    obtain ⟨i, hi, rfl⟩ := List.getElem_of_mem ht
    have := hr i (by simpa using hi)
    rw [dif_pos hi] at this
    exact this
/-- The program's question is the model's. -/
theorem mac_impl (m : DMacro) : macOk m = (oneTok m.name 1 && !decide (m.name = definedB) && (if m.function = true then parsOk m.params && bodyOkI m.body && signsOk m else decide (m.params.length = 0) && bodyOkI m.body)) := by
  have hd : macHead m = (oneTok m.name 1 && !decide (m.name = definedB) && decide (m.params.length ≤ 4) && (m.function || decide (m.params.length = 0)) && decide (m.body.length ≤ 20)) := rfl
  have hB : m.body.length ≤ 20 → (List.range m.body.length).all (bodOk m) = (toksOk m.body && (List.range m.body.length).all (bodI m.body) && (List.range m.body.length).all (fun k => !m.function || signS m k)) := by
    intro hl
    rw [toks_range hl, ← all_and, ← all_and]
    exact all_ext fun k hk => by rw [dif_pos hk]; exact bodOk_split m k hk
  unfold macOk
  rw [hd]
  by_cases hl : m.body.length ≤ 20
  · rw [hB hl, decide_eq_true hl]
    cases hf : m.function
    · rw [if_neg (by simp)]
      have e1 : (List.range m.body.length).all (fun k => !false || signS m k) = true := range_yes fun _ _ => rfl
      rw [e1]
      unfold bodyOkI
      rw [decide_eq_true hl]
      by_cases h0 : m.params.length = 0
      · rw [h0]
        simp
      · rw [decide_eq_false h0]; simp
    · rw [if_pos rfl]
      unfold parsOk bodyOkI signsOk
      rw [decide_eq_true hl]
      have e1 : (List.range m.body.length).all (fun k => !true || signS m k) = (List.range m.body.length).all (signS m) := all_ext fun _ _ => by simp
      rw [e1]
      cases hp : (List.range m.params.length).all (parOk m.params)
      · simp
      cases ht : toksOk m.body
      · simp
      have e2 : (List.range m.body.length).all (signI m) = (List.range m.body.length).all (signS m) := all_ext fun k _ => by
        refine sign_same (fun k hk => ?_) (fun k hk => ?_) k
        · rw [List.all_eq_true] at hp
          have := hp k (by simpa using hk)
          unfold parOk at this
          rw [dif_pos hk, Bool.and_eq_true] at this
          exact this.1
        · rw [toks_range hl, List.all_eq_true] at ht
          have := ht k (by simpa using hk)
          rw [dif_pos hk] at this
          exact this
      rw [e2]
      simp only [Bool.true_or, Bool.and_true, Bool.true_and, Bool.and_assoc]
  · have e1 : bodyOkI m.body = false := by unfold bodyOkI; rw [decide_eq_false hl]; rfl
    rw [decide_eq_false hl, e1]
    simp

end Go.Proofs.Ythbojipdhgidlab

/- MacroValid of the model. (Made by gen_mac3.py.) -/
namespace Go.Proofs.Ythbojipdhgidlab
open Go.RowKit

set_option maxHeartbeats 16000000 in
set_option maxRecDepth 100000 in
theorem spec_MacroValid_no (m : DMacro) (h2 h3 : Value) (fp2 fp3 : List Nat) (w : World) (k0 : okStr m.name) (K2 : (sSlice sStr).R w [h2] m.params fp2) (K3 : (sSlice sTok).R w [h3] m.body fp3) (hf : m.function = false) :
    Calls Try.prog 42 #[.agg #[.string m.name, .bool m.function, h2, h3]] w (Says (macOk m) w) := by
  obtain ⟨a2, cap2, rfl, hc2, hm2, hcell2, hsz2⟩ := open_strs K2
  have K3' := K3
  obtain ⟨a3, cap3, rfl, hc3, hm3, hrow3⟩ := open_rows K3
  unfold maxLen at hm2 hm3
  rw [hf]
  have HN := Lib.hid (fun W => spec_l5Name m.name W k0)
  have hb0 := alloc_below' w (.cells #[.string m.name, .bool false, .slice a2 m.params.length cap2, .slice a3 m.body.length cap3] 35)
  have HX := Lib.hid (heap_alloc_new w (.cells #[.string m.name, .bool false, .slice a2 m.params.length cap2, .slice a3 m.body.length cap3] 35))
  go_enter Try.func42, Try.ntmps42
  rcases head_ways m with ⟨g1, HF⟩ | ⟨g1, g2, HF⟩ | ⟨g1, g2, g3, HF⟩ | ⟨g1, g2, g3, g4, g5, HF⟩ | ⟨g1, g2, g3, g4, g5, HF⟩ | ⟨g1, g2, g3, g4, g5, HH⟩
  · rw [g1] at HN
    clear g1
    go_wp2_with (go_at_call 75; refine (HN.out _).mono ?_; rintro e w1 ⟨rfl, hb1⟩)
    go_ret
    exact ⟨ret_bool HF.out.symm, hb0.trans (hb1.mono hb0.size)⟩
  · rw [g1] at HN
    have e2 := txt_t (l := [100, 101, 102, 105, 110, 101, 100]) g2
    clear g1 g2
    go_wp2_with (go_at_call 75; refine (HN.out _).mono ?_; rintro e w1 ⟨rfl, hb1⟩; have q0 : w1.cell? ⟨w.heap.size, 0, none⟩ = some _ := cell_of_row _ _ 0 _ _ _ ((hb1.block _ (Array.getElem?_eq_some_iff.1 HX.out).1).trans HX.out))
    go_ret
    exact ⟨ret_bool HF.out.symm, hb0.trans (hb1.mono hb0.size)⟩
  · rw [g1] at HN
    have e2 := txt_f (l := [100, 101, 102, 105, 110, 101, 100]) g2
    clear g1 g2
    go_wp2_with (go_at_call 75; refine (HN.out _).mono ?_; rintro e w1 ⟨rfl, hb1⟩; have q0 : w1.cell? ⟨w.heap.size, 0, none⟩ = some _ := cell_of_row _ _ 0 _ _ _ ((hb1.block _ (Array.getElem?_eq_some_iff.1 HX.out).1).trans HX.out); have q2 : w1.cell? ⟨w.heap.size, 2, none⟩ = some _ := cell_of_row _ _ 2 _ _ _ ((hb1.block _ (Array.getElem?_eq_some_iff.1 HX.out).1).trans HX.out))
    go_ret
    exact ⟨ret_bool HF.out.symm, hb0.trans (hb1.mono hb0.size)⟩
  · rw [g1] at HN
    have e2 := txt_f (l := [100, 101, 102, 105, 110, 101, 100]) g2
    clear g1 g2
    go_wp2_with (go_at_call 75; refine (HN.out _).mono ?_; rintro e w1 ⟨rfl, hb1⟩; have q0 : w1.cell? ⟨w.heap.size, 0, none⟩ = some _ := cell_of_row _ _ 0 _ _ _ ((hb1.block _ (Array.getElem?_eq_some_iff.1 HX.out).1).trans HX.out); have q1 : w1.cell? ⟨w.heap.size, 1, none⟩ = some _ := cell_of_row _ _ 1 _ _ _ ((hb1.block _ (Array.getElem?_eq_some_iff.1 HX.out).1).trans HX.out); have q2 : w1.cell? ⟨w.heap.size, 2, none⟩ = some _ := cell_of_row _ _ 2 _ _ _ ((hb1.block _ (Array.getElem?_eq_some_iff.1 HX.out).1).trans HX.out))
    go_ret
    exact ⟨ret_bool HF.out.symm, hb0.trans (hb1.mono hb0.size)⟩
  · rw [g1] at HN
    have e2 := txt_f (l := [100, 101, 102, 105, 110, 101, 100]) g2
    have g6 : ¬ (0 : Int) < (m.params.length : Int) := by rcases g4 with h | h; rw [hf] at h; simp at h; omega
    have g7 : ¬ 0 < m.params.length := by omega
    clear g1 g2 g4
    go_wp2_with (go_at_call 75; refine (HN.out _).mono ?_; rintro e w1 ⟨rfl, hb1⟩; have q0 : w1.cell? ⟨w.heap.size, 0, none⟩ = some _ := cell_of_row _ _ 0 _ _ _ ((hb1.block _ (Array.getElem?_eq_some_iff.1 HX.out).1).trans HX.out); have q1 : w1.cell? ⟨w.heap.size, 1, none⟩ = some _ := cell_of_row _ _ 1 _ _ _ ((hb1.block _ (Array.getElem?_eq_some_iff.1 HX.out).1).trans HX.out); have q2 : w1.cell? ⟨w.heap.size, 2, none⟩ = some _ := cell_of_row _ _ 2 _ _ _ ((hb1.block _ (Array.getElem?_eq_some_iff.1 HX.out).1).trans HX.out); have q3 : w1.cell? ⟨w.heap.size, 3, none⟩ = some _ := cell_of_row _ _ 3 _ _ _ ((hb1.block _ (Array.getElem?_eq_some_iff.1 HX.out).1).trans HX.out))
    go_ret
    exact ⟨ret_bool HF.out.symm, hb0.trans (hb1.mono hb0.size)⟩
  · rw [g1] at HN
    have e2 := txt_f (l := [100, 101, 102, 105, 110, 101, 100]) g2
    have g6 : ¬ (0 : Int) < (m.params.length : Int) := by rcases g4 with h | h; rw [hf] at h; simp at h; omega
    have g7 : ¬ 0 < m.params.length := by omega
    clear g1 g2 g4
    go_wp2_with (go_at_call 75; refine (HN.out _).mono ?_; rintro e w1 ⟨rfl, hb1⟩; have q0 : w1.cell? ⟨w.heap.size, 0, none⟩ = some _ := cell_of_row _ _ 0 _ _ _ ((hb1.block _ (Array.getElem?_eq_some_iff.1 HX.out).1).trans HX.out); have q1 : w1.cell? ⟨w.heap.size, 1, none⟩ = some _ := cell_of_row _ _ 1 _ _ _ ((hb1.block _ (Array.getElem?_eq_some_iff.1 HX.out).1).trans HX.out); have q2 : w1.cell? ⟨w.heap.size, 2, none⟩ = some _ := cell_of_row _ _ 2 _ _ _ ((hb1.block _ (Array.getElem?_eq_some_iff.1 HX.out).1).trans HX.out); have q3 : w1.cell? ⟨w.heap.size, 3, none⟩ = some _ := cell_of_row _ _ 3 _ _ _ ((hb1.block _ (Array.getElem?_eq_some_iff.1 HX.out).1).trans HX.out))
    have hB1 := hb0.trans (hb1.mono hb0.size)
    have HX1 := Lib.hid ((hb1.block _ (Array.getElem?_eq_some_iff.1 HX.out).1).trans HX.out)
    have HM := Lib.hid (fun W (hb : Below w.heap.size w W) => sMacro.below (show sMacro.R w [.string m.name, .bool false, .slice a2 m.params.length cap2, .slice a3 m.body.length cap3] m (fp2 ++ fp3) from ⟨_, _, fp2, fp3, by rw [hf], k0, K2, K3, rfl⟩) hb)
    clear q0 q1 q2 q3 HN hb0 HX hb1 K3' K2 K3
    go_loopw [3] (fun i wr => ∃ k : Nat, k ≤ m.params.length ∧ i = .int .i64 k ∧ ParUpto m.params k ∧ Below w1.heap.size w1 wr) (fun i _ => m.params.length - (intOf i).toNat)
    case atStart => exact ⟨0, by omega, rfl, ParUpto.zero _, Below.refl _ _⟩
    case round =>
      obtain ⟨k, hk, rfl, hall, hb⟩ := hrel
      have HX2 := Lib.hid ((hb.block _ (Array.getElem?_eq_some_iff.1 HX1.out).1).trans HX1.out)
      have q2 : wr.cell? ⟨w.heap.size, 2, none⟩ = some _ := cell_of_row _ _ 2 _ _ _ HX2.out
      have q3 : wr.cell? ⟨w.heap.size, 3, none⟩ = some _ := cell_of_row _ _ 3 _ _ _ HX2.out
      have hbw := hB1.trans (hb.mono hB1.size)
      by_cases hlt : k < m.params.length
      · omega
      · have HP := Lib.hid (show ParUpto m.params m.params.length from fun j hj => hall j (by omega))
        have hz : decide (k < m.params.length) = false := decide_eq_false hlt
        clear hall hk
        go_wp2
        try rw [hz]
        clear q2 q3 HX2 hbw hlt hz
        go_loopw [6] (fun i wr => ∃ k : Nat, k ≤ m.body.length ∧ i = .int .i64 k ∧ BodUpto (bodOk m) k ∧ Below w1.heap.size w1 wr) (fun i _ => m.body.length - (intOf i).toNat)
        case atStart => exact ⟨0, by omega, rfl, BodUpto.zero _, hb⟩
        case round =>
          clear hb
          obtain ⟨k, hk, rfl, hall, hb⟩ := hrel
          have HX3 := Lib.hid ((hb.block _ (Array.getElem?_eq_some_iff.1 HX1.out).1).trans HX1.out)
          have q3 : wr.cell? ⟨w.heap.size, 3, none⟩ = some _ := cell_of_row _ _ 3 _ _ _ HX3.out
          have hbw := hB1.trans (hb.mono hB1.size)
          by_cases hlt : k < m.body.length
          · obtain ⟨b1, off1, fps1, rfl, hb1', -, he1⟩ := hrow3 (by omega)
            obtain ⟨es1, hE1, hR1⟩ := he1 k hlt
            have hR1' := hR1
            obtain ⟨hh, rfl, -, -, K1⟩ := hR1
            obtain ⟨ah, caph, rfl, -⟩ := open_rows K1
            replace hE1 := hE1.frame (hbw.block b1 hb1')
            have c10 : wr.cell? ⟨b1, off1 + k * 4, none⟩ = some _ := elem_cell0 hE1 (by decide) rfl
            have c11 : wr.cell? ⟨b1, off1 + k * 4 + 1, none⟩ = some _ := elem_cell (j := 1) hE1 (by decide) rfl
            have c12 : wr.cell? ⟨b1, off1 + k * 4 + 2, none⟩ = some _ := elem_cell (j := 2) hE1 (by decide) rfl
            have c13 : wr.cell? ⟨b1, off1 + k * 4 + 3, none⟩ = some _ := elem_cell (j := 3) hE1 (by decide) rfl
            have hbx : Below wr.heap.size wr (wr.alloc (.cells #[.int .i64 m.body[k].kind, .string m.body[k].text, .bool m.body[k].spaced, .slice ah m.body[k].hidden.length caph] 89)) := alloc_below' _ _
            have HT := Lib.hid (heap_alloc_new wr (.cells #[.int .i64 m.body[k].kind, .string m.body[k].text, .bool m.body[k].spaced, .slice ah m.body[k].hidden.length caph] 89))
            have HV := Lib.hid (fun W (hW : Below (wr.alloc (.cells #[.int .i64 m.body[k].kind, .string m.body[k].text, .bool m.body[k].spaced, .slice ah m.body[k].hidden.length caph] 89)).heap.size (wr.alloc (.cells #[.int .i64 m.body[k].kind, .string m.body[k].text, .bool m.body[k].spaced, .slice ah m.body[k].hidden.length caph] 89)) W) => spec_TokenValid _ _ _ W (sTok.below (sTok.below (sTok.below hR1' hbw) hbx) hW))
            clear K1 hR1' hE1
            go_wp2_with fail
            refine (HV.out _ (Below.refl _ _)).mono ?_
            rintro e w2 ⟨rfl, hb2⟩
            have HT2 := Lib.hid ((hb2.block _ (Array.getElem?_eq_some_iff.1 HT.out).1).trans HT.out)
            have hb02 := hbx.trans (hb2.mono hbx.size)
            have hbq := hb.trans (hb02.mono hb.size)
            have hbw2 := hB1.trans (hbq.mono hB1.size)
            have HX4 := Lib.hid ((hb02.block _ (Array.getElem?_eq_some_iff.1 HX3.out).1).trans HX3.out)
            have p1 : w2.cell? ⟨wr.heap.size, 1, none⟩ = some _ := cell_of_row _ _ 1 _ _ _ HT2.out
            have p2 : w2.cell? ⟨wr.heap.size, 2, none⟩ = some _ := cell_of_row _ _ 2 _ _ _ HT2.out
            have p3 : w2.cell? ⟨wr.heap.size, 3, none⟩ = some _ := cell_of_row _ _ 3 _ _ _ HT2.out
            clear q3 c10 c11 c12 c13 HV HT hb2 HX3 hbx hb02 hbw hb
            have q0 : w2.cell? ⟨w.heap.size, 0, none⟩ = some _ := cell_of_row _ _ 0 _ _ _ HX4.out
            have q1 : w2.cell? ⟨w.heap.size, 1, none⟩ = some _ := cell_of_row _ _ 1 _ _ _ HX4.out
            have q2 : w2.cell? ⟨w.heap.size, 2, none⟩ = some _ := cell_of_row _ _ 2 _ _ _ HX4.out
            have q3 : w2.cell? ⟨w.heap.size, 3, none⟩ = some _ := cell_of_row _ _ 3 _ _ _ HX4.out
            cases hv : tokOk m.body[k]
            · have HF := Lib.hid (macOk_bod hlt (by rw [bodOk_split _ _ hlt, hv]; rfl))
              clear hv hall
              go_wp2
              go_ret
              exact ⟨ret_bool HF.out.symm, hbw2⟩
            have HS := Lib.hid (bodOk_split m k hlt)
            rw [hv] at HS
            clear hv
            have g00 : ((k : Int) == 0) = decide (k = 0) := by rw [Bool.eq_iff_iff]; simp
            have g01 : ((k : Int) == (m.body.length : Int) - 1) = decide (k + 1 = m.body.length) := by rw [Bool.eq_iff_iff]; simp; omega
            rcases bodI_ways hlt with ⟨e1, HI⟩ | ⟨e1, e2, e3, HI⟩ | ⟨e1, e2, e3, e4, HI⟩ | ⟨e1, e2, e3, e4, HI⟩ | ⟨e1, e2, e4, e5, HI⟩ | ⟨e1, e2, e4, e5, e6, HI⟩ | ⟨e1, e2, e4, e5, e6, HI⟩ | ⟨e1, e2, e4, HI⟩
            · have HF := Lib.hid (macOk_bod hlt (by rw [HS.out, HI.out]; simp))
              have f0 : (0 : Int) < (m.body[k].hidden.length : Int) := by omega
              have f01 : 0 < m.body[k].hidden.length := by omega
              have f02 : decide ((0 : Int) < (m.body[k].hidden.length : Int)) = true := decide_eq_true f0
              clear e1 hall
              go_wp2
              go_ret
              exact ⟨ret_bool HF.out.symm, hbw2⟩
            · have HF := Lib.hid (macOk_bod hlt (by rw [HS.out, HI.out]; simp))
              have f0 : ¬ (0 : Int) < (m.body[k].hidden.length : Int) := by omega
              have f01 : ¬ 0 < m.body[k].hidden.length := by omega
              rw [decide_eq_true e2] at g00
              rw [e3] at p2
              clear e2 e3
              clear e1 hall
              go_wp2
              go_ret
              exact ⟨ret_bool HF.out.symm, hbw2⟩
            · have HF := Lib.hid (macOk_bod hlt (by rw [HS.out, HI.out]; simp))
              have f0 : ¬ (0 : Int) < (m.body[k].hidden.length : Int) := by omega
              have f01 : ¬ 0 < m.body[k].hidden.length := by omega
              rw [decide_eq_true e2] at g00
              rw [e3] at p2
              have f4 := txt_t (l := [35, 35]) e4
              have E4 := Lib.hid e4
              clear e4
              clear e2 e3
              clear e1 hall
              go_wp2
              go_ret
              exact ⟨ret_bool HF.out.symm, hbw2⟩
            · have f0 : ¬ (0 : Int) < (m.body[k].hidden.length : Int) := by omega
              have f01 : ¬ 0 < m.body[k].hidden.length := by omega
              rw [decide_eq_true e2] at g00
              rw [e3] at p2
              have f4 := txt_f (l := [35, 35]) e4
              have E4 := Lib.hid e4
              clear e4
              clear e1 e2 e3
              have HN := Lib.hid (hall.succ (by rw [HS.out, HI.out, hf]; rfl))
              clear hall
              go_wp2
              go_quiet (fail)
              go_wp2
              go_roundw
              case rel => first | exact ⟨k + 1, by omega, by go_num, HN.out, belowN hbq _⟩ | ((repeat apply Exists.intro); exact ⟨⟨k + 1, by omega, by go_num, HN.out, belowN hbq _⟩, rfl⟩)
              case measure => simp [intOf]; omega
            · have HF := Lib.hid (macOk_bod hlt (by rw [HS.out, HI.out]; simp))
              have f0 : ¬ (0 : Int) < (m.body[k].hidden.length : Int) := by omega
              have f01 : ¬ 0 < m.body[k].hidden.length := by omega
              rw [decide_eq_false e2] at g00
              have f4 := txt_t (l := [35, 35]) e4
              have E4 := Lib.hid e4
              clear e4
              rw [decide_eq_true e5] at g01
              clear e2 e5
              clear e1 hall
              go_wp2
              go_ret
              exact ⟨ret_bool HF.out.symm, hbw2⟩
            · have HF := Lib.hid (macOk_bod hlt (by rw [HS.out, HI.out]; simp))
              have f0 : ¬ (0 : Int) < (m.body[k].hidden.length : Int) := by omega
              have f01 : ¬ 0 < m.body[k].hidden.length := by omega
              rw [decide_eq_false e2] at g00
              have f4 := txt_t (l := [35, 35]) e4
              have E4 := Lib.hid e4
              clear e4
              rw [decide_eq_false e5] at g01
              obtain ⟨es2, hE2, hR2⟩ := he1 (k - 1) (by omega)
              obtain ⟨h9, rfl, -, -, -⟩ := hR2
              replace hE2 := hE2.frame (hbw2.block b1 hb1')
              have c21 : w2.cell? ⟨b1, off1 + (k - 1) * 4 + 1, none⟩ = some _ := elem_cell (j := 1) hE2 (by decide) rfl
              have h6 : ((k : Int) - 1).toNat = k - 1 := by omega
              have hwl : IntKind.i64.wrap ((k : Int) - 1) = (k : Int) - 1 := IntWalk.i64_in _ (by omega)
              have hi1 : (0 : Int) ≤ (k : Int) - 1 := by omega
              have hi2 : (k : Int) - 1 < (m.body.length : Int) := by omega
              clear hE2
              have f6 := txt_t (l := [35, 35]) e6
              clear e2 e5 e6
              clear e1 hall
              go_wp2
              go_ret
              exact ⟨ret_bool HF.out.symm, hbw2⟩
            · have f0 : ¬ (0 : Int) < (m.body[k].hidden.length : Int) := by omega
              have f01 : ¬ 0 < m.body[k].hidden.length := by omega
              rw [decide_eq_false e2] at g00
              have f4 := txt_t (l := [35, 35]) e4
              have E4 := Lib.hid e4
              clear e4
              rw [decide_eq_false e5] at g01
              obtain ⟨es2, hE2, hR2⟩ := he1 (k - 1) (by omega)
              obtain ⟨h9, rfl, -, -, -⟩ := hR2
              replace hE2 := hE2.frame (hbw2.block b1 hb1')
              have c21 : w2.cell? ⟨b1, off1 + (k - 1) * 4 + 1, none⟩ = some _ := elem_cell (j := 1) hE2 (by decide) rfl
              have h6 : ((k : Int) - 1).toNat = k - 1 := by omega
              have hwl : IntKind.i64.wrap ((k : Int) - 1) = (k : Int) - 1 := IntWalk.i64_in _ (by omega)
              have hi1 : (0 : Int) ≤ (k : Int) - 1 := by omega
              have hi2 : (k : Int) - 1 < (m.body.length : Int) := by omega
              clear hE2
              have f6 := txt_f (l := [35, 35]) e6
              clear e1 e2 e5 e6
              have HN := Lib.hid (hall.succ (by rw [HS.out, HI.out, hf]; rfl))
              clear hall
              go_wp2
              go_quiet (fail)
              go_wp2
              go_roundw
              case rel => first | exact ⟨k + 1, by omega, by go_num, HN.out, belowN hbq _⟩ | ((repeat apply Exists.intro); exact ⟨⟨k + 1, by omega, by go_num, HN.out, belowN hbq _⟩, rfl⟩)
              case measure => simp [intOf]; omega
            · have f0 : ¬ (0 : Int) < (m.body[k].hidden.length : Int) := by omega
              have f01 : ¬ 0 < m.body[k].hidden.length := by omega
              rw [decide_eq_false e2] at g00
              have f4 := txt_f (l := [35, 35]) e4
              have E4 := Lib.hid e4
              clear e4
              clear e1 e2
              have HN := Lib.hid (hall.succ (by rw [HS.out, HI.out, hf]; rfl))
              clear hall
              go_wp2
              go_quiet (fail)
              go_wp2
              go_roundw
              case rel => first | exact ⟨k + 1, by omega, by go_num, HN.out, belowN hbq _⟩ | ((repeat apply Exists.intro); exact ⟨⟨k + 1, by omega, by go_num, HN.out, belowN hbq _⟩, rfl⟩)
              case measure => simp [intOf]; omega
          · have HF := Lib.hid (macOk_yes HH.out HP.out (fun j hj => hall j (by omega)))
            clear hall
            go_wp2
            go_ret
            exact ⟨ret_bool HF.out.symm, hbw⟩

set_option maxHeartbeats 16000000 in
set_option maxRecDepth 100000 in
theorem spec_MacroValid_yes (m : DMacro) (h2 h3 : Value) (fp2 fp3 : List Nat) (w : World) (k0 : okStr m.name) (K2 : (sSlice sStr).R w [h2] m.params fp2) (K3 : (sSlice sTok).R w [h3] m.body fp3) (hf : m.function = true) :
    Calls Try.prog 42 #[.agg #[.string m.name, .bool m.function, h2, h3]] w (Says (macOk m) w) := by
  obtain ⟨a2, cap2, rfl, hc2, hm2, hcell2, hsz2⟩ := open_strs K2
  have K3' := K3
  obtain ⟨a3, cap3, rfl, hc3, hm3, hrow3⟩ := open_rows K3
  unfold maxLen at hm2 hm3
  rw [hf]
  have HN := Lib.hid (fun W => spec_l5Name m.name W k0)
  have hb0 := alloc_below' w (.cells #[.string m.name, .bool true, .slice a2 m.params.length cap2, .slice a3 m.body.length cap3] 35)
  have HX := Lib.hid (heap_alloc_new w (.cells #[.string m.name, .bool true, .slice a2 m.params.length cap2, .slice a3 m.body.length cap3] 35))
  go_enter Try.func42, Try.ntmps42
  rcases head_ways m with ⟨g1, HF⟩ | ⟨g1, g2, HF⟩ | ⟨g1, g2, g3, HF⟩ | ⟨g1, g2, g3, g4, g5, HF⟩ | ⟨g1, g2, g3, g4, g5, HF⟩ | ⟨g1, g2, g3, g4, g5, HH⟩
  · rw [g1] at HN
    clear g1
    go_wp2_with (go_at_call 75; refine (HN.out _).mono ?_; rintro e w1 ⟨rfl, hb1⟩)
    go_ret
    exact ⟨ret_bool HF.out.symm, hb0.trans (hb1.mono hb0.size)⟩
  · rw [g1] at HN
    have e2 := txt_t (l := [100, 101, 102, 105, 110, 101, 100]) g2
    clear g1 g2
    go_wp2_with (go_at_call 75; refine (HN.out _).mono ?_; rintro e w1 ⟨rfl, hb1⟩; have q0 : w1.cell? ⟨w.heap.size, 0, none⟩ = some _ := cell_of_row _ _ 0 _ _ _ ((hb1.block _ (Array.getElem?_eq_some_iff.1 HX.out).1).trans HX.out))
    go_ret
    exact ⟨ret_bool HF.out.symm, hb0.trans (hb1.mono hb0.size)⟩
  · rw [g1] at HN
    have e2 := txt_f (l := [100, 101, 102, 105, 110, 101, 100]) g2
    clear g1 g2
    go_wp2_with (go_at_call 75; refine (HN.out _).mono ?_; rintro e w1 ⟨rfl, hb1⟩; have q0 : w1.cell? ⟨w.heap.size, 0, none⟩ = some _ := cell_of_row _ _ 0 _ _ _ ((hb1.block _ (Array.getElem?_eq_some_iff.1 HX.out).1).trans HX.out); have q2 : w1.cell? ⟨w.heap.size, 2, none⟩ = some _ := cell_of_row _ _ 2 _ _ _ ((hb1.block _ (Array.getElem?_eq_some_iff.1 HX.out).1).trans HX.out))
    go_ret
    exact ⟨ret_bool HF.out.symm, hb0.trans (hb1.mono hb0.size)⟩
  · rw [hf] at g4; exact absurd g4 (by simp)
  · rw [g1] at HN
    have e2 := txt_f (l := [100, 101, 102, 105, 110, 101, 100]) g2
    clear g1 g2 g4
    go_wp2_with (go_at_call 75; refine (HN.out _).mono ?_; rintro e w1 ⟨rfl, hb1⟩; have q0 : w1.cell? ⟨w.heap.size, 0, none⟩ = some _ := cell_of_row _ _ 0 _ _ _ ((hb1.block _ (Array.getElem?_eq_some_iff.1 HX.out).1).trans HX.out); have q1 : w1.cell? ⟨w.heap.size, 1, none⟩ = some _ := cell_of_row _ _ 1 _ _ _ ((hb1.block _ (Array.getElem?_eq_some_iff.1 HX.out).1).trans HX.out); have q2 : w1.cell? ⟨w.heap.size, 2, none⟩ = some _ := cell_of_row _ _ 2 _ _ _ ((hb1.block _ (Array.getElem?_eq_some_iff.1 HX.out).1).trans HX.out); have q3 : w1.cell? ⟨w.heap.size, 3, none⟩ = some _ := cell_of_row _ _ 3 _ _ _ ((hb1.block _ (Array.getElem?_eq_some_iff.1 HX.out).1).trans HX.out))
    go_ret
    exact ⟨ret_bool HF.out.symm, hb0.trans (hb1.mono hb0.size)⟩
  · rw [g1] at HN
    have e2 := txt_f (l := [100, 101, 102, 105, 110, 101, 100]) g2
    clear g1 g2 g4
    go_wp2_with (go_at_call 75; refine (HN.out _).mono ?_; rintro e w1 ⟨rfl, hb1⟩; have q0 : w1.cell? ⟨w.heap.size, 0, none⟩ = some _ := cell_of_row _ _ 0 _ _ _ ((hb1.block _ (Array.getElem?_eq_some_iff.1 HX.out).1).trans HX.out); have q1 : w1.cell? ⟨w.heap.size, 1, none⟩ = some _ := cell_of_row _ _ 1 _ _ _ ((hb1.block _ (Array.getElem?_eq_some_iff.1 HX.out).1).trans HX.out); have q2 : w1.cell? ⟨w.heap.size, 2, none⟩ = some _ := cell_of_row _ _ 2 _ _ _ ((hb1.block _ (Array.getElem?_eq_some_iff.1 HX.out).1).trans HX.out); have q3 : w1.cell? ⟨w.heap.size, 3, none⟩ = some _ := cell_of_row _ _ 3 _ _ _ ((hb1.block _ (Array.getElem?_eq_some_iff.1 HX.out).1).trans HX.out))
    have hB1 := hb0.trans (hb1.mono hb0.size)
    have HX1 := Lib.hid ((hb1.block _ (Array.getElem?_eq_some_iff.1 HX.out).1).trans HX.out)
    have HM := Lib.hid (fun W (hb : Below w.heap.size w W) => sMacro.below (show sMacro.R w [.string m.name, .bool true, .slice a2 m.params.length cap2, .slice a3 m.body.length cap3] m (fp2 ++ fp3) from ⟨_, _, fp2, fp3, by rw [hf], k0, K2, K3, rfl⟩) hb)
    clear q0 q1 q2 q3 HN hb0 HX hb1 K3' K2 K3
    go_loopw [3] (fun i wr => ∃ k : Nat, k ≤ m.params.length ∧ i = .int .i64 k ∧ ParUpto m.params k ∧ Below w1.heap.size w1 wr) (fun i _ => m.params.length - (intOf i).toNat)
    case atStart => exact ⟨0, by omega, rfl, ParUpto.zero _, Below.refl _ _⟩
    case round =>
      obtain ⟨k, hk, rfl, hall, hb⟩ := hrel
      have HX2 := Lib.hid ((hb.block _ (Array.getElem?_eq_some_iff.1 HX1.out).1).trans HX1.out)
      have q2 : wr.cell? ⟨w.heap.size, 2, none⟩ = some _ := cell_of_row _ _ 2 _ _ _ HX2.out
      have q3 : wr.cell? ⟨w.heap.size, 3, none⟩ = some _ := cell_of_row _ _ 3 _ _ _ HX2.out
      have hbw := hB1.trans (hb.mono hB1.size)
      by_cases hlt : k < m.params.length
      · obtain ⟨b, off, rfl, hbl, _, hce⟩ := hcell2 (by omega)
        have hck := (hbw.cell (p := ⟨b, off + k, none⟩) hbl).trans (hce k hlt)
        have HN := Lib.hid (fun W => spec_l5Name m.params[k] W (hsz2 k hlt))
        cases h1 : oneTok m.params[k] 1
        · rw [h1] at HN
          have HF := Lib.hid (macOk_par hlt (par_name hlt h1))
          clear h1 hce hall
          go_wp2_with (go_at_call 75; refine (HN.out _).mono ?_; rintro e w2 ⟨rfl, hb2⟩)
          go_ret
          exact ⟨ret_bool HF.out.symm, hbw.trans (hb2.mono hbw.size)⟩
        · rw [h1] at HN
          have H1 := Lib.hid h1
          clear h1
          go_wp2_with (go_at_call 75; refine (HN.out _).mono ?_; rintro e w2 ⟨rfl, hb2⟩)
          have HX3 := Lib.hid ((hb2.block _ (Array.getElem?_eq_some_iff.1 HX2.out).1).trans HX2.out)
          have hb12 := hb.trans (hb2.mono hb.size)
          clear q2 q3 hck HX2
          go_loopw [4] (fun i wr => ∃ j : Nat, j ≤ k ∧ i = .int .i64 j ∧ NotUpto m.params m.params[k] j ∧ Below w2.heap.size w2 wr) (fun i _ => k - (intOf i).toNat)
          case atStart => exact ⟨0, by omega, rfl, NotUpto.zero _ _, Below.refl _ _⟩
          case round =>
            obtain ⟨j, hj, rfl, hnot, hb3⟩ := hrel
            have HX4 := Lib.hid ((hb3.block _ (Array.getElem?_eq_some_iff.1 HX3.out).1).trans HX3.out)
            have hb13 := hb12.trans (hb3.mono hb12.size)
            have hbw3 := hB1.trans (hb13.mono hB1.size)
            have q2 : wr.cell? ⟨w.heap.size, 2, none⟩ = some _ := cell_of_row _ _ 2 _ _ _ HX4.out
            by_cases hjk : j < k
            · have hcj := (hbw3.cell (p := ⟨b, off + j, none⟩) hbl).trans (hce j (by omega))
              have hck := (hbw3.cell (p := ⟨b, off + k, none⟩) hbl).trans (hce k hlt)
              by_cases e : m.params[j] = m.params[k]
              · have e' := bytes_beq e
                have HF := Lib.hid (macOk_par hlt (par_twice hlt hjk e))
                clear e hce hall hnot
                go_wp2
                go_quiet (fail)
                go_wp2
                go_ret
                exact ⟨ret_bool HF.out.symm, belowN hbw3 _⟩
              · have e' : (m.params[j].toList == m.params[k].toList) = false := bytes_bne e
                have HG := Lib.hid (hnot.succ (by omega) e)
                clear e hce hall hnot
                go_wp2
                go_quiet (fail)
                go_wp2
                go_roundw
                case rel => exact ⟨j + 1, by omega, by go_num, HG.out, belowN hb3 _⟩
                case measure => simp [intOf]; omega
            · have hjk' : j = k := by omega
              subst hjk'
              have HG := Lib.hid (hall.succ (par_yes hlt H1.out hnot))
              clear hce hall hnot
              go_wp2
              go_roundw
              case rel => exact ⟨j + 1, by omega, by go_num, HG.out, hb13⟩
              case measure => simp [intOf]; omega
      · have HP := Lib.hid (show ParUpto m.params m.params.length from fun j hj => hall j (by omega))
        have hz : decide (k < m.params.length) = false := decide_eq_false hlt
        clear hall hk
        go_wp2
        try rw [hz]
        clear q2 q3 HX2 hbw hlt hz
        go_loopw [6] (fun i wr => ∃ k : Nat, k ≤ m.body.length ∧ i = .int .i64 k ∧ BodUpto (bodOk m) k ∧ Below w1.heap.size w1 wr) (fun i _ => m.body.length - (intOf i).toNat)
        case atStart => exact ⟨0, by omega, rfl, BodUpto.zero _, hb⟩
        case round =>
          clear hb
          obtain ⟨k, hk, rfl, hall, hb⟩ := hrel
          have HX3 := Lib.hid ((hb.block _ (Array.getElem?_eq_some_iff.1 HX1.out).1).trans HX1.out)
          have q3 : wr.cell? ⟨w.heap.size, 3, none⟩ = some _ := cell_of_row _ _ 3 _ _ _ HX3.out
          have hbw := hB1.trans (hb.mono hB1.size)
          by_cases hlt : k < m.body.length
          · obtain ⟨b1, off1, fps1, rfl, hb1', -, he1⟩ := hrow3 (by omega)
            obtain ⟨es1, hE1, hR1⟩ := he1 k hlt
            have hR1' := hR1
            obtain ⟨hh, rfl, -, -, K1⟩ := hR1
            obtain ⟨ah, caph, rfl, -⟩ := open_rows K1
            replace hE1 := hE1.frame (hbw.block b1 hb1')
            have c10 : wr.cell? ⟨b1, off1 + k * 4, none⟩ = some _ := elem_cell0 hE1 (by decide) rfl
            have c11 : wr.cell? ⟨b1, off1 + k * 4 + 1, none⟩ = some _ := elem_cell (j := 1) hE1 (by decide) rfl
            have c12 : wr.cell? ⟨b1, off1 + k * 4 + 2, none⟩ = some _ := elem_cell (j := 2) hE1 (by decide) rfl
            have c13 : wr.cell? ⟨b1, off1 + k * 4 + 3, none⟩ = some _ := elem_cell (j := 3) hE1 (by decide) rfl
            have hbx : Below wr.heap.size wr (wr.alloc (.cells #[.int .i64 m.body[k].kind, .string m.body[k].text, .bool m.body[k].spaced, .slice ah m.body[k].hidden.length caph] 89)) := alloc_below' _ _
            have HT := Lib.hid (heap_alloc_new wr (.cells #[.int .i64 m.body[k].kind, .string m.body[k].text, .bool m.body[k].spaced, .slice ah m.body[k].hidden.length caph] 89))
            have HV := Lib.hid (fun W (hW : Below (wr.alloc (.cells #[.int .i64 m.body[k].kind, .string m.body[k].text, .bool m.body[k].spaced, .slice ah m.body[k].hidden.length caph] 89)).heap.size (wr.alloc (.cells #[.int .i64 m.body[k].kind, .string m.body[k].text, .bool m.body[k].spaced, .slice ah m.body[k].hidden.length caph] 89)) W) => spec_TokenValid _ _ _ W (sTok.below (sTok.below (sTok.below hR1' hbw) hbx) hW))
            clear K1 hR1' hE1
            go_wp2_with fail
            refine (HV.out _ (Below.refl _ _)).mono ?_
            rintro e w2 ⟨rfl, hb2⟩
            have HT2 := Lib.hid ((hb2.block _ (Array.getElem?_eq_some_iff.1 HT.out).1).trans HT.out)
            have hb02 := hbx.trans (hb2.mono hbx.size)
            have hbq := hb.trans (hb02.mono hb.size)
            have hbw2 := hB1.trans (hbq.mono hB1.size)
            have HX4 := Lib.hid ((hb02.block _ (Array.getElem?_eq_some_iff.1 HX3.out).1).trans HX3.out)
            have p1 : w2.cell? ⟨wr.heap.size, 1, none⟩ = some _ := cell_of_row _ _ 1 _ _ _ HT2.out
            have p2 : w2.cell? ⟨wr.heap.size, 2, none⟩ = some _ := cell_of_row _ _ 2 _ _ _ HT2.out
            have p3 : w2.cell? ⟨wr.heap.size, 3, none⟩ = some _ := cell_of_row _ _ 3 _ _ _ HT2.out
            clear q3 c10 c11 c12 c13 HV HT hb2 HX3 hbx hb02 hbw hb
            have q0 : w2.cell? ⟨w.heap.size, 0, none⟩ = some _ := cell_of_row _ _ 0 _ _ _ HX4.out
            have q1 : w2.cell? ⟨w.heap.size, 1, none⟩ = some _ := cell_of_row _ _ 1 _ _ _ HX4.out
            have q2 : w2.cell? ⟨w.heap.size, 2, none⟩ = some _ := cell_of_row _ _ 2 _ _ _ HX4.out
            have q3 : w2.cell? ⟨w.heap.size, 3, none⟩ = some _ := cell_of_row _ _ 3 _ _ _ HX4.out
            cases hv : tokOk m.body[k]
            · have HF := Lib.hid (macOk_bod hlt (by rw [bodOk_split _ _ hlt, hv]; rfl))
              clear hv hall
              go_wp2
              go_ret
              exact ⟨ret_bool HF.out.symm, hbw2⟩
            have HS := Lib.hid (bodOk_split m k hlt)
            rw [hv] at HS
            clear hv
            have g00 : ((k : Int) == 0) = decide (k = 0) := by rw [Bool.eq_iff_iff]; simp
            have g01 : ((k : Int) == (m.body.length : Int) - 1) = decide (k + 1 = m.body.length) := by rw [Bool.eq_iff_iff]; simp; omega
            rcases bodI_ways hlt with ⟨e1, HI⟩ | ⟨e1, e2, e3, HI⟩ | ⟨e1, e2, e3, e4, HI⟩ | ⟨e1, e2, e3, e4, HI⟩ | ⟨e1, e2, e4, e5, HI⟩ | ⟨e1, e2, e4, e5, e6, HI⟩ | ⟨e1, e2, e4, e5, e6, HI⟩ | ⟨e1, e2, e4, HI⟩
            · have HF := Lib.hid (macOk_bod hlt (by rw [HS.out, HI.out]; simp))
              have f0 : (0 : Int) < (m.body[k].hidden.length : Int) := by omega
              have f01 : 0 < m.body[k].hidden.length := by omega
              have f02 : decide ((0 : Int) < (m.body[k].hidden.length : Int)) = true := decide_eq_true f0
              clear e1 hall
              go_wp2
              go_ret
              exact ⟨ret_bool HF.out.symm, hbw2⟩
            · have HF := Lib.hid (macOk_bod hlt (by rw [HS.out, HI.out]; simp))
              have f0 : ¬ (0 : Int) < (m.body[k].hidden.length : Int) := by omega
              have f01 : ¬ 0 < m.body[k].hidden.length := by omega
              rw [decide_eq_true e2] at g00
              rw [e3] at p2
              clear e2 e3
              clear e1 hall
              go_wp2
              go_ret
              exact ⟨ret_bool HF.out.symm, hbw2⟩
            · have HF := Lib.hid (macOk_bod hlt (by rw [HS.out, HI.out]; simp))
              have f0 : ¬ (0 : Int) < (m.body[k].hidden.length : Int) := by omega
              have f01 : ¬ 0 < m.body[k].hidden.length := by omega
              rw [decide_eq_true e2] at g00
              rw [e3] at p2
              have f4 := txt_t (l := [35, 35]) e4
              have E4 := Lib.hid e4
              clear e4
              clear e2 e3
              clear e1 hall
              go_wp2
              go_ret
              exact ⟨ret_bool HF.out.symm, hbw2⟩
            · have f0 : ¬ (0 : Int) < (m.body[k].hidden.length : Int) := by omega
              have f01 : ¬ 0 < m.body[k].hidden.length := by omega
              rw [decide_eq_true e2] at g00
              rw [e3] at p2
              have f4 := txt_f (l := [35, 35]) e4
              have E4 := Lib.hid e4
              clear e4
              clear e1 e2 e3
              by_cases e7 : m.body[k].text = hash1
              · have f7 := txt_t (l := [35]) e7
                have E7 := Lib.hid e7
                clear e7
                by_cases e8 : k + 1 = m.body.length
                · have HF := Lib.hid (macOk_bod hlt (by rw [HS.out, HI.out, hf, signS_last hlt E7.out e8]; rfl))
                  rw [decide_eq_true e8] at g01
                  clear e8 hall
                  go_wp2
                  go_quiet (fail)
                  go_wp2
                  go_ret
                  exact ⟨ret_bool HF.out.symm, belowN hbw2 _⟩
                · have hk1 : k + 1 < m.body.length := by omega
                  obtain ⟨es3, hE3, hR3⟩ := he1 (k + 1) hk1
                  have hR3' := hR3
                  obtain ⟨h9, rfl, -, -, -⟩ := hR3
                  replace hE3 := hE3.frame (hbw2.block b1 hb1')
                  have c30 : w2.cell? ⟨b1, off1 + (k + 1) * 4, none⟩ = some _ := elem_cell0 hE3 (by decide) rfl
                  have c31 : w2.cell? ⟨b1, off1 + (k + 1) * 4 + 1, none⟩ = some _ := elem_cell (j := 1) hE3 (by decide) rfl
                  have c32 : w2.cell? ⟨b1, off1 + (k + 1) * 4 + 2, none⟩ = some _ := elem_cell (j := 2) hE3 (by decide) rfl
                  have c33 : w2.cell? ⟨b1, off1 + (k + 1) * 4 + 3, none⟩ = some _ := elem_cell (j := 3) hE3 (by decide) rfl
                  have HC := Lib.hid (fun W (hW : Below w2.heap.size w2 W) => spec_l5Param _ _ m m.body[k + 1] _ _ W (HM.out W (hbw2.trans (hW.mono hbw2.size))) (sTok.below (sTok.below hR3' hbw2) hW))
                  have h6 : ((k : Int) + 1).toNat = k + 1 := by omega
                  have hwl : IntKind.i64.wrap ((k : Int) + 1) = (k : Int) + 1 := IntWalk.i64_in _ (by omega)
                  have hi1 : (0 : Int) ≤ (k : Int) + 1 := by omega
                  have hi2 : (k : Int) + 1 < (m.body.length : Int) := by omega
                  rw [decide_eq_false e8] at g01
                  clear hE3 hR3' e8 he1 hrow3
                  go_wp2
                  go_still_tail 19, (by kernel_rfl)
                  change wpList _ _ _ _ _ w2.drew
                  have hd : Below w2.heap.size w2 w2.drew := belowN (Below.refl _ _) 1
                  generalize w2.drew = w3 at *
                  by_cases e9 : parOf m.params m.body[k + 1] < 0
                  · have HF := Lib.hid (macOk_bod hlt (by rw [HS.out, HI.out, hf, signS_no hk1 E7.out e9]; rfl))
                    clear hall
                    go_wp2_with (go_at_call 77; refine (HC.out _ hd).mono ?_; rintro e w4 ⟨rfl, hb4⟩)
                    go_ret
                    exact ⟨ret_bool HF.out.symm, (hbw2.trans (hd.mono hbw2.size)).trans (hb4.mono (Nat.le_trans hbw2.size hd.size))⟩
                  · have HN := Lib.hid (hall.succ (by rw [HS.out, HI.out, hf, signS_yes hk1 E7.out e9]; rfl))
                    clear hall
                    go_wp2_with (go_at_call 77; refine (HC.out _ hd).mono ?_; rintro e w4 ⟨rfl, hb4⟩)
                    go_roundw
                    case rel => first | exact ⟨k + 1, by omega, by go_num, HN.out, (hbq.trans (hd.mono hbq.size)).trans (hb4.mono (Nat.le_trans hbq.size hd.size))⟩ | ((repeat apply Exists.intro); exact ⟨⟨k + 1, by omega, by go_num, HN.out, (hbq.trans (hd.mono hbq.size)).trans (hb4.mono (Nat.le_trans hbq.size hd.size))⟩, rfl⟩)
                    case measure => simp [intOf]; omega
              · have f7 := txt_f (l := [35]) e7
                have HN := Lib.hid (hall.succ (by rw [HS.out, HI.out, hf, signS_other hlt e7]; rfl))
                clear e7 hall
                go_wp2
                go_quiet (fail)
                go_wp2
                go_roundw
                case rel => first | exact ⟨k + 1, by omega, by go_num, HN.out, belowN hbq _⟩ | ((repeat apply Exists.intro); exact ⟨⟨k + 1, by omega, by go_num, HN.out, belowN hbq _⟩, rfl⟩)
                case measure => simp [intOf]; omega
            · have HF := Lib.hid (macOk_bod hlt (by rw [HS.out, HI.out]; simp))
              have f0 : ¬ (0 : Int) < (m.body[k].hidden.length : Int) := by omega
              have f01 : ¬ 0 < m.body[k].hidden.length := by omega
              rw [decide_eq_false e2] at g00
              have f4 := txt_t (l := [35, 35]) e4
              have E4 := Lib.hid e4
              clear e4
              rw [decide_eq_true e5] at g01
              clear e2 e5
              clear e1 hall
              go_wp2
              go_ret
              exact ⟨ret_bool HF.out.symm, hbw2⟩
            · have HF := Lib.hid (macOk_bod hlt (by rw [HS.out, HI.out]; simp))
              have f0 : ¬ (0 : Int) < (m.body[k].hidden.length : Int) := by omega
              have f01 : ¬ 0 < m.body[k].hidden.length := by omega
              rw [decide_eq_false e2] at g00
              have f4 := txt_t (l := [35, 35]) e4
              have E4 := Lib.hid e4
              clear e4
              rw [decide_eq_false e5] at g01
              obtain ⟨es2, hE2, hR2⟩ := he1 (k - 1) (by omega)
              obtain ⟨h9, rfl, -, -, -⟩ := hR2
              replace hE2 := hE2.frame (hbw2.block b1 hb1')
              have c21 : w2.cell? ⟨b1, off1 + (k - 1) * 4 + 1, none⟩ = some _ := elem_cell (j := 1) hE2 (by decide) rfl
              have h6 : ((k : Int) - 1).toNat = k - 1 := by omega
              have hwl : IntKind.i64.wrap ((k : Int) - 1) = (k : Int) - 1 := IntWalk.i64_in _ (by omega)
              have hi1 : (0 : Int) ≤ (k : Int) - 1 := by omega
              have hi2 : (k : Int) - 1 < (m.body.length : Int) := by omega
              clear hE2
              have f6 := txt_t (l := [35, 35]) e6
              clear e2 e5 e6
              clear e1 hall
              go_wp2
              go_ret
              exact ⟨ret_bool HF.out.symm, hbw2⟩
            · have f0 : ¬ (0 : Int) < (m.body[k].hidden.length : Int) := by omega
              have f01 : ¬ 0 < m.body[k].hidden.length := by omega
              rw [decide_eq_false e2] at g00
              have f4 := txt_t (l := [35, 35]) e4
              have E4 := Lib.hid e4
              clear e4
              rw [decide_eq_false e5] at g01
              obtain ⟨es2, hE2, hR2⟩ := he1 (k - 1) (by omega)
              obtain ⟨h9, rfl, -, -, -⟩ := hR2
              replace hE2 := hE2.frame (hbw2.block b1 hb1')
              have c21 : w2.cell? ⟨b1, off1 + (k - 1) * 4 + 1, none⟩ = some _ := elem_cell (j := 1) hE2 (by decide) rfl
              have h6 : ((k : Int) - 1).toNat = k - 1 := by omega
              have hwl : IntKind.i64.wrap ((k : Int) - 1) = (k : Int) - 1 := IntWalk.i64_in _ (by omega)
              have hi1 : (0 : Int) ≤ (k : Int) - 1 := by omega
              have hi2 : (k : Int) - 1 < (m.body.length : Int) := by omega
              clear hE2
              have f6 := txt_f (l := [35, 35]) e6
              clear e1 e2 e5 e6
              by_cases e7 : m.body[k].text = hash1
              · exact absurd (e7.symm.trans E4.out) (by decide)
              · have f7 := txt_f (l := [35]) e7
                have HN := Lib.hid (hall.succ (by rw [HS.out, HI.out, hf, signS_other hlt e7]; rfl))
                clear e7 hall
                go_wp2
                go_quiet (fail)
                go_wp2
                go_roundw
                case rel => first | exact ⟨k + 1, by omega, by go_num, HN.out, belowN hbq _⟩ | ((repeat apply Exists.intro); exact ⟨⟨k + 1, by omega, by go_num, HN.out, belowN hbq _⟩, rfl⟩)
                case measure => simp [intOf]; omega
            · have f0 : ¬ (0 : Int) < (m.body[k].hidden.length : Int) := by omega
              have f01 : ¬ 0 < m.body[k].hidden.length := by omega
              rw [decide_eq_false e2] at g00
              have f4 := txt_f (l := [35, 35]) e4
              have E4 := Lib.hid e4
              clear e4
              clear e1 e2
              by_cases e7 : m.body[k].text = hash1
              · have f7 := txt_t (l := [35]) e7
                have E7 := Lib.hid e7
                clear e7
                by_cases e8 : k + 1 = m.body.length
                · have HF := Lib.hid (macOk_bod hlt (by rw [HS.out, HI.out, hf, signS_last hlt E7.out e8]; rfl))
                  rw [decide_eq_true e8] at g01
                  clear e8 hall
                  go_wp2
                  go_quiet (fail)
                  go_wp2
                  go_ret
                  exact ⟨ret_bool HF.out.symm, belowN hbw2 _⟩
                · have hk1 : k + 1 < m.body.length := by omega
                  obtain ⟨es3, hE3, hR3⟩ := he1 (k + 1) hk1
                  have hR3' := hR3
                  obtain ⟨h9, rfl, -, -, -⟩ := hR3
                  replace hE3 := hE3.frame (hbw2.block b1 hb1')
                  have c30 : w2.cell? ⟨b1, off1 + (k + 1) * 4, none⟩ = some _ := elem_cell0 hE3 (by decide) rfl
                  have c31 : w2.cell? ⟨b1, off1 + (k + 1) * 4 + 1, none⟩ = some _ := elem_cell (j := 1) hE3 (by decide) rfl
                  have c32 : w2.cell? ⟨b1, off1 + (k + 1) * 4 + 2, none⟩ = some _ := elem_cell (j := 2) hE3 (by decide) rfl
                  have c33 : w2.cell? ⟨b1, off1 + (k + 1) * 4 + 3, none⟩ = some _ := elem_cell (j := 3) hE3 (by decide) rfl
                  have HC := Lib.hid (fun W (hW : Below w2.heap.size w2 W) => spec_l5Param _ _ m m.body[k + 1] _ _ W (HM.out W (hbw2.trans (hW.mono hbw2.size))) (sTok.below (sTok.below hR3' hbw2) hW))
                  have h6 : ((k : Int) + 1).toNat = k + 1 := by omega
                  have hwl : IntKind.i64.wrap ((k : Int) + 1) = (k : Int) + 1 := IntWalk.i64_in _ (by omega)
                  have hi1 : (0 : Int) ≤ (k : Int) + 1 := by omega
                  have hi2 : (k : Int) + 1 < (m.body.length : Int) := by omega
                  rw [decide_eq_false e8] at g01
                  clear hE3 hR3' e8 he1 hrow3
                  go_wp2
                  go_still_tail 19, (by kernel_rfl)
                  change wpList _ _ _ _ _ w2.drew
                  have hd : Below w2.heap.size w2 w2.drew := belowN (Below.refl _ _) 1
                  generalize w2.drew = w3 at *
                  by_cases e9 : parOf m.params m.body[k + 1] < 0
                  · have HF := Lib.hid (macOk_bod hlt (by rw [HS.out, HI.out, hf, signS_no hk1 E7.out e9]; rfl))
                    clear hall
                    go_wp2_with (go_at_call 77; refine (HC.out _ hd).mono ?_; rintro e w4 ⟨rfl, hb4⟩)
                    go_ret
                    exact ⟨ret_bool HF.out.symm, (hbw2.trans (hd.mono hbw2.size)).trans (hb4.mono (Nat.le_trans hbw2.size hd.size))⟩
                  · have HN := Lib.hid (hall.succ (by rw [HS.out, HI.out, hf, signS_yes hk1 E7.out e9]; rfl))
                    clear hall
                    go_wp2_with (go_at_call 77; refine (HC.out _ hd).mono ?_; rintro e w4 ⟨rfl, hb4⟩)
                    go_roundw
                    case rel => first | exact ⟨k + 1, by omega, by go_num, HN.out, (hbq.trans (hd.mono hbq.size)).trans (hb4.mono (Nat.le_trans hbq.size hd.size))⟩ | ((repeat apply Exists.intro); exact ⟨⟨k + 1, by omega, by go_num, HN.out, (hbq.trans (hd.mono hbq.size)).trans (hb4.mono (Nat.le_trans hbq.size hd.size))⟩, rfl⟩)
                    case measure => simp [intOf]; omega
              · have f7 := txt_f (l := [35]) e7
                have HN := Lib.hid (hall.succ (by rw [HS.out, HI.out, hf, signS_other hlt e7]; rfl))
                clear e7 hall
                go_wp2
                go_quiet (fail)
                go_wp2
                go_roundw
                case rel => first | exact ⟨k + 1, by omega, by go_num, HN.out, belowN hbq _⟩ | ((repeat apply Exists.intro); exact ⟨⟨k + 1, by omega, by go_num, HN.out, belowN hbq _⟩, rfl⟩)
                case measure => simp [intOf]; omega
          · have HF := Lib.hid (macOk_yes HH.out HP.out (fun j hj => hall j (by omega)))
            clear hall
            go_wp2
            go_ret
            exact ⟨ret_bool HF.out.symm, hbw⟩


end Go.Proofs.Ythbojipdhgidlab
