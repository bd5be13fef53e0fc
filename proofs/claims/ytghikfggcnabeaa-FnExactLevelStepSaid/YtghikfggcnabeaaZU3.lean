/- Texts that the proof of U stands on, in one file. -/
import Derived.Test.YtghikfggcnabeaaZU2
import Derived.Test.YtghikfggcnabeaaZU1
import Derived.Deep.RegionHeld3
import Derived.Deep.QuietTactic
import Derived.BigQuiet
import Derived.Outline
import Derived.StillTailTactics
import Derived.Deep.Fields
import Derived.ChangeSame
import Derived.Laws.AppendOwnNone
set_option linter.unusedVariables false
set_option linter.unusedSimpArgs false
/- Level: its shape, and the law's own helpers. (Made by rec.py.) -/
namespace Go.Proofs.Ytghikfggcnabeaa
open Go.RowKit Go.ChangeShapes Go.WideShapes Go.Deep

structure DLevel where
 taken : Bool
 done_ : Bool
 other : Bool
def sLevel : Shape DLevel where
 m := 3
 R w cs d fp := cs = [.bool d.taken, .bool d.done_, .bool d.other] ∧ fp = []
 frame _ h := h
 lt h := by obtain ⟨_, rfl⟩ := h; simp
theorem ti_Level : TI Try.prog 23 27 (.agg #[.bool false, .bool false, .bool false]) 3 3 := ⟨by kernel_rfl, by kernel_rfl⟩
def mkLevel (k : Int) (x : DLevel) : DLevel := ⟨(k) % 3 == 0, (k + 1) % 3 == 0, (k + 1 + 1) % 3 == 0⟩
def cntLevel (x : DLevel) : Nat := 3
def mkLevelS (k : Int) (l : List DLevel) : List DLevel := mkAll mkLevel cntLevel k l
def cntLevelS (l : List DLevel) : Nat := cntAll cntLevel l
def wtLevel (_ : DLevel) : Nat := 0
def wtLevelS (l : List DLevel) : Nat := l.length + (l.map wtLevel).sum

section
variable {H : Type} {enc : TypeId × Value → H} {P : Program} {w : World} {base : Nat} {spare : Nat → Bool} {held : Bool}
theorem opensP_Level {t : TypeId} {f0 f1 f2 : Field} (hs : P.underlying t = some (.struct #[f0, f1, f2])) (hone : oneCellFields P #[f0, f1, f2] = true) (hC : P.cellsOf t = 3) (h0 : Opens enc P w base spare held f0.type sBool) (h1 : Opens enc P w base spare held f1.type sBool) (h2 : Opens enc P w base spare held f2.type sBool) : Opens enc P w base spare held t sLevel := by
 intro fuel cs x h
 obtain ⟨xs, n, _, hx, hcl, hlen, hg⟩ := DataW.trod_struct hs h
 rw [hC] at hcl
 match cs, hcl with
 |
  [c0, c1, c2], _ =>
  obtain ⟨o0, k0⟩ := hone_of hone 0 f0 rfl
  have g0 := hg 0 f0 rfl
  rw [o0, k0] at g0
  obtain ⟨o1, k1⟩ := hone_of hone 1 f1 rfl
  have g1 := hg 1 f1 rfl
  rw [o1, k1] at g1
  obtain ⟨o2, k2⟩ := hone_of hone 2 f2 rfl
  have g2 := hg 2 f2 rfl
  rw [o2, k2] at g2
  match xs, hlen with
  |
   [y0, y1, y2], _ =>
   obtain ⟨d0, p0, hc0, hok0, rfl⟩ := h0 n _ _ g0
   obtain ⟨d1, p1, hc1, hok1, rfl⟩ := h1 n _ _ g1
   obtain ⟨d2, p2, hc2, hok2, rfl⟩ := h2 n _ _ g2
   simp at hc0 hc1 hc2
   subst hc0
   subst hc1
   subst hc2
   exact ⟨⟨d0, d1, d2⟩, [], rfl, rfl⟩
end
section
variable {H : Type} {enc : TypeId × Value → H} {w : World} {base : Nat} {spare : Nat → Bool} {held : Bool}
theorem opens_Level : Opens enc Try.prog w base spare held 50 sLevel :=
 opensP_Level Try.underlying50 (by kernel_rfl) (by kernel_rfl) (opens_bool Try.underlying4) (opens_bool Try.underlying4) (opens_bool Try.underlying4)
end
set_option maxHeartbeats 8000000 in
set_option maxRecDepth 100000 in
theorem eqLevel_same (cs1 cs2 : List Value) (x : DLevel) (fp1 fp2 : List Nat) (w : World) (H1 : sLevel.R w cs1 x fp1) (H2 : sLevel.R w cs2 x fp2) :
  Calls Try.prog 29 #[.agg cs1.toArray, .agg cs2.toArray] w fun e w' => e = .returned (.bool true) ∧ Below w.heap.size w w' := by
 obtain ⟨rfl, rfl⟩ := H1
 obtain ⟨rfl, rfl⟩ := H2
 have b0 := alloc_below' w (.cells #[.bool x.taken, .bool x.done_, .bool x.other] 27)
 have b1 := b0.trans ((alloc_below' (w.alloc (.cells #[.bool x.taken, .bool x.done_, .bool x.other] 27)) (.cells #[.bool x.taken, .bool x.done_, .bool x.other] 27)).mono b0.size)
 have e0 : (x.taken != x.taken) = false := by simp
 have e1 : (x.done_ != x.done_) = false := by simp
 have e2 : (x.other != x.other) = false := by simp
 go_enter Try.func29, Try.ntmps29
 go_wp2
 go_ret
 exact ⟨rfl, b1⟩

set_option maxHeartbeats 8000000 in
set_option maxRecDepth 100000 in
theorem eqLevelS_same (v1 v2 : Value) (l : List DLevel) (fp1 fp2 : List Nat) (w : World) (H1 : (sSlice sLevel).R w [v1] l fp1) (H2 : (sSlice sLevel).R w [v2] l fp2) :
  Calls Try.prog 17 #[v1, v2] w fun e w' => e = .returned (.bool true) ∧ Below w.heap.size w w' := by
 obtain ⟨a1, cap1, rfl, hc1, hm1, hrow1⟩ := open_rows H1
 obtain ⟨a2, cap2, rfl, hc2, hm2, hrow2⟩ := open_rows H2
 unfold maxLen at hm1 hm2
 have hnb : ((l.length : Int) != (l.length : Int)) = false := by simp
 go_enter Try.func17, Try.ntmps17
 go_wp2
 go_loopw [5] (fun i wr => ∃ k : Nat, k ≤ l.length ∧ i = .int .i64 k ∧ Below w.heap.size w wr) (fun i _ => l.length - (intOf i).toNat)
 case atStart => exact ⟨0, by omega, rfl, Below.refl _ _⟩
 case round =>
  obtain ⟨k, hk, rfl, hb⟩ := hrel
  by_cases hlt : k < l.length
  ·obtain ⟨b1, off1, fps1, rfl, hb1, rfl, he1⟩ := hrow1 (by omega)
   obtain ⟨b2, off2, fps2, rfl, hb2, rfl, he2⟩ := hrow2 (by omega)
   obtain ⟨es1, hE1, hR1⟩ := he1 k hlt
   obtain ⟨es2, hE2, hR2⟩ := he2 k hlt
   clear hrow1 hrow2 he1 he2 H1 H2
   replace hE1 := hE1.frame (hb.block b1 hb1)
   replace hE2 := hE2.frame (hb.block b2 hb2)
   have HC : Hid (∀ W, Below wr.heap.size wr W → Calls Try.prog 29 #[.agg es1.toArray, .agg es2.toArray] W fun e w' => e = .returned (.bool true) ∧ Below W.heap.size W w') := fun W hW => eqLevel_same _ _ l[k] _ _ W (sLevel.below (sLevel.below hR1 hb) hW) (sLevel.below (sLevel.below hR2 hb) hW)
   obtain ⟨rfl, -⟩ := hR1
   obtain ⟨rfl, -⟩ := hR2
   have c1_0 : wr.cell? ⟨b1, off1 + k * 3, none⟩ = some _ := elem_cell0 hE1 (by decide) rfl
   have c1_1 : wr.cell? ⟨b1, off1 + k * 3 + 1, none⟩ = some _ := elem_cell (j := 1) hE1 (by decide) rfl
   have c1_2 : wr.cell? ⟨b1, off1 + k * 3 + 2, none⟩ = some _ := elem_cell (j := 2) hE1 (by decide) rfl
   have c2_0 : wr.cell? ⟨b2, off2 + k * 3, none⟩ = some _ := elem_cell0 hE2 (by decide) rfl
   have c2_1 : wr.cell? ⟨b2, off2 + k * 3 + 1, none⟩ = some _ := elem_cell (j := 1) hE2 (by decide) rfl
   have c2_2 : wr.cell? ⟨b2, off2 + k * 3 + 2, none⟩ = some _ := elem_cell (j := 2) hE2 (by decide) rfl
   go_wp2_with fail
   go_still_tail 8, (by kernel_rfl)
   change wpList _ _ _ _ _ wr.drew
   have hd : Below wr.heap.size wr wr.drew := belowN (Below.refl _ _) 1
   generalize wr.drew = w2 at *
   go_wp2_with (go_at_call 29; refine (HC.out _ hd).mono ?_; rintro e w3 ⟨rfl, hb3⟩)
   go_roundw
   case rel => exact ⟨k + 1, by omega, by go_num, (hb.trans (hd.mono hb.size)).trans (hb3.mono (Nat.le_trans hb.size hd.size))⟩
   case measure => simp [intOf]; omega
  ·go_wp2
   go_ret
   exact ⟨rfl, hb⟩

set_option maxHeartbeats 8000000 in
set_option maxRecDepth 100000 in
theorem markLevelS (v : Value) (l : List DLevel) (fp : List Nat) (lo : Nat) (k : Int) (w : World) (h0 : 0 ≤ k) (h1 : k + cntLevelS l ≤ 2305843009213693952) (H : (sSlice sLevel).R w [v] l fp) (O : Own w lo fp) :
  Calls Try.prog 18 #[v, .int .i64 k] w (Marked (sSlice sLevel) v (mkLevelS k l) fp lo (k + cntLevelS l) w) := by
 have HI := Lib.hid H
 obtain ⟨a, cap, rfl, hc, hm, hrow0⟩ := open_rows H
 have hm' := hm
 unfold maxLen at hm
 clear H hrow0
 go_enter Try.func18, Try.ntmps18
 go_wp2
 go_loopw [1, 5] (fun t i wr => ∃ (j : Nat) (L : List DLevel) (kk : Int), j ≤ l.length ∧ i = .int .i64 j ∧ t = .int .i64 kk ∧ Hid (kk = k + cntAll cntLevel (l.take j)) ∧ Hid (MkUpto mkLevel cntLevel k l j L) ∧ Hid ((sSlice sLevel).R wr [.slice a l.length cap] L fp) ∧ Own wr lo fp ∧ Kept fp w wr) (fun _ i _ => l.length - (intOf i).toNat)
 case atStart => exact ⟨0, l, k, by omega, rfl, rfl, by show _ = _; simp [cntAll], MkUpto.zero _ _, HI.out, O, Kept.refl _ _⟩
 case round =>
  obtain ⟨j, L, kk, hj, rfl, rfl, HKK, HM, HR, HO, HK⟩ := hrel
  by_cases hlt : j < l.length
  ·obtain ⟨a', cap', hv, hc', hm'', hrow⟩ := open_rows HR.out
   have hLl := HM.out.len
   obtain ⟨b, off, fps, hab, hb, hfp, he⟩ := hrow (by omega)
   simp only [Value.slice.injEq] at hv
   obtain ⟨rfl, hv2, rfl⟩ := hv
   subst hab
   clear hv2
   rw [hLl] at hfp
   subst hfp
   obtain ⟨es, hE, hR⟩ := he j (by omega)
   rw [HM.out.at hlt] at hR
   have hle := cntAll_le (c := cntLevel) l (j + 1)
   rw [cntAll_take hlt] at hle
   have hc3 : cntLevel l[j] = 3 := rfl
   have hKb : (0 : Int) ≤ kk ∧ kk + ((3 : Nat) : Int) ≤ 2305843009213693952 := by
    have := HKK.out
    unfold cntLevelS at h1
    omega
   obtain ⟨hk0, hk1⟩ := hKb
   have HX := Lib.hid (HM.out.succ hlt)
   have HXK : Hid (kk + ((3 : Nat) : Int) = k + cntAll cntLevel (l.take (j + 1))) := by
    show _ = _
    rw [cntAll_take hlt]
    have := HKK.out
    omega
   rw [← HKK.out] at HX
   obtain ⟨rfl, hfe⟩ := hR
   have hnd := HO.1
   have hap := flat_apart hnd hlt
   have hbm : b ∈ b :: (List.range l.length).flatMap fps := by simp
   have Hrow : Hid (∀ (w' : World) (d : DLevel) (es' : List Value), Turned b (off + j * sLevel.m) (off + j * sLevel.m + sLevel.m) (fps j) wr w' → ElemAt w' b off sLevel.m j es' → sLevel.R w' es' d (fps j) → (sSlice sLevel).R w' [.slice (some ⟨b, off, none⟩) l.length cap] (L.set j d) (b :: (List.range l.length).flatMap fps)) :=
    fun w' d es' hT h1 h2 => row_turned hLl hc hm' hb he hlt hnd hT h1 h2
   clear he hrow hc' hm'' hle h1 hLl hc3
   have hm4 : sLevel.m = 3 := rfl
   rw [hm4] at hE
   have W0 := Lib.hid (Wr.start (fpj := (fps j)) hE HO hb hbm hap.1)
   have c0 := W0.out.cell0 (by decide) rfl
   have f0 := W0.out.frozen (off + j * 3)
   have W1 := Lib.hid (W0.out.set0 (by decide) (.bool ((kk) % 3 == 0)))
   have c1 := W1.out.cell 1 (by decide) rfl
   have f1 := W1.out.frozen (off + j * 3 + 1)
   have W2 := Lib.hid (W1.out.set 1 (by decide) (.bool ((kk + 1) % 3 == 0)))
   have c2 := W2.out.cell 2 (by decide) rfl
   have f2 := W2.out.frozen (off + j * 3 + 2)
   have W3 := Lib.hid (W2.out.set 2 (by decide) (.bool ((kk + 1 + 1) % 3 == 0)))
   have HF0 := Lib.hid hfe
   have HRn := Lib.hid (Hrow.out _ (mkLevel kk l[j]) _ W3.out.t W3.out.e ⟨rfl, HF0.out⟩)
   have HKn := Lib.hid (HK.trans (W3.out.t.keptAll hlt))
   have HOn := Lib.hid W3.out.o
   clear Hrow HR HO HK hnd hap hb W0 W1 W2 W3 
   go_wp2
   go_roundw
   case rel => exact ⟨j + 1, _, _, by omega, by go_num, rfl, by show _ = _; have := HXK.out; omega, HX, HRn, HOn.out, HKn.out⟩
   case measure => simp [intOf]; omega
  ·have HD := HM.out.done (by omega)
   have hjl : l.take j = l := List.take_of_length_le (by omega)
   have HKD := HKK.out
   rw [hjl] at HKD
   have HF := Lib.hid HKD
   have HRD := HR.out
   rw [HD] at HRD
   have HRF := Lib.hid HRD
   clear hjl HKD HRD HR HM HKK HD
   go_wp2
   go_ret
   exact ⟨by rw [HF.out]; rfl, HRF.out, HO, HK⟩

set_option maxHeartbeats 8000000 in
set_option maxRecDepth 100000 in
theorem heldLevelS (v : Value) (l : List DLevel) (fp : List Nat) (k : Int) (w : World) (h0 : 0 ≤ k) (h1 : k + cntLevelS l ≤ 2305843009213693952) (H : (sSlice sLevel).R w [v] (mkLevelS k l) fp) :
  Calls Try.prog 19 #[v, .int .i64 k] w fun e w' => e = .returned (.int .i64 (k + cntLevelS l)) ∧ Below w.heap.size w w' := by
 obtain ⟨a, cap, rfl, hc, hm, hrow⟩ := open_rows H
 have hml : (mkLevelS k l).length = l.length := mkAll_len _ _
 rw [hml] at hc ⊢
 unfold maxLen at hm
 have Hrow : Hid (∀ j, (hj : j < l.length) → ∃ (b off : Nat) , a = some ⟨b, off, none⟩ ∧ b < w.heap.size ∧ ∀ K : Int, K = k + cntAll cntLevel (l.take j) → ElemAt w b off 3 j [.bool ((K) % 3 == 0), .bool ((K + 1) % 3 == 0), .bool ((K + 1 + 1) % 3 == 0)]) := by
  intro j hj
  obtain ⟨b, off, fps, hab, hb, _, he⟩ := hrow (by omega)
  obtain ⟨es, hE, hR⟩ := he j (by rw [hml]; exact hj)
  have hg : (mkLevelS k l)[j]'(by rw [hml]; exact hj) = mkLevel (k + cntAll cntLevel (l.take j)) l[j] := mkAll_get k j hj
  rw [hg] at hR
  obtain ⟨rfl, -⟩ := hR
  exact ⟨b, off,  hab, hb, by rintro K rfl; exact hE⟩
 clear H hrow hml
 go_enter Try.func19, Try.ntmps19
 go_wp2
 go_loopw [1, 5] (fun t i wr => ∃ (j : Nat) (kk : Int), j ≤ l.length ∧ i = .int .i64 j ∧ t = .int .i64 kk ∧ Hid (kk = k + cntAll cntLevel (l.take j)) ∧ Below w.heap.size w wr) (fun _ i _ => l.length - (intOf i).toNat)
 case atStart => exact ⟨0, k, by omega, rfl, rfl, by show _ = _; simp [cntAll], Below.refl _ _⟩
 case round =>
  obtain ⟨j, kk, hj, rfl, rfl, HKK, hbel⟩ := hrel
  by_cases hlt : j < l.length
  ·obtain ⟨b, off,  rfl, hb, hEK⟩ := Hrow.out j hlt
   have hle := cntAll_le (c := cntLevel) l (j + 1)
   rw [cntAll_take hlt] at hle
   have hc3 : cntLevel l[j] = 3 := rfl
   have hKb : (0 : Int) ≤ kk ∧ kk + ((3 : Nat) : Int) ≤ 2305843009213693952 := by
    have := HKK.out
    unfold cntLevelS at h1
    omega
   obtain ⟨hk0, hk1⟩ := hKb
   have HXK : Hid (kk + ((3 : Nat) : Int) = k + cntAll cntLevel (l.take (j + 1))) := by
    show _ = _
    rw [cntAll_take hlt]
    have := HKK.out
    omega
   have hE := hEK kk HKK.out
   replace hE := hE.frame (hbel.block b hb)
   clear Hrow h1 hle hEK hc3
   have hbr : b < wr.heap.size := Nat.lt_of_lt_of_le hb hbel.size
   have e0 : (((kk) % 3 == 0) != ((kk) % 3 == 0)) = false := by simp
   have e1 : (((kk + 1) % 3 == 0) != ((kk + 1) % 3 == 0)) = false := by simp
   have e2 : (((kk + 1 + 1) % 3 == 0) != ((kk + 1 + 1) % 3 == 0)) = false := by simp
   have c0 : wr.cell? ⟨b, off + j * 3, none⟩ = some _ := elem_cell0 hE (by decide) rfl
   have c1 : wr.cell? ⟨b, off + j * 3 + 1, none⟩ = some _ := elem_cell hE (by decide) rfl
   have c2 : wr.cell? ⟨b, off + j * 3 + 2, none⟩ = some _ := elem_cell hE (by decide) rfl
   go_wp2
   go_roundw
   case rel => exact ⟨j + 1, _, by omega, by go_num, rfl, by show _ = _; have := HXK.out; omega, hbel⟩
   case measure => simp [intOf]; omega
  ·have hjl : l.take j = l := List.take_of_length_le (by omega)
   have HKD := HKK.out
   rw [hjl] at HKD
   have HF := Lib.hid HKD
   clear hjl HKD HKK
   go_wp2
   go_ret
   exact ⟨by rw [HF.out]; rfl, hbel⟩

set_option maxHeartbeats 8000000 in
set_option maxRecDepth 100000 in
theorem toLevel (cs : List Value) (x : DLevel) (fp : List Nat) (w : World) (H : sLevel.R w cs x fp) :
  Calls Try.prog 28 #[.agg cs.toArray] w (MadeC sLevel x w) := by
 obtain ⟨rfl, rfl⟩ := H
 go_enter Try.func28, Try.ntmps28
 go_wp2
 have b3 := below3 w #[.bool x.taken, .bool x.done_, .bool x.other] #[.bool x.taken, .bool x.done_, .bool x.other] #[.bool x.taken, .bool x.done_, .bool x.other] 50 27 27
 obtain ⟨g1_, -, -⟩ := alloc3_blk w #[.bool x.taken, .bool x.done_, .bool x.other] #[.bool x.taken, .bool x.done_, .bool x.other] #[.bool x.taken, .bool x.done_, .bool x.other] 50 27 27
 refine bodyPost_ret (results_cell_row rfl _ _ (w.heap.size + 1) _ _ _ _ rfl g1_ Try.underlying27 rfl (by kernel_rfl)) rfl ?_
 exact ⟨[.bool x.taken, .bool x.done_, .bool x.other], [], rfl, ⟨rfl, rfl⟩, Own.nil _ _, b3⟩

set_option maxHeartbeats 4000000 in
set_option maxRecDepth 100000 in
theorem toLevelS (v : Value) (l : List DLevel) (fp : List Nat) (w : World) (hW : wtLevelS l ≤ 1048576) (H : (sSlice sLevel).R w [v] l fp) :
  Calls Try.prog 16 #[v] w (Made (sSlice sLevel) l w) := by
 have hB : l.length ≤ 1048576 := by unfold wtLevelS at hW; omega
 have HW : Hid (∀ k, (hk : k < l.length) → wtLevel l[k] ≤ 1048576) := fun k hk => by have := wsum_at wtLevel l k hk; unfold wtLevelS at hW; omega
 obtain ⟨a, cap, rfl, hc, hm, hrow⟩ := open_rows H
 unfold maxLen at hm
 clear H hW
 go_enter Try.func16, Try.ntmps16
 go_wp2_with (at_make; refine wp_make_full ti_Level _ rfl _ _ rfl w.heap.size l.length rfl rfl (by omega) (by unfold maxLen; omega) (Nat.le_refl _) ?_; intro w1 hown hgrow)
 have hbel := (Below.refl w.heap.size w).grown hgrow (Nat.le_refl _) (by simp)
 have HF0 := Filling.start (S := sLevel) (l := l) hown
 clear hgrow hown
 go_loopw [4] (fun i wr => ∃ (k : Nat) (L : List (Elem DLevel)) (R : List Value), k ≤ l.length ∧ i = .int .i64 k ∧ Hid (Filling sLevel w.heap.size 27 l k wr L R) ∧ Below w.heap.size w wr) (fun i _ => l.length - (intOf i).toNat)
 case atStart => exact ⟨0, _, _, by omega, rfl, HF0, hbel⟩
 case round =>
  obtain ⟨k, L, R, hk, rfl, HF, hb⟩ := hrel
  clear HF0 hbel
  by_cases hlt : k < l.length
  ·obtain ⟨b1, off1, fps1, rfl, hb1, -, he1⟩ := hrow (by omega)
   obtain ⟨es1, hE1, hR1⟩ := he1 k hlt
   clear hrow he1
   have hR2 := sLevel.below hR1 hb
   obtain ⟨rfl, -⟩ := hR1
   have HC := Lib.hid (toLevel _ _ _ wr hR2)
   clear hR2
   replace hE1 := hE1.frame (hb.block b1 hb1)
   have c10 : wr.cell? ⟨b1, off1 + k * 3, none⟩ = some _ := elem_cell0 hE1 (by decide) rfl
   have c11 : wr.cell? ⟨b1, off1 + k * 3 + 1, none⟩ = some _ := elem_cell (j := 1) hE1 (by decide) rfl
   have c12 : wr.cell? ⟨b1, off1 + k * 3 + 2, none⟩ = some _ := elem_cell (j := 2) hE1 (by decide) rfl
   clear hE1
   go_wp2_with fail
   refine (HC.out).mono ?_
   rintro e w2 ⟨cs, fp2, rfl, hR2, hO2, hb2⟩
   have HN := Lib.hid (HF.out.next (cs := cs) hlt hb2 (by obtain ⟨rfl, -⟩ := hR2; rfl) hR2 hO2)
   obtain ⟨rfl, -⟩ := hR2
   skip
   have HF2 := Lib.hid (HF.out.below hb2)
   obtain ⟨u0, d0⟩ : ∃ u, w2.cell? ⟨w.heap.size, k * 3, none⟩ = some u := HF2.out.cell hlt (j := 0) (by decide)
   obtain ⟨u1, d1⟩ : ∃ u, w2.cell? ⟨w.heap.size, k * 3 + 1, none⟩ = some u := HF2.out.cell hlt (j := 1) (by decide)
   obtain ⟨u2, d2⟩ : ∃ u, w2.cell? ⟨w.heap.size, k * 3 + 2, none⟩ = some u := HF2.out.cell hlt (j := 2) (by decide)
   have f0 := HF2.out.frozen (k * 3)
   have f1 := HF2.out.frozen (k * 3 + 1)
   have f2 := HF2.out.frozen (k * 3 + 2)
   clear c10 c11 c12 hO2
   go_wp2
   obtain ⟨R', HN⟩ := HN.out
   go_roundw
   case rel => exact ⟨k + 1, _, R', by omega, by go_num, HN, putAll_below (Nat.le_refl _) [_, _, _] _ (k * 3) (hb.trans (hb2.mono hb.size))⟩
   case measure => simp [intOf]; omega
  ·obtain ⟨fp', h1, h2⟩ := HF.out.done (by omega)
   go_wp2
   go_ret
   exact ⟨_, fp', rfl, h1, h2, hb⟩


end Go.Proofs.Ytghikfggcnabeaa

/- Levels: no program. -/
namespace Go.Proofs.Ytghikfggcnabeaa
open Go.RowKit

def actL (l : List DLevel) : Bool := l.all fun x => x.taken
def stepL (l : List DLevel) (k : Int) (h : Bool) : List DLevel × Bool :=
 if 8 < l.length ∨ ¬ (1 ≤ k ∧ k ≤ 10) then ([], false)
 else if 3 ≤ k ∧ k ≤ 5 then (if l.length = 8 then ([], false) else (l ++ [⟨actL l && h, actL l && h, false⟩], true))
 else if ¬ (6 ≤ k ∧ k ≤ 8) then (l, true)
 else if h0 : 0 < l.length then
  (
  if k ≠ 8 ∧ l[l.length - 1].other = true then ([], false)
  else if k = 6 then (l.take (l.length - 1) ++ [⟨actL (l.take (l.length - 1)) && !l[l.length - 1].done_ && h, l[l.length - 1].done_ || (actL (l.take (l.length - 1)) && !l[l.length - 1].done_ && h), l[l.length - 1].other⟩], true)
  else if k = 7 then (l.take (l.length - 1) ++ [⟨actL (l.take (l.length - 1)) && !l[l.length - 1].done_, true, true⟩], true)
  else (l.take (l.length - 1), true))
 else ([], false)
section
variable {l : List DLevel} {k : Int} {h : Bool}
theorem step_bad (hb : 8 < l.length ∨ ¬ (1 ≤ k ∧ k ≤ 10)) : stepL l k h = ([], false) := by unfold stepL; rw [if_pos hb]
theorem step_full (h1 : 3 ≤ k ∧ k ≤ 5) (h8 : l.length = 8) : stepL l k h = ([], false) := by unfold stepL; rw [if_neg (by omega), if_pos h1, if_pos h8]
theorem step_begin (h1 : 3 ≤ k ∧ k ≤ 5) (h8 : l.length < 8) : stepL l k h = (l ++ [⟨actL l && h, actL l && h, false⟩], true) := by unfold stepL; rw [if_neg (by omega), if_pos h1, if_neg (by omega)]
theorem step_plain (hl : l.length ≤ 8) (h0 : 1 ≤ k ∧ k ≤ 10) (h1 : ¬ (3 ≤ k ∧ k ≤ 8)) : stepL l k h = (l, true) := by unfold stepL; rw [if_neg (by omega), if_neg (by omega), if_pos (by omega)]
theorem step_none (h1 : 6 ≤ k ∧ k ≤ 8) (h0 : l.length = 0) : stepL l k h = ([], false) := by unfold stepL; rw [if_neg (by omega), if_neg (by omega), if_neg (by omega), dif_neg (by omega)]
theorem step_other (h1 : 6 ≤ k ∧ k ≤ 7) (hl : l.length ≤ 8) (h0 : 0 < l.length) (ho : l[l.length - 1].other = true) : stepL l k h = ([], false) := by
 unfold stepL; rw [if_neg (by omega), if_neg (by omega), if_neg (by omega), dif_pos h0, if_pos ⟨by omega, ho⟩]
theorem step_elif (hl : l.length ≤ 8) (h0 : 0 < l.length) (ho : l[l.length - 1].other = false) : stepL l 6 h = (l.take (l.length - 1) ++ [⟨actL (l.take (l.length - 1)) && !l[l.length - 1].done_ && h, l[l.length - 1].done_ || (actL (l.take (l.length - 1)) && !l[l.length - 1].done_ && h), l[l.length - 1].other⟩], true) := by
 unfold stepL; rw [if_neg (by omega), if_neg (by omega), if_neg (by omega), dif_pos h0, if_neg (by rw [ho]; simp), if_pos rfl]
theorem step_else (hl : l.length ≤ 8) (h0 : 0 < l.length) (ho : l[l.length - 1].other = false) : stepL l 7 h = (l.take (l.length - 1) ++ [⟨actL (l.take (l.length - 1)) && !l[l.length - 1].done_, true, true⟩], true) := by
 unfold stepL; rw [if_neg (by omega), if_neg (by omega), if_neg (by omega), dif_pos h0, if_neg (by rw [ho]; simp), if_neg (by omega), if_pos rfl]
theorem step_end (hl : l.length ≤ 8) (h0 : 0 < l.length) : stepL l 8 h = (l.take (l.length - 1), true) := by
 unfold stepL; rw [if_neg (by omega), if_neg (by omega), if_neg (by omega), dif_pos h0, if_neg (by simp), if_neg (by omega), if_neg (by omega)]
theorem step_false {x : List DLevel} (hs : stepL l k h = (x, false)) : x = [] := by
 unfold stepL at hs
 split at hs
 ·simp at hs; exact hs
 ·split at hs
  ·split at hs
   ·simp at hs; exact hs
   ·simp at hs
  ·split at hs
   ·simp at hs
   ·split at hs
    ·split at hs
     ·simp at hs; exact hs
     ·split at hs
      ·simp at hs
      ·split at hs <;> simp at hs
    ·simp at hs; exact hs
theorem step_len {x : List DLevel} (hs : stepL l k h = (x, true)) : l.length ≤ 8 := by
 by_cases hb : 8 < l.length ∨ ¬ (1 ≤ k ∧ k ≤ 10)
 ·rw [step_bad hb] at hs; cases hs
 ·omega
theorem step_small {x : List DLevel} {b : Bool} (hs : stepL l k h = (x, b)) : x.length ≤ 8 := by
 cases b with
 | false => rw [step_false hs]; simp
 |
  true =>
  have hl := step_len hs
  unfold stepL at hs
  split at hs
  ·cases hs
  ·split at hs
   ·split at hs
    ·cases hs
    ·simp only [Prod.mk.injEq, and_true] at hs; subst hs; simp; omega
   ·split at hs
    ·simp only [Prod.mk.injEq, and_true] at hs; subst hs; exact hl
    ·split at hs
     ·split at hs
      ·cases hs
      ·split at hs
       ·simp only [Prod.mk.injEq, and_true] at hs; subst hs; simp; omega
       ·split at hs
        ·simp only [Prod.mk.injEq, and_true] at hs; subst hs; simp; omega
        ·simp only [Prod.mk.injEq, and_true] at hs; subst hs; simp; omega
     ·cases hs
theorem act_app (x : DLevel) : actL (l ++ [x]) = (actL l && x.taken) := by unfold actL; simp
theorem act_none (x : DLevel) (hx : x.taken = false) : actL (x :: l) = false := by unfold actL; simp [hx]
theorem act_drop (n : Nat) (ha : actL l = true) : actL (l.drop n) = true := by
 unfold actL at ha ⊢
 rw [List.all_eq_true] at ha ⊢
 exact fun x hx => ha x (List.mem_of_mem_drop hx)
theorem step_begun (h8 : l.length < 8) : stepL (l ++ [⟨actL l && h, actL l && h, false⟩]) 8 false = (l, true) := by
 rw [step_end (by simp; omega) (by simp)]
 simp
theorem step_turn (h8 : l.length < 8) : stepL (l ++ [⟨actL l && h, actL l && h, false⟩]) 7 false = (l ++ [⟨actL l && !(actL l && h), true, true⟩], true) := by
 rw [step_else (by simp; omega) (by simp) (by simp)]
 simp
theorem step_twice (h8 : l.length < 8) (a b : Bool) : stepL (l ++ [⟨a, b, true⟩]) 7 false = ([], false) := step_other (by omega) (by simp; omega) (by simp) (by simp)
theorem act_one : (actL (l ++ [⟨actL l && h, actL l && h, false⟩]) != actL (l ++ [⟨actL l && !(actL l && h), true, true⟩])) = actL l := by
 rw [act_app, act_app]
 cases actL l <;> cases h <;> rfl
end

end Go.Proofs.Ytghikfggcnabeaa

/- Rows of the call's own whose elements have memory behind them. Over any program. -/
namespace Go.Proofs.Ytghikfggcnabeaa
open Go.RowKit

structure RowE {α : Type} (S : Shape α) (base : Nat) (e : TypeId) (v : Value) (L : List (Elem α)) (w : World) : Prop where
 row : w.ownsRow base e S.m v L.length (L.flatMap (·.cells))
 len : ∀ x ∈ L, x.cells.length = S.m
 el : ∀ x ∈ L, S.R w x.cells x.d x.fp
 lo : ∀ x ∈ L, ∀ b ∈ x.fp, base ≤ b
 ty : ∀ x ∈ L, ∀ b ∈ x.fp, ∃ cur t fr, w.heap[b]? = some (.cells cur t fr) ∧ t ≠ e

section
variable {α : Type} {S : Shape α} {base : Nat} {e : TypeId} {v v' : Value} {L : List (Elem α)} {w w' : World}
theorem ownsRow_same {n : Nat} {xs : List Value} {m : Nat} (h : w.ownsRow base e m v n xs) (hb : ∀ g, v.ownBlock = some g → w'.heap[g]? = w.heap[g]?) : w'.ownsRow base e m v n xs := by
 refine ⟨h.1, ?_⟩
 rcases h.2 with h0 | ⟨g, cap, cur, h1, h2, h3, h4⟩
 ·exact .inl h0
 ·exact .inr ⟨g, cap, cur, h1, h2, (hb g (by rw [h1]; rfl)).trans h3, h4⟩
theorem RowE.same (h : RowE S base e v L w) (hb : ∀ b, b < w.heap.size → base ≤ b → w'.heap[b]? = w.heap[b]?) : RowE S base e v L w' where
 row := ownsRow_same h.row fun g hg => by
  have := h.row.lt g hg
  exact hb g this.2 this.1
 len := h.len
 el := fun x hx => S.frame (fun b hb' => hb b (S.lt (h.el x hx) b hb') (h.lo x hx b hb')) (h.el x hx)
 lo := h.lo
 ty := fun x hx b hb' => by
  obtain ⟨cur, t, fr, h1, h2⟩ := h.ty x hx b hb'
  exact ⟨cur, t, fr, (hb b (S.lt (h.el x hx) b hb') (h.lo x hx b hb')).trans h1, h2⟩
theorem RowE.below (h : RowE S base e v L w) (hb : Below w.heap.size w w') : RowE S base e v L w' := h.same fun b hb' _ => hb.block b hb'
theorem RowE.slice (h : RowE S base e v L w) : ∃ fp, (sSlice S).R w [v] (L.map (·.d)) fp := by
 obtain ⟨fp, h1, _⟩ := slice_of_row h.row fun x hx => ⟨h.len x hx, h.el x hx⟩
 exact ⟨fp, h1⟩
theorem RowE.ap (h : RowE S base e v L w) {x : Elem α} (hx : x ∈ L) {b : Nat} (hb : b ∈ x.fp) : v.ownBlock ≠ some b := by
 intro hv
 obtain ⟨cur, t, fr, h1, h2⟩ := h.ty x hx b hb
 rcases h.row.2 with ⟨rfl, _⟩ | ⟨g, cap, cur', rfl, _, hg, _⟩
 ·simp [Value.ownBlock] at hv
 ·simp only [Value.ownBlock, Option.some.injEq] at hv
  subst hv
  rw [h1] at hg
  simp only [Option.some.injEq, Obj.cells.injEq] at hg
  exact h2 hg.2.1
theorem flatMap_set {f : Elem α → List Value} {m : Nat} : ∀ {L : List (Elem α)} (_ : ∀ x ∈ L, (f x).length = m) {k : Nat} (hk : k < L.length) {j : Nat} (_ : j < m) (u : Value) (x' : Elem α) (_ : f x' = (f L[k]).set j u), (L.flatMap f).set (k * m + j) u = (L.set k x').flatMap f
 | [], _, k, hk, _, _, _, _, _ => by simp at hk
 |
  x :: L, hL, 0, _, j, hj, u, x', hx => by
  simp only [List.flatMap_cons, List.set_cons_zero, Nat.zero_mul, Nat.zero_add]
  rw [List.set_append_left _ _ (by rw [hL x (by simp)]; exact hj), hx]; rfl
 |
  x :: L, hL, k + 1, hk, j, hj, u, x', hx => by
  have hl := hL x (by simp)
  have e : (k + 1) * m + j = m + (k * m + j) := by rw [Nat.succ_mul]; omega
  simp only [List.flatMap_cons, List.set_cons_succ]
  rw [List.set_append_right _ _ (by rw [hl, e]; omega), hl, e, Nat.add_sub_cancel_left]
  rw [flatMap_set (fun y hy => hL y (by simp [hy])) (by simpa using hk) hj u x' (by simpa using hx)]
theorem RowE.set {g n cap : Nat} (h : RowE S base e (.slice (some ⟨g, 0, none⟩) n cap) L w) {k : Nat} (hk : k < L.length) {j : Nat} (hj : j < S.m) (u : Value) (x' : Elem α) (hx : x'.cells = L[k].cells.set j u)
  (hR : S.R w x'.cells x'.d x'.fp) (hlo : ∀ b ∈ x'.fp, base ≤ b) (hty : ∀ b ∈ x'.fp, ∃ cur t fr, w.heap[b]? = some (.cells cur t fr) ∧ t ≠ e) :
  RowE S base e (.slice (some ⟨g, 0, none⟩) n cap) (L.set k x') (w.setCell ⟨g, k * S.m + j, none⟩ u) := by
 have hne : ∀ b : Nat, (∃ cur t fr, w.heap[b]? = some (.cells cur t fr) ∧ t ≠ e) → b ≠ g := by
  rintro b ⟨cur, t, fr, h1, h2⟩ rfl
  rcases h.row.2 with ⟨h', _⟩ | ⟨g', cap', cur', h', _, hg, _⟩
  ·cases h'
  ·simp only [Value.slice.injEq, Option.some.injEq, Addr.mk.injEq, and_true] at h'
   obtain ⟨rfl, _⟩ := h'
   rw [h1] at hg
   simp only [Option.some.injEq, Obj.cells.injEq] at hg
   exact h2 hg.2.1
 have hblk : ∀ b : Nat, b ≠ g → (w.setCell ⟨g, k * S.m + j, none⟩ u).heap[b]? = w.heap[b]? := fun b hb => Below.heap_setCell _ _ _ _ hb
 have hmem : ∀ x ∈ L.set k x', x = x' ∨ x ∈ L := fun x hx => by
  rcases List.mem_or_eq_of_mem_set hx with h | h
  ·exact .inr h
  ·exact .inl h
 refine ⟨?_, fun x hx' => ?_, fun x hx' => ?_, fun x hx' => ?_, fun x hx' => ?_⟩
 ·have hn : L.length = n := by
   rcases h.row.2 with ⟨h', _⟩ | ⟨g', cap', cur, h', _⟩
   ·cases h'
   ·simp only [Value.slice.injEq] at h'; exact h'.2.1.symm
  have hrow := h.row
  rw [hn] at hrow
  have := (hrow.stored (k * S.m + j) u).1
  rw [flatMap_set h.len hk hj u x' hx] at this
  rw [List.length_set, hn]
  exact this
 ·rcases hmem x hx' with rfl | hx'
  ·rw [hx, List.length_set]; exact h.len _ (List.getElem_mem hk)
  ·exact h.len x hx'
 ·rcases hmem x hx' with rfl | hx'
  ·exact S.frame (fun b hb => hblk b (hne b (hty b hb))) hR
  ·exact S.frame (fun b hb => hblk b (hne b (h.ty x hx' b hb))) (h.el x hx')
 ·rcases hmem x hx' with rfl | hx'
  ·exact hlo
  ·exact h.lo x hx'
 ·intro b hb
  rcases hmem x hx' with rfl | hx'
  ·obtain ⟨cur, t, fr, h1, h2⟩ := hty b hb
   exact ⟨cur, t, fr, (hblk b (hne b ⟨cur, t, fr, h1, h2⟩)).trans h1, h2⟩
  ·obtain ⟨cur, t, fr, h1, h2⟩ := h.ty x hx' b hb
   exact ⟨cur, t, fr, (hblk b (hne b ⟨cur, t, fr, h1, h2⟩)).trans h1, h2⟩
end
end Go.Proofs.Ytghikfggcnabeaa

/- Rows of the call's own: literals, whole elements stored, rows behind rows. Over any program. -/
namespace Go.Proofs.Ytghikfggcnabeaa
open Go.RowKit

section
variable {α : Type} {S : Shape α} {base : Nat} {e : TypeId} {v v' : Value} {L : List (Elem α)} {w w' : World}
end
end Go.Proofs.Ytghikfggcnabeaa

/- An element put into a row: what the cells are. Over any program. -/
namespace Go.Proofs.Ytghikfggcnabeaa
open Go.RowKit
end Go.Proofs.Ytghikfggcnabeaa

/- Rows of the call's own whose elements lie anywhere but in the row's own block: appended, written, read. Over any program. -/
namespace Go.Proofs.Ytghikfggcnabeaa
open Go.RowKit

theorem run_append_place {P : Program} (w : World) (base : Nat) (t ty e : TypeId) (i : TypeInfo) (z : Value) (size bytes : Nat) (ht : P.underlying t = some (.slice e)) (hi : P.info? e = some i) (hz : i.zero = some z)
  (hsize : i.size = size) (hby : i.bytes = bytes) (hzs : z.cells.size = size) (hsz : 0 < size)
  (v : Value) (n : Nat) (xs : List Value) (hown : w.ownsRow base e size v n xs)
  (a : Addr) (m c : Nat) (news : List Value) (hl : news.length = m * size) (hnews : ∀ j u, news[j]? = some u → w.cell? (a.add j) = some u) (h1 : ∀ u ∈ news, u.oneCell' = true)
  (h63 : n + m ≤ maxLen) (hbytes : (n + m) * bytes ≤ 140737488355328) (hbase : base ≤ w.heap.size) :
  ∃ v' w', (Builtin.append_ #[t, t] ty #[v, .slice (some a) m c]).run P w = .ok v' w' ∧ w'.ownsRow base e size v' (n + m) (xs ++ news) ∧ w.grownBy w' v.ownBlock ∧ (v'.ownBlock = v.ownBlock ∨ v'.ownBlock = some w.heap.size) := by
 obtain ⟨v', w', hr, h2, h3, h4⟩ := Go.run_append_own (P := P) w base t ty e i z size bytes ht hi hz hsize hby hzs hsz v n xs hown a m c news hl hnews h1 h63 hbytes hbase
 refine ⟨v', w', hr, h2, h3, ?_⟩
 have hsmall : n + m ≤ 9223372036854775807 := by simp only [maxLen] at h63; omega
 subst hsize
 subst hby
 rcases hown.2 with ⟨rfl, rfl⟩ | ⟨g, cap, cur, rfl, hbg, hg, hnc, hcm, hcs, htake⟩
 ·have hx : xs = [] := List.eq_nil_of_length_eq_zero (by simpa using hown.1)
  subst hx
  by_cases hm : m = 0
  ·exact .inl (by rw [h4.2 ⟨rfl, hm⟩])
  ·have hr2 := _root_.Go.run_append_nil (P := P) w t ty e i z ht hi hz a m c news hl hnews (by omega) (by omega) (by have hb := hbytes; simp only [Nat.zero_add] at hb; omega)
   rw [hr2] at hr
   obtain ⟨rfl, _⟩ := Result.ok.inj hr
   exact .inr rfl
 ·by_cases hroom : n + m ≤ cap
  ·have hfit : n * i.size + news.length ≤ cur.size := by rw [hl, hcs, ← Nat.add_mul]; exact Nat.mul_le_mul_right _ hroom
   have hr2 := Go.run_append_room (P := P) w t ty e i ht hi g n cap cur hg a m c news hl hnews h1 hroom hfit
   rw [hr2] at hr
   obtain ⟨rfl, _⟩ := Result.ok.inj hr
   exact .inl rfl
  ·have holds : ∀ j u, xs[j]? = some u → w.cell? ((⟨g, 0, none⟩ : Addr).add j) = some u := hown.cells (g := g) rfl
   have hr2 := _root_.Go.run_append_grow (P := P) w t ty e i z ht hi hz ⟨g, 0, none⟩ n cap xs hown.1 holds a m c news hl hnews (by omega) (by omega) (growslice_fits (by omega) hbytes)
   rw [hr2] at hr
   obtain ⟨rfl, _⟩ := Result.ok.inj hr
   exact .inr rfl

structure RowN {α : Type} (S : Shape α) (base : Nat) (e : TypeId) (v : Value) (L : List (Elem α)) (w : World) : Prop where
 row : w.ownsRow base e S.m v L.length (L.flatMap (·.cells))
 len : ∀ x ∈ L, x.cells.length = S.m
 el : ∀ x ∈ L, S.R w x.cells x.d x.fp
 ap : ∀ x ∈ L, ∀ b ∈ x.fp, v.ownBlock ≠ some b

section
variable {α : Type} {S : Shape α} {base : Nat} {e : TypeId} {v v' : Value} {L : List (Elem α)} {w w' : World}
theorem RowN.nil (S : Shape α) (base : Nat) (e : TypeId) (w : World) : RowN S base e (.slice none 0 0) [] w := ⟨World.ownsRow_nil _ _ _ _, by simp, by simp, by simp⟩
theorem RowN.lit0 (S : Shape α) (e : TypeId) (w : World) {base : Nat} (hb : base ≤ w.heap.size) : RowN S base e (.slice (some ⟨w.heap.size, 0, none⟩) 0 0) [] (w.alloc (.cells #[] e)) where
 row := World.ownsRow_lit (base := base) (e := e) (size := S.m) w #[] 0 hb (by unfold maxLen; omega) (by simp)
 len := by simp
 el := by simp
 ap := by simp
theorem RowN.lit1 {x : Elem α} {base : Nat} (hb : base ≤ w.heap.size) (hl : x.cells.length = S.m) (hR : S.R w x.cells x.d x.fp) : RowN S base e (.slice (some ⟨w.heap.size, 0, none⟩) 1 1) [x] (w.alloc (.cells x.cells.toArray e)) where
 row := by
  have := World.ownsRow_lit (base := base) (e := e) (size := S.m) w x.cells.toArray 1 hb (by unfold maxLen; omega) (by simpa using hl)
  simpa using this
 len := fun y hy => by obtain rfl := List.mem_singleton.1 hy; exact hl
 el := fun y hy => by obtain rfl := List.mem_singleton.1 hy; exact S.below hR (alloc_below' w _)
 ap := fun y hy b hb' h => by
  obtain rfl := List.mem_singleton.1 hy
  have := S.lt hR b hb'
  simp only [Value.ownBlock, Option.some.injEq] at h
  omega
theorem RowN.same (h : RowN S base e v L w) (hv : ∀ g, v.ownBlock = some g → w'.heap[g]? = w.heap[g]?) (hb : ∀ x ∈ L, ∀ b ∈ x.fp, w'.heap[b]? = w.heap[b]?) : RowN S base e v L w' where
 row := ownsRow_same h.row hv
 len := h.len
 el := fun x hx => S.frame (fun b hb' => hb x hx b hb') (h.el x hx)
 ap := h.ap
theorem RowN.below (h : RowN S base e v L w) (hb : Below w.heap.size w w') : RowN S base e v L w' :=
 h.same (fun g hg => hb.block g (h.row.lt g hg).2) (fun x hx b hb' => hb.block b (S.lt (h.el x hx) b hb'))
theorem RowN.kept {K : List Nat} (h : RowN S base e v L w) (hk : Kept K w w') (hv : ∀ g, v.ownBlock = some g → g ∉ K) (hb : ∀ x ∈ L, ∀ b ∈ x.fp, b ∉ K) : RowN S base e v L w' :=
 h.same (fun g hg => hk.block g (h.row.lt g hg).2 (hv g hg)) (fun x hx b hb' => hk.block b (S.lt (h.el x hx) b hb') (hb x hx b hb'))
theorem RowN.val (h : RowN S base e v L w) : ∃ a cap, v = .slice a L.length cap ∧ L.length ≤ cap ∧ cap ≤ maxLen ∧ (0 < L.length → ∃ g, a = some ⟨g, 0, none⟩ ∧ base ≤ g ∧ g < w.heap.size) := by
 rcases h.row.2 with ⟨rfl, h0⟩ | ⟨g, cap, cur, rfl, hb, hg, hn, hc, _⟩
 ·exact ⟨none, 0, by rw [h0], by omega, by simp, fun h => by omega⟩
 ·exact ⟨_, cap, rfl, hn, hc, fun _ => ⟨g, rfl, hb, (Array.getElem?_eq_some_iff.1 hg).1⟩⟩
theorem RowN.mine (h : RowN S base e v L w) : ∀ b, v.ownBlock = some b → base ≤ b ∧ b < w.heap.size := fun b hb => h.row.lt b hb
theorem RowN.read (h : RowN S base e v L w) : ∃ fp, (sSlice S).R w [v] (L.map (·.d)) fp ∧ (∀ b ∈ fp, v.ownBlock = some b ∨ ∃ x ∈ L, b ∈ x.fp) ∧ (Own w base (L.flatMap (·.fp)) → Own w base fp) := by
 obtain ⟨fp, h1, h2, h3⟩ := slice_of_row h.row fun x hx => ⟨h.len x hx, h.el x hx⟩
 refine ⟨fp, h1, fun b hb => ?_, fun ho => h3 ho fun g hg hm => ?_⟩
 ·rcases h2 b hb with h | h
  ·exact .inl h
  ·obtain ⟨x, hx, hb'⟩ := List.mem_flatMap.1 h
   exact .inr ⟨x, hx, hb'⟩
 ·obtain ⟨x, hx, hb'⟩ := List.mem_flatMap.1 hm
  exact h.ap x hx g hb' hg
theorem RowN.len_eq {g n cap : Nat} (h : RowN S base e (.slice (some ⟨g, 0, none⟩) n cap) L w) : L.length = n := by
 rcases h.row.2 with ⟨h', _⟩ | ⟨g', cap', cur, h', _⟩
 ·cases h'
 ·simp only [Value.slice.injEq] at h'; exact h'.2.1.symm
theorem RowN.frozen {g n cap : Nat} (h : RowN S base e (.slice (some ⟨g, 0, none⟩) n cap) L w) (o : Nat) : w.frozen? ⟨g, o, none⟩ = false := by
 rcases h.row.2 with ⟨h', _⟩ | ⟨g', cap', cur, h', _, hg, _⟩
 ·cases h'
 ·simp only [Value.slice.injEq, Option.some.injEq, Addr.mk.injEq, and_true] at h'
  obtain ⟨rfl, _⟩ := h'
  exact frozen_of_row w g o cur e hg
theorem RowN.cellAt {g n cap : Nat} (h : RowN S base e (.slice (some ⟨g, 0, none⟩) n cap) L w) {k : Nat} (hk : k < L.length) {j : Nat} (hj : j < S.m) {u : Value} (hu : L[k].cells[j]? = some u) : w.cell? ⟨g, k * S.m + j, none⟩ = some u := by
 have hn : L.length = n := h.len_eq
 subst hn
 rw [h.row.cellAt (k * S.m + j) (by have : (k + 1) * S.m ≤ L.length * S.m := Nat.mul_le_mul_right _ hk; rw [Nat.succ_mul] at this; omega)]
 exact (flatMap_at (f := Elem.cells) h.len hk hj).trans hu
theorem RowN.set {g n cap : Nat} (h : RowN S base e (.slice (some ⟨g, 0, none⟩) n cap) L w) {k : Nat} (hk : k < L.length) {j : Nat} (hj : j < S.m) (u : Value) (x' : Elem α) (hx : x'.cells = L[k].cells.set j u)
  (hR : S.R w x'.cells x'.d x'.fp) (hap : g ∉ x'.fp) : RowN S base e (.slice (some ⟨g, 0, none⟩) n cap) (L.set k x') (w.setCell ⟨g, k * S.m + j, none⟩ u) := by
 have hn : L.length = n := h.len_eq
 have hfar : ∀ b, b ≠ g → (w.setCell ⟨g, k * S.m + j, none⟩ u).heap[b]? = w.heap[b]? := fun b hb => Below.heap_setCell _ _ _ _ hb
 have hmem : ∀ x ∈ L.set k x', x = x' ∨ x ∈ L := fun x hx => by
  rcases List.mem_or_eq_of_mem_set hx with h | h
  ·exact .inr h
  ·exact .inl h
 have hne : ∀ x ∈ L.set k x', ∀ b ∈ x.fp, b ≠ g := fun x hx' b hb e => by
  subst e
  rcases hmem x hx' with rfl | hx'
  ·exact hap hb
  ·exact h.ap x hx' b hb rfl
 refine ⟨?_, fun x hx' => ?_, fun x hx' => S.frame (fun b hb => hfar b (hne x hx' b hb)) ?_, fun x hx' b hb hv => ?_⟩
 ·have hrow := h.row
  rw [hn] at hrow
  have := (hrow.stored (k * S.m + j) u).1
  rw [flatMap_set h.len hk hj u x' hx] at this
  rw [List.length_set, hn]
  exact this
 ·rcases hmem x hx' with rfl | hx'
  ·rw [hx, List.length_set]; exact h.len _ (List.getElem_mem hk)
  ·exact h.len x hx'
 ·rcases hmem x hx' with rfl | hx'
  ·exact hR
  ·exact h.el x hx'
 ·simp only [Value.ownBlock, Option.some.injEq] at hv
  exact hne x hx' b hb hv.symm
theorem RowN.appended (h : RowN S base e v L w) {X : List (Elem α)} (hrow : w'.ownsRow base e S.m v' (L ++ X).length ((L ++ X).flatMap (·.cells))) (hg : w.grownBy w' v.ownBlock) (hp : v'.ownBlock = v.ownBlock ∨ v'.ownBlock = some w.heap.size)
  (hX : ∀ x ∈ X, x.cells.length = S.m ∧ S.R w x.cells x.d x.fp ∧ ∀ b ∈ x.fp, v.ownBlock ≠ some b) : RowN S base e v' (L ++ X) w' := by
 have hall : ∀ x ∈ L ++ X, x.cells.length = S.m ∧ S.R w x.cells x.d x.fp ∧ ∀ b ∈ x.fp, v.ownBlock ≠ some b := fun x hx => by
  rcases List.mem_append.1 hx with hx | hx
  ·exact ⟨h.len x hx, h.el x hx, h.ap x hx⟩
  ·exact hX x hx
 refine ⟨hrow, fun x hx => (hall x hx).1, fun x hx => ?_, fun x hx b hb => ?_⟩
 ·exact S.frame (fun b hb => hg.block b (S.lt (hall x hx).2.1 b hb) fun hv => (hall x hx).2.2 b hb hv.symm) (hall x hx).2.1
 ·rcases hp with hp | hp
  ·rw [hp]; exact (hall x hx).2.2 b hb
  ·rw [hp]
   intro h2
   simp only [Option.some.injEq] at h2
   have := S.lt (hall x hx).2.1 b hb
   omega
end

theorem step_append_rowN {α : Type} {S : Shape α} {P : Program} {t e : TypeId} {z : Value} {bytes : Nat} (ti : TI P t e z S.m bytes) (hzs : z.cells.size = S.m) (h0 : 0 < S.m) (w : World) {L X : List (Elem α)} {o : Oper} {a : Act} {K : Act → World → Prop} {Q : Exit → Act → World → Prop}
  (s y : Operand) (ho : o.op = .call { callee := .builtin .append, args := #[s, y], argTypes := #[t, t] })
  (base : Nat) (v : Value) (hs : a.eval s = v) (hown : RowN S base e v L w) (ad : Addr) (m c : Nat) (hy : a.eval y = .slice (some ad) m c) (hm : X.length = m)
  (hX : ∀ x ∈ X, x.cells.length = S.m ∧ S.R w x.cells x.d x.fp ∧ ∀ b ∈ x.fp, v.ownBlock ≠ some b) (h1 : ∀ x ∈ X, ∀ u ∈ x.cells, u.oneCell' = true) (hcell : ∀ j u, (X.flatMap (·.cells))[j]? = some u → w.cell? (ad.add j) = some u)
  (h63 : L.length + m ≤ maxLen) (hbytes : (L.length + m) * bytes ≤ 140737488355328) (hbase : base ≤ w.heap.size)
  (h : ∀ v' w', RowN S base e v' (L ++ X) w' → w.grownBy w' v.ownBlock → (v'.ownBlock = v.ownBlock ∨ v'.ownBlock = some w.heap.size) → K (a.put o.dst v') w') : o.wp P a w K Q := by
 obtain ⟨i, hi, hz0, hz1, hz2⟩ := info_parts ti.2
 subst hm
 obtain ⟨v', w', hr, r1, r2, r3⟩ := run_append_place (P := P) w base t o.type e i z S.m bytes ti.1 hi hz0 hz1 hz2 hzs h0 v L.length _ hown.row ad X.length c (X.flatMap (·.cells)) (flatMap_len (f := Elem.cells) fun x hx => (hX x hx).1) hcell
  (fun u hu => by obtain ⟨x, hx, hu⟩ := List.mem_flatMap.1 hu; exact h1 x hx u hu) h63 hbytes hbase
 unfold Oper.wp execOp
 simp only [ho, resolve, invoke, builtin, Sem.run_bind, Sem.run_pure, Result.andThen_ok, List.map_toArray, List.map_cons, List.map_nil, hs, hy, hr]
 refine h v' w' (hown.appended ?_ r2 r3 hX) r2 r3
 rw [List.length_append, List.flatMap_append]
 exact r1
theorem wp_append_rowN {α : Type} {S : Shape α} {P : Program} {t e : TypeId} {z : Value} {bytes : Nat} (ti : TI P t e z S.m bytes) (hzs : z.cells.size = S.m) (h0 : 0 < S.m) (w : World) {L X : List (Elem α)} {ops : Array Oper} {rest : List Oper} {o : Oper} {a : Act} {Q : Exit → Act → World → Prop}
  (hg : o.guard = none) (s y : Operand) (ho : o.op = .call { callee := .builtin .append, args := #[s, y], argTypes := #[t, t] })
  (base : Nat) (v : Value) (hs : a.eval s = v) (hown : RowN S base e v L w) (ad : Addr) (m c : Nat) (hy : a.eval y = .slice (some ad) m c) (hm : X.length = m)
  (hX : ∀ x ∈ X, x.cells.length = S.m ∧ S.R w x.cells x.d x.fp ∧ ∀ b ∈ x.fp, v.ownBlock ≠ some b) (h1 : ∀ x ∈ X, ∀ u ∈ x.cells, u.oneCell' = true) (hcell : ∀ j u, (X.flatMap (·.cells))[j]? = some u → w.cell? (ad.add j) = some u)
  (h63 : L.length + m ≤ maxLen) (hbytes : (L.length + m) * bytes ≤ 140737488355328) (hbase : base ≤ w.heap.size)
  (h : ∀ v' w', RowN S base e v' (L ++ X) w' → w.grownBy w' v.ownBlock → (v'.ownBlock = v.ownBlock ∨ v'.ownBlock = some w.heap.size) → wpList P ops Q rest (a.put o.dst v') w') : wpList P ops Q (o :: rest) a w :=
 wpList_plain hg fun _ hK => step_append_rowN ti hzs h0 w s y ho base v hs hown ad m c hy hm hX h1 hcell h63 hbytes hbase fun v' w' h2 h3 h4 => hK _ _ (h v' w' h2 h3 h4)
theorem run_append_none {P : Program} {w : World} (base : Nat) (t ty e : TypeId) (i : TypeInfo) (size c : Nat) (ht : P.underlying t = some (.slice e)) (hi : P.info? e = some i)
  (v : Value) (n : Nat) (xs : List Value) (hown : w.ownsRow base e size v n xs) : (Builtin.append_ #[t, t] ty #[v, .slice none 0 c]).run P w = .ok v w := by
 rcases hown.2 with ⟨rfl, rfl⟩ | ⟨g, cap, cur, rfl, _, _, hnc, _⟩
 ·simp [Builtin.append_, run_underlying ht, sizeOf, typeInfo, hi, Builtin.lenOf, Builtin.firstCells]
 ·simp [Builtin.append_, run_underlying ht, sizeOf, typeInfo, hi, Builtin.lenOf, Builtin.firstCells, hnc, storeCells]
theorem elems_in {α : Type} {S : Shape α} {w : World} {u : Value} {M : List α} {fp : List Nat} (H : (sSlice S).R w [u] M fp) :
  ∃ (X : List (Elem α)) (a : Option Addr) (cap : Nat), X.map (·.d) = M ∧ X.length = M.length ∧ u = .slice a M.length cap ∧ M.length ≤ maxLen ∧ (∀ x ∈ X, x.cells.length = S.m ∧ S.R w x.cells x.d x.fp ∧ ∀ b ∈ x.fp, b ∈ fp) ∧
   (0 < M.length → ∃ b off, a = some ⟨b, off, none⟩ ∧ b < w.heap.size ∧ ∀ k, (hk : k < X.length) → ElemAt w b off S.m k X[k].cells) := by
 obtain ⟨a, cap, rfl, hc, hm, hrow⟩ := open_rows H
 by_cases h0 : 0 < M.length
 ·obtain ⟨b, off, fps, rfl, hb, hfp, he⟩ := hrow h0
  have key : ∀ k : Fin M.length, ∃ x : Elem α, x.d = M[k.1] ∧ x.fp = fps k.1 ∧ ElemAt w b off S.m k.1 x.cells ∧ S.R w x.cells x.d x.fp := fun k => by
   obtain ⟨es, hE, hR⟩ := he k.1 k.2
   exact ⟨⟨es, M[k.1], fps k.1⟩, rfl, rfl, hE, hR⟩
  let X : List (Elem α) := List.ofFn fun k : Fin M.length => (key k).choose
  have hXl : X.length = M.length := by simp [X]
  have hX : ∀ k, (hk : k < X.length) → ∃ hk' : k < M.length, X[k] = (key ⟨k, hk'⟩).choose := fun k hk => ⟨by omega, by simp [X]⟩
  refine ⟨X, _, cap, ?_, hXl, rfl, by omega, fun x hx => ?_, fun _ => ⟨b, off, rfl, hb, fun k hk => ?_⟩⟩
  ·apply List.ext_getElem
   ·simp [hXl]
   ·intro k h1 h2
    rw [List.getElem_map]
    obtain ⟨hk', e⟩ := hX k (by simpa using h1)
    rw [e]
    exact (key ⟨k, hk'⟩).choose_spec.1
  ·obtain ⟨k, hk, rfl⟩ := List.getElem_of_mem hx
   obtain ⟨hk', e⟩ := hX k hk
   obtain ⟨s1, s2, s3, s4⟩ := (key ⟨k, hk'⟩).choose_spec
   rw [e]
   refine ⟨s3.1, s4, fun c hc => ?_⟩
   rw [s2] at hc
   rw [hfp]
   exact List.mem_cons_of_mem _ (List.mem_flatMap.2 ⟨k, List.mem_range.2 hk', hc⟩)
  ·obtain ⟨hk', e⟩ := hX k hk
   rw [e]
   exact (key ⟨k, hk'⟩).choose_spec.2.2.1
 ·have hM : M = [] := List.length_eq_zero_iff.1 (by omega)
  subst hM
  exact ⟨[], a, cap, rfl, rfl, rfl, by unfold maxLen; simp, by simp, fun h => absurd h (by simp)⟩
theorem step_append_anyN {α : Type} {S : Shape α} {P : Program} {t e : TypeId} {z : Value} {bytes : Nat} (ti : TI P t e z S.m bytes) (hzs : z.cells.size = S.m) (h0 : 0 < S.m) (hone : ∀ w cs x fp, S.R w cs x fp → ∀ u ∈ cs, u.oneCell' = true) (w : World) {L : List (Elem α)} {o : Oper} {a : Act} {K : Act → World → Prop} {Q : Exit → Act → World → Prop}
  (s y : Operand) (ho : o.op = .call { callee := .builtin .append, args := #[s, y], argTypes := #[t, t] })
  (base : Nat) (v u : Value) (M : List α) (fp : List Nat) (hs : a.eval s = v) (hown : RowN S base e v L w) (hy : a.eval y = u) (HM : (sSlice S).R w [u] M fp) (hfp : ∀ b ∈ fp, v.ownBlock ≠ some b)
  (h63 : L.length + M.length ≤ maxLen) (hbytes : (L.length + M.length) * bytes ≤ 140737488355328) (hbase : base ≤ w.heap.size)
  (h : ∀ v' X w', X.map (·.d) = M → (∀ x ∈ X, ∀ b ∈ x.fp, b ∈ fp) → RowN S base e v' (L ++ X) w' → w.grownBy w' v.ownBlock → (v'.ownBlock = v.ownBlock ∨ v'.ownBlock = some w.heap.size) → K (a.put o.dst v') w') : o.wp P a w K Q := by
 obtain ⟨X, ad, cap, hXM, hXl, rfl, hmm, hX, hat⟩ := elems_in HM
 rw [← hXl] at h63 hbytes
 have hX2 : ∀ x ∈ X, x.cells.length = S.m ∧ S.R w x.cells x.d x.fp ∧ ∀ b ∈ x.fp, v.ownBlock ≠ some b := fun x hx => ⟨(hX x hx).1, (hX x hx).2.1, fun c hc => hfp c ((hX x hx).2.2 c hc)⟩
 by_cases hM : 0 < M.length
 ·obtain ⟨b, off, rfl, hb, hE⟩ := hat hM
  refine step_append_rowN ti hzs h0 w (X := X) s y ho base v hs hown ⟨b, off, none⟩ M.length cap hy hXl hX2 (fun x hx => hone _ _ _ _ (hX x hx).2.1) ?_ (by rw [← hXl]; exact h63) (by rw [← hXl]; exact hbytes) hbase fun v' w' r1 r2 r3 => h v' X w' hXM (fun x hx => (hX x hx).2.2) r1 r2 r3
  intro j u hj
  have hjl : j < X.length * S.m := by
   have := (List.getElem?_eq_some_iff.1 hj).1
   rwa [flatMap_len (f := Elem.cells) fun x hx => (hX x hx).1] at this
  have hk : j / S.m < X.length := Nat.div_lt_of_lt_mul (by rw [Nat.mul_comm]; exact hjl)
  have hr : j % S.m < S.m := Nat.mod_lt _ h0
  have hj2 : j / S.m * S.m + j % S.m = j := Nat.div_add_mod' _ _
  rw [← hj2, flatMap_at (f := Elem.cells) (fun x hx => (hX x hx).1) hk hr] at hj
  have := (hE (j / S.m) hk).2 (j % S.m) hr
  rw [Nat.add_assoc, hj2] at this
  rw [Addr.add_lit, this]
  exact hj
 ·have hX0 : X = [] := List.length_eq_zero_iff.1 (by omega)
  have hM0 : M.length = 0 := by omega
  subst hX0
  obtain ⟨i, hi, hz0, hz1, hz2⟩ := info_parts ti.2
  have hdone : K (a.put o.dst v) w := h v [] w (by simpa using hXM) (by simp) (by simpa using hown) ⟨rfl, rfl, rfl, Nat.le_refl _, fun _ _ _ => rfl⟩ (.inl rfl)
  rw [hM0] at hy
  cases ad with
  |
   none =>
   have hrun := run_append_none (P := P) (w := w) base _ o.type _ i S.m cap ti.1 hi v L.length _ hown.row
   unfold Oper.wp
   simp [execOp, ho, resolve, invoke, builtin, hs, hy, hrun, Result.andThen]
   exact hdone
  |
   some ad =>
   exact step_append_rowN ti hzs h0 w (X := []) s y ho base v hs hown ad 0 cap hy rfl (by simp) (by simp) (by simp) (by simpa using h63) (by simpa using hbytes) hbase fun v' w' r1 r2 r3 => h v' [] w' (by simpa using hXM) (by simp) r1 r2 r3
theorem wp_append_anyN {α : Type} {S : Shape α} {P : Program} {t e : TypeId} {z : Value} {bytes : Nat} (ti : TI P t e z S.m bytes) (hzs : z.cells.size = S.m) (h0 : 0 < S.m) (hone : ∀ w cs x fp, S.R w cs x fp → ∀ u ∈ cs, u.oneCell' = true) (w : World) {L : List (Elem α)} {ops : Array Oper} {rest : List Oper} {o : Oper} {a : Act} {Q : Exit → Act → World → Prop}
  (hg : o.guard = none) (s y : Operand) (ho : o.op = .call { callee := .builtin .append, args := #[s, y], argTypes := #[t, t] })
  (base : Nat) (v u : Value) (M : List α) (fp : List Nat) (hs : a.eval s = v) (hown : RowN S base e v L w) (hy : a.eval y = u) (HM : (sSlice S).R w [u] M fp) (hfp : ∀ b ∈ fp, v.ownBlock ≠ some b)
  (h63 : L.length + M.length ≤ maxLen) (hbytes : (L.length + M.length) * bytes ≤ 140737488355328) (hbase : base ≤ w.heap.size)
  (h : ∀ v' X w', X.map (·.d) = M → (∀ x ∈ X, ∀ b ∈ x.fp, b ∈ fp) → RowN S base e v' (L ++ X) w' → w.grownBy w' v.ownBlock → (v'.ownBlock = v.ownBlock ∨ v'.ownBlock = some w.heap.size) → wpList P ops Q rest (a.put o.dst v') w') : wpList P ops Q (o :: rest) a w :=
 wpList_plain hg fun _ hK => step_append_anyN ti hzs h0 hone w s y ho base v u M fp hs hown hy HM hfp h63 hbytes hbase fun v' X w' q1 q2 h2 h3 h4 => hK _ _ (h v' X w' q1 q2 h2 h3 h4)

end Go.Proofs.Ytghikfggcnabeaa

/- Levels in rows; LevelsActive of the model. -/
namespace Go.Proofs.Ytghikfggcnabeaa
open Go.RowKit

theorem lev_one (w : World) (cs : List Value) (x : DLevel) (fp : List Nat) (h : sLevel.R w cs x fp) : ∀ u ∈ cs, u.oneCell' = true := by
 obtain ⟨rfl, -⟩ := h
 intro u hu
 simp only [List.mem_cons, List.not_mem_nil, or_false] at hu
 rcases hu with rfl | rfl | rfl <;> rfl
theorem lev_at {w : World} {b off n cap : Nat} {l : List DLevel} {fp : List Nat} (H : (sSlice sLevel).R w [.slice (some ⟨b, off, none⟩) n cap] l fp) {j : Nat} (hj : j < l.length) :
  w.cell? ⟨b, off + j * 3, none⟩ = some (.bool l[j].taken) ∧ w.cell? ⟨b, off + j * 3 + 1, none⟩ = some (.bool l[j].done_) ∧ w.cell? ⟨b, off + j * 3 + 2, none⟩ = some (.bool l[j].other) ∧ b < w.heap.size := by
 obtain ⟨a, cap', hv, hc, hm, hrow⟩ := open_rows H
 obtain ⟨b', off', fps, ha, hb, hfp, he⟩ := hrow (by omega)
 simp only [Value.slice.injEq] at hv
 obtain ⟨rfl, rfl, rfl⟩ := hv
 simp only [Option.some.injEq, Addr.mk.injEq, and_true] at ha
 obtain ⟨rfl, rfl⟩ := ha
 obtain ⟨es, hE, hR⟩ := he j hj
 obtain ⟨rfl, -⟩ := hR
 have c0 : w.cell? ⟨b, off + j * 3, none⟩ = some _ := elem_cell0 hE (by decide) rfl
 have c1 : w.cell? ⟨b, off + j * 3 + 1, none⟩ = some _ := elem_cell (j := 1) hE (by decide) rfl
 have c2 : w.cell? ⟨b, off + j * 3 + 2, none⟩ = some _ := elem_cell (j := 2) hE (by decide) rfl
 exact ⟨c0, c1, c2, hb⟩
theorem act_take {l : List DLevel} {k : Nat} (hk : k < l.length) : actL (l.take (k + 1)) = (actL (l.take k) && l[k].taken) := by
 rw [List.take_succ_eq_append_getElem hk, act_app]
theorem act_stop {l : List DLevel} {k : Nat} (hk : k < l.length) (h : l[k].taken = false) : actL l = false := by
 cases e : actL l
 ·rfl
 ·unfold actL at e
  rw [List.all_eq_true] at e
  rw [e _ (List.getElem_mem hk)] at h; cases h

set_option maxHeartbeats 4000000 in
theorem spec_LevelsActive (v : Value) (l : List DLevel) (fp : List Nat) (w : World) (H : (sSlice sLevel).R w [v] l fp) :
  Calls Try.prog 9 #[v] w fun e w' => e = .returned (.bool (actL l)) ∧ w' = w := by
 have H0 := Lib.hid H
 obtain ⟨a, cap, rfl, hc, hm, hrow⟩ := open_rows H
 unfold maxLen at hm
 have HROW : Hid (0 < l.length → ∃ bb ob, a = some ⟨bb, ob, none⟩) := fun h => by obtain ⟨b, o, -, e, -⟩ := hrow h; exact ⟨b, o, e⟩
 clear H hrow
 go_enter Try.func9, Try.ntmps9
 go_wp2
 go_loopw [3] (fun i wr => ∃ k : Nat, k ≤ l.length ∧ i = .int .i64 k ∧ Hid (actL (l.take k) = true) ∧ wr = w) (fun i _ => l.length - (intOf i).toNat)
 case atStart => exact ⟨0, by omega, rfl, rfl, rfl⟩
 case round =>
  obtain ⟨k, hk, rfl, HA, rfl⟩ := hrel
  by_cases hlt : k < l.length
  ·obtain ⟨bb, ob, rfl⟩ := HROW.out (by omega)
   obtain ⟨c0, -, -, -⟩ := lev_at H0.out hlt
   cases ht : l[k].taken
   ·have HF := Lib.hid (act_stop hlt ht)
    rw [ht] at c0
    clear ht
    go_wp2
    go_ret
    exact ⟨by rw [HF.out]; rfl, by trivial⟩
   ·have HF : Hid (actL (l.take (k + 1)) = true) := by show _ = _; rw [act_take hlt, HA.out, ht]; rfl
    rw [ht] at c0
    clear ht
    go_wp2
    go_roundw
    case rel => exact ⟨k + 1, by omega, by go_num, HF, by trivial⟩
    case measure => simp [intOf]; omega
  ·have HF : Hid (actL l = true) := by have := HA.out; rw [List.take_of_length_le (by omega)] at this; exact this
   go_wp2
   go_ret
   exact ⟨by rw [HF.out]; rfl, by trivial⟩

end Go.Proofs.Ytghikfggcnabeaa

/- Tokens and the law's own helpers. -/
namespace Go.Proofs.Ytghikfggcnabeaa
open Go.RowKit
end Go.Proofs.Ytghikfggcnabeaa
