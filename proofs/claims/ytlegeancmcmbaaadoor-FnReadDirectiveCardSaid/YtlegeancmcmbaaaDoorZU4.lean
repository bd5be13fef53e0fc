/- Texts that the proof of U stands on, in one file. -/
import Derived.Test.YtlegeancmcmbaaaDoorZU3
import Derived.Test.YtlegeancmcmbaaaDoorZU2
import Derived.Deep.RegionHeld3
import Derived.Deep.QuietTactic
import Derived.BigQuiet
import Derived.Outline
import Derived.StillTailTactics
import Derived.Test.YtlegeancmcmbaaaDoorZU1
import Derived.OpenVars
import Derived.OpenShut
import Derived.LaidMore
import Derived.Lay
import Derived.ChangeVars
import Derived.Stop.Joined
set_option linter.unusedVariables false
set_option linter.unusedSimpArgs false
/- Values: no program. -/
namespace Go.Proofs.YtlegeancmcmbaaaDoor
open Go.RowKit

def isMk (t : Tok) (s : List UInt8) : Bool := decide (t.kind = 4) && (t.text.toList == s)
def rankT (s : List UInt8) : Nat :=
 if s = [124, 124] then 1 else if s = [38, 38] then 2 else if s = [61, 61] ∨ s = [33, 61] then 3
 else if s = [60] ∨ s = [62] ∨ s = [60, 61] ∨ s = [62, 61] then 4 else if s = [43] ∨ s = [45] then 5 else if s = [42] ∨ s = [47] ∨ s = [37] then 6 else 0
def rankM (t : Tok) : Nat := if t.kind = 4 then rankT t.text.toList else 0
def inR (n : Int) : Bool := decide (-1000000 ≤ n) && decide (n ≤ 1000000)
def bit1 (b : Bool) : Int := if b = true then 1 else 0
def opM (s : List UInt8) (a b : Int) : Int :=
 if s = [43] then a + b else if s = [45] then a - b else if s = [42] then a * b else if s = [47] then a.tdiv b else if s = [37] then a.tmod b
 else if s = [61, 61] then bit1 (decide (a = b)) else if s = [33, 61] then bit1 (decide (a ≠ b)) else if s = [60] then bit1 (decide (a < b)) else if s = [62] then bit1 (decide (b < a))
 else if s = [60, 61] then bit1 (decide (a ≤ b)) else if s = [62, 61] then bit1 (decide (b ≤ a)) else if s = [38, 38] then bit1 (decide (a ≠ 0) && decide (b ≠ 0)) else bit1 (decide (a ≠ 0) || decide (b ≠ 0))
def applyM (s : List UInt8) (a b : Int) : Int × Int :=
 if rankT s = 0 ∨ inR a = false ∨ inR b = false then (0, 1)
 else if (s = [47] ∨ s = [37]) ∧ b = 0 then (0, 2)
 else if inR (opM s a b) = true then (opM s a b, 0) else (0, 3)
def digs (s : List UInt8) : Int := s.foldl (fun n c => 10 * n + ((c.toNat : Int) - 48)) 0
def numRes (s : List UInt8) : Int :=
 if s = [] ∨ 7 < s.length ∨ s.all isDig = false then -1 else if 1000000 < digs s then -1 else digs s

inductive Ask where
 | one (k : Nat)
 | marks (k rank : Nat)
 | more (rank : Nat) (n : Int) (e : Nat) (f : Int)
 | choice (k : Nat)
abbrev VRes := Int × Nat × Int
def mkAt (l : List Tok) (k : Nat) (s : List UInt8) : Bool := if h : k < l.length then isMk l[k] s else false
def pv (l : List Tok) : Nat → Ask → Option VRes
 | 0, _ => none
 |
  d + 1, .one k =>
  if h : k < l.length then
   if isMk l[k] [33] = true then (pv l d (.one (k + 1))).bind fun r => some (bit1 (decide (r.1 = 0)), r.2.1, r.2.2)
   else if isMk l[k] [45] = true then (pv l d (.one (k + 1))).bind fun r => some (-r.1, r.2.1, r.2.2)
   else if isMk l[k] [40] = true then (pv l d (.choice (k + 1))).bind fun r => some (r.1, r.2.1 + 1, if r.2.2 = 0 ∧ mkAt l r.2.1 [41] = false then 1 else r.2.2)
   else if l[k].kind = 1 then some (0, k + 1, 0)
   else if l[k].kind = 2 ∧ 0 ≤ numRes l[k].text.toList then some (numRes l[k].text.toList, k + 1, 0)
   else some (0, k, 1)
  else some (0, k, 1)
 | d + 1, .marks k rank => (pv l d (.one k)).bind fun r => pv l d (.more rank r.1 r.2.1 r.2.2)
 |
  d + 1, .more rank n e f =>
  if h : f = 0 ∧ e < l.length then
   if rankM l[e] < rank then some (n, e, f)
   else (pv l d (.marks (e + 1) (rankM l[e] + 1))).bind fun r =>
    if r.2.2 ≠ 0 then some (0, r.2.1, r.2.2) else pv l d (.more rank (applyM l[e].text.toList n r.1).1 r.2.1 (applyM l[e].text.toList n r.1).2)
  else some (n, e, f)
 |
  d + 1, .choice k => (pv l d (.marks k 1)).bind fun r =>
  if r.2.2 = 0 ∧ mkAt l r.2.1 [63] = true then
   (pv l d (.choice (r.2.1 + 1))).bind fun a =>
    if a.2.2 ≠ 0 then some (0, a.2.1, a.2.2)
    else if mkAt l a.2.1 [58] = true then (pv l d (.choice (a.2.1 + 1))).bind fun b => some (if r.1 ≠ 0 then a.1 else b.1, b.2.1, b.2.2)
    else some (0, a.2.1, 1)
  else some r
end Go.Proofs.YtlegeancmcmbaaaDoor

/- Printing tokens: no program. -/
namespace Go.Proofs.YtlegeancmcmbaaaDoor
open Go.RowKit

theorem ext_get (s : ByteArray) (i j k : Nat) (h : k < (s.extract i j).size) : (s.extract i j)[k] = s[i + k]'(by rw [ByteArray.size_extract] at h; omega) := by
 rw [ByteArray.getElem_extract]

def Headed (t : Tok) : Prop := ∃ h : 0 < t.text.size, t.kind = cutKind t.text[0]
theorem toks_head (s : ByteArray) : ∀ (k : Nat) (sp : Bool) (n : Nat) (l : List Tok), toks s k sp n = some l → ∀ t ∈ l, Headed t := by
 intro k sp n
 induction k, sp, n using toks.induct (s := s) with
 |
  case1 k sp n hk h32 ih =>
  intro l h
  rw [toks, dif_pos hk, if_pos h32] at h
  exact ih l h
 |
  case2 k sp n hk h32 hb =>
  intro l h
  rw [toks, dif_pos hk, if_neg h32, if_pos hb] at h
  exact absurd h (by simp)
 |
  case3 k sp n hk h32 hb ih =>
  intro l h t ht
  rw [toks, dif_pos hk, if_neg h32, if_neg hb] at h
  have hr := cutEnd_room (s := s) (k := k) (by omega)
  rw [Option.map_eq_some_iff] at h
  obtain ⟨l', h1, rfl⟩ := h
  rcases List.mem_cons.1 ht with rfl | ht
  ·have hz : 0 < (s.extract k (cutEnd s k).toNat).size := by rw [ByteArray.size_extract]; omega
   refine ⟨hz, ?_⟩
   show cutKind s[k] = cutKind (s.extract k (cutEnd s k).toNat)[0]
   rw [ext_get]; rfl
  ·exact ih l' h1 t ht
 |
  case4 k sp n hk =>
  intro l h
  rw [toks, dif_neg hk] at h
  simp only [Option.some.injEq] at h
  subst h; simp
theorem tokRes_head (s : ByteArray) : ∀ t ∈ (tokRes s).1, Headed t := by
 rcases hr : tokRes s with ⟨l, ok⟩
 cases ok
 ·obtain rfl := tokRes_false hr
  simp
 ·exact toks_head s 0 false 0 l (tokRes_true hr).1
theorem oneTok_res {x : ByteArray} {k : Int} (h : oneTok x k = true) : ∃ t, tokRes x = ([t], true) ∧ t.kind = k ∧ t.text = x := by
 rcases one_ways x k with ⟨_, HG⟩ | ⟨l, _, _, HG⟩ | ⟨t', _, _, HG⟩ | ⟨t', _, _, _, HG⟩ | ⟨t', hr, hk, hx, _, _⟩
 ·exact absurd (HG.out.symm.trans h) (by simp)
 ·exact absurd (HG.out.symm.trans h) (by simp)
 ·exact absurd (HG.out.symm.trans h) (by simp)
 ·exact absurd (HG.out.symm.trans h) (by simp)
 ·exact ⟨t', hr, hk, hx⟩
theorem tokOk_facts {t : Tok} (h : tokOk t = true) : Headed t ∧ t.text.size ≤ 200 := by
 unfold tokOk at h
 rw [Bool.and_eq_true] at h
 obtain ⟨u, hr, hk, hx⟩ := oneTok_res h.1
 have h1 := tokRes_head t.text u (by rw [hr]; simp)
 have h2 := lineOk_size (tokRes_true hr).2
 refine ⟨?_, h2⟩
 obtain ⟨a, b⟩ := h1
 obtain ⟨k, x, s, hd⟩ := t
 subst hx
 exact ⟨a, (show k = u.kind from hk.symm).trans b⟩

theorem toksOk_facts {l : List Tok} (h : toksOk l = true) : l.length ≤ 60 ∧ ∀ k, (hk : k < l.length) → tokOk l[k] = true := by
 unfold toksOk at h
 rw [Bool.and_eq_true, decide_eq_true_eq, List.all_eq_true] at h
 exact ⟨h.1, fun k hk => h.2 _ (List.getElem_mem hk)⟩
end Go.Proofs.YtlegeancmcmbaaaDoor

/- Tokens and the law's own helpers. -/
namespace Go.Proofs.YtlegeancmcmbaaaDoor
open Go.RowKit

def mkToken (k : Int) (x : Tok) : Tok := ⟨k, mtext (k + 1), (k + 1 + 1) % 3 == 0, marks mtext (k + 1 + 1 + 1) x.hidden.length⟩
def cntToken (x : Tok) : Nat := 3 + x.hidden.length
def mkTokenS (k : Int) (l : List Tok) : List Tok := mkAll mkToken cntToken k l
def cntTokenS (l : List Tok) : Nat := cntAll cntToken l

set_option maxHeartbeats 1000000 in
theorem eqToken_same (cs1 cs2 : List Value) (x : Tok) (fp1 fp2 : List Nat) (w : World) (H1 : sTok.R w cs1 x fp1) (H2 : sTok.R w cs2 x fp2) :
  Calls Tryd.prog 48 #[.agg cs1.toArray, .agg cs2.toArray] w fun e w' => e = .returned (.bool true) ∧ Below w.heap.size w w' := by
 obtain ⟨h1, rfl, _, _, K1⟩ := H1
 obtain ⟨h2, rfl, _, _, K2⟩ := H2
 have b0 := alloc_below' w (.cells #[.int .i64 x.kind, .string x.text, .bool x.spaced, h1] 47)
 have b1 := b0.trans ((alloc_below' (w.alloc (.cells #[.int .i64 x.kind, .string x.text, .bool x.spaced, h1] 47)) (.cells #[.int .i64 x.kind, .string x.text, .bool x.spaced, h2] 47)).mono b0.size)
 have HC : Hid (∀ W, Below w.heap.size w W → Calls Tryd.prog 72 #[h1, h2] W fun e w' => e = .returned (.bool true) ∧ Below W.heap.size W w') := fun W hb => eqStringS_same h1 h2 x.hidden fp1 fp2 W ((sSlice sStr).below K1 hb) ((sSlice sStr).below K2 hb)
 have e1 : (x.kind != x.kind) = false := by simp
 have e2 := bytes_beq (rfl : x.text = x.text)
 have e3 : (x.spaced != x.spaced) = false := by simp
 go_enter Tryd.func48, Tryd.ntmps48
 go_wp2_with (go_at_call 72; refine (HC.out _ b1).mono ?_; rintro e w1 ⟨rfl, hb1⟩)
 go_ret
 exact ⟨rfl, b1.trans (hb1.mono b1.size)⟩

set_option maxHeartbeats 4000000 in
set_option maxRecDepth 100000 in
theorem eqTokenS_same (v1 v2 : Value) (l : List Tok) (fp1 fp2 : List Nat) (w : World) (H1 : (sSlice sTok).R w [v1] l fp1) (H2 : (sSlice sTok).R w [v2] l fp2) :
  Calls Tryd.prog 22 #[v1, v2] w fun e w' => e = .returned (.bool true) ∧ Below w.heap.size w w' := by
 obtain ⟨a1, cap1, rfl, hc1, hm1, hrow1⟩ := open_rows H1
 obtain ⟨a2, cap2, rfl, hc2, hm2, hrow2⟩ := open_rows H2
 unfold maxLen at hm1 hm2
 have hnb : ((l.length : Int) != (l.length : Int)) = false := by simp
 go_enter Tryd.func22, Tryd.ntmps22
 go_wp2
 go_loopw [5] (fun i wr => ∃ k : Nat, k ≤ l.length ∧ i = .int .i64 k ∧ Below w.heap.size w wr) (fun i _ => l.length - (intOf i).toNat)
 case atStart => exact ⟨0, by omega, rfl, Below.refl _ _⟩
 case round =>
  obtain ⟨k, hk, rfl, hb⟩ := hrel
  by_cases hlt : k < l.length
  ·obtain ⟨b1, off1, fps1, rfl, hb1, rfl, he1⟩ := hrow1 (by omega)
   obtain ⟨b2, off2, fps2, rfl, hb2, rfl, he2⟩ := hrow2 (by omega)
   obtain ⟨es1, hE1, hR1⟩ := he1 k hlt
   obtain ⟨es2, hE2, hR2⟩ := he2 k hlt
   clear hrow1 hrow2 he1 he2 H1 H2
   have hR1' := hR1
   have hR2' := hR2
   obtain ⟨h1, rfl, _, _, K1⟩ := hR1'
   obtain ⟨h2, rfl, _, _, K2⟩ := hR2'
   have hE1' := hE1.frame (hb.block b1 hb1)
   have hE2' := hE2.frame (hb.block b2 hb2)
   have HC : Hid (∀ W, Below wr.heap.size wr W → Calls Tryd.prog 48 #[.agg #[.int .i64 l[k].kind, .string l[k].text, .bool l[k].spaced, h1], .agg #[.int .i64 l[k].kind, .string l[k].text, .bool l[k].spaced, h2]] W fun e w' => e = .returned (.bool true) ∧ Below W.heap.size W w') := fun W hW => eqToken_same _ _ l[k] _ _ W (sTok.below (sTok.below hR1 hb) hW) (sTok.below (sTok.below hR2 hb) hW)
   have c10 : wr.cell? ⟨b1, off1 + k * 4, none⟩ = some _ := elem_cell0 hE1' (by decide) rfl
   have c11 : wr.cell? ⟨b1, off1 + k * 4 + 1, none⟩ = some _ := elem_cell (j := 1) hE1' (by decide) rfl
   have c12 : wr.cell? ⟨b1, off1 + k * 4 + 2, none⟩ = some _ := elem_cell (j := 2) hE1' (by decide) rfl
   have c13 : wr.cell? ⟨b1, off1 + k * 4 + 3, none⟩ = some _ := elem_cell (j := 3) hE1' (by decide) rfl
   have c20 : wr.cell? ⟨b2, off2 + k * 4, none⟩ = some _ := elem_cell0 hE2' (by decide) rfl
   have c21 : wr.cell? ⟨b2, off2 + k * 4 + 1, none⟩ = some _ := elem_cell (j := 1) hE2' (by decide) rfl
   have c22 : wr.cell? ⟨b2, off2 + k * 4 + 2, none⟩ = some _ := elem_cell (j := 2) hE2' (by decide) rfl
   have c23 : wr.cell? ⟨b2, off2 + k * 4 + 3, none⟩ = some _ := elem_cell (j := 3) hE2' (by decide) rfl
   go_wp2_with fail
   go_still_tail 8, (by kernel_rfl)
   change wpList _ _ _ _ _ wr.drew
   have hd : Below wr.heap.size wr wr.drew := belowN (Below.refl _ _) 1
   generalize wr.drew = w2 at *
   go_wp2_with (go_at_call 48; refine (HC.out _ hd).mono ?_; rintro e w3 ⟨rfl, hb3⟩)
   go_roundw
   case rel => exact ⟨k + 1, by omega, by go_num, (hb.trans (hd.mono hb.size)).trans (hb3.mono (Nat.le_trans hb.size hd.size))⟩
   case measure => simp [intOf]; omega
  ·go_wp2
   go_ret
   exact ⟨rfl, hb⟩

set_option maxHeartbeats 4000000 in
set_option maxRecDepth 100000 in
theorem markTokenS (v : Value) (l : List Tok) (fp : List Nat) (lo : Nat) (k : Int) (w : World) (h0 : 0 ≤ k) (h1 : k + cntTokenS l ≤ 2305843009213693952) (H : (sSlice sTok).R w [v] l fp) (O : Own w lo fp) :
  Calls Tryd.prog 23 #[v, .int .i64 k] w (Marked (sSlice sTok) v (mkTokenS k l) fp lo (k + cntTokenS l) w) := by
 have HI := Lib.hid H
 obtain ⟨a, cap, rfl, hc, hm, hrow0⟩ := open_rows H
 have hm' := hm
 unfold maxLen at hm
 clear H hrow0
 go_enter Tryd.func23, Tryd.ntmps23
 go_wp2
 go_loopw [1, 5] (fun t i wr => ∃ (j : Nat) (L : List Tok) (kk : Int), j ≤ l.length ∧ i = .int .i64 j ∧ t = .int .i64 kk ∧ Hid (kk = k + cntAll cntToken (l.take j)) ∧ Hid (MkUpto mkToken cntToken k l j L) ∧ Hid ((sSlice sTok).R wr [.slice a l.length cap] L fp) ∧ Own wr lo fp ∧ Kept fp w wr) (fun _ i _ => l.length - (intOf i).toNat)
 case atStart => exact ⟨0, l, k, by omega, rfl, rfl, by show _ = _; simp [cntAll], MkUpto.zero _ _, HI.out, O, Kept.refl _ _⟩
 case round =>
  obtain ⟨j, L, kk, hj, rfl, rfl, HKK, HM, HR, HO, HK⟩ := hrel
  by_cases hlt : j < l.length
  ·obtain ⟨a', cap', hv, hc', hm'', hrow⟩ := open_rows HR.out
   have hLl := HM.out.len
   obtain ⟨b, off, fps, hab, hb, hfp, he⟩ := hrow (by omega)
   simp only [Value.slice.injEq] at hv
   obtain ⟨rfl, hv2, rfl⟩ := hv
   subst hab
   clear hv2
   rw [hLl] at hfp
   subst hfp
   obtain ⟨es, hE, hR⟩ := he j (by omega)
   rw [HM.out.at hlt] at hR
   have hle := cntAll_le (c := cntToken) l (j + 1)
   rw [cntAll_take hlt] at hle
   have hKb : (0 : Int) ≤ kk ∧ kk + 3 + l[j].hidden.length ≤ 2305843009213693952 := by
    have := HKK.out
    unfold cntTokenS at h1
    have hc3 : cntToken l[j] = 3 + l[j].hidden.length := rfl
    omega
   obtain ⟨hk0, hk1⟩ := hKb
   have HX := Lib.hid (HM.out.succ hlt)
   have HXK : Hid (kk + 3 + l[j].hidden.length = k + cntAll cntToken (l.take (j + 1))) := by
    show _ = _
    rw [cntAll_take hlt]
    have := HKK.out
    have hc3 : cntToken l[j] = 3 + l[j].hidden.length := rfl
    omega
   rw [← HKK.out] at HX
   obtain ⟨h3, rfl, _, _, K3⟩ := hR
   have hnd := HO.1
   have hap := flat_apart hnd hlt
   have hbm : b ∈ b :: (List.range l.length).flatMap fps := by simp
   have Hrow : Hid (∀ (w' : World) (d : Tok) (es' : List Value), Turned b (off + j * sTok.m) (off + j * sTok.m + sTok.m) (fps j) wr w' → ElemAt w' b off sTok.m j es' → sTok.R w' es' d (fps j) → (sSlice sTok).R w' [.slice (some ⟨b, off, none⟩) l.length cap] (L.set j d) (b :: (List.range l.length).flatMap fps)) :=
    fun w' d es' hT h1 h2 => row_turned hLl hc hm' hb he hlt hnd hT h1 h2
   clear he hrow hc' hm'' hle h1 hLl
   have hm4 : sTok.m = 4 := rfl
   rw [hm4] at hE
   have HW0 := Lib.hid (Wr.start (fpj := fps j) hE HO hb hbm hap.1)
   have c0 := HW0.out.cell0 (by decide) rfl
   have f0 := HW0.out.frozen (off + j * 4)
   go_wp2_with fail
   refine (markText _ _ (by omega)).mono ?_
   rintro e W2 ⟨rfl, hb2⟩
   have HW1 := Lib.hid ((HW0.out.set0 (by decide) (.int .i64 kk)).below hb2)
   have K31 := (sSlice sStr).below ((sSlice sStr).setB K3 hap.1 (off + j * 4) (.int .i64 kk)) hb2
   have c1 := HW1.out.cell 1 (by decide) rfl
   have f1 := HW1.out.frozen (off + j * 4 + 1)
   have HW2 := Lib.hid (HW1.out.set 1 (by decide) (.string (mtext (kk + 1))))
   have K32 := (sSlice sStr).setB K31 hap.1 (off + j * 4 + 1) (.string (mtext (kk + 1)))
   have c2 := HW2.out.cell 2 (by decide) rfl
   have f2 := HW2.out.frozen (off + j * 4 + 2)
   have HW3 := Lib.hid (HW2.out.set 2 (by decide) (.bool ((kk + 1 + 1) % 3 == 0)))
   have K33 := (sSlice sStr).setB K32 hap.1 (off + j * 4 + 2) (.bool ((kk + 1 + 1) % 3 == 0))
   have c3 := HW3.out.cell 3 (by decide) rfl
   have HN3 := Lib.hid (HW3.out.o.sub (flat_nodup hnd hlt) (flat_sub hlt))
   have HOK : Hid (okInt kk ∧ okStr (mtext (kk + 1))) := ⟨⟨by omega, by omega⟩, mtext_size (by omega)⟩
   clear c0 f0 hE hb2 K31 K32 HW1 HW0
   go_wp2_with fail
   refine (markStringS _ _ _ lo _ _ (by omega) (by omega) K33 HN3.out).mono ?_
   rintro e W5 ⟨rfl, R5, O5, hk5⟩
   have HW5 := Lib.hid (HW3.out.sub hk5 O5 (fun x hx => hx))
   clear hk5 c3 f1 f2 c1 c2 HW3 HW2 K33 HN3
   have HR5 := Lib.hid (Hrow.out W5 (mkToken kk l[j]) _ HW5.out.t HW5.out.e ⟨h3, rfl, HOK.out.1, HOK.out.2, R5⟩)
   have HK5 := Lib.hid (HK.trans (HW5.out.t.keptAll hlt))
   have HO5 := Lib.hid HW5.out.o
   have hk2 : kk + 1 + 1 + 1 + (l[j].hidden.length : Int) = kk + 3 + l[j].hidden.length := by omega
   clear Hrow HW5 R5 O5 HR HO HK hnd hap hb
   go_wp2
   go_roundw
   case rel => exact ⟨j + 1, _, _, by omega, by go_num, rfl, by show _ = _; have := HXK.out; omega, HX, HR5, HO5.out, HK5.out⟩
   case measure => simp [intOf]; omega
  ·have HD := HM.out.done (by omega)
   have hjl : l.take j = l := List.take_of_length_le (by omega)
   have HKD := HKK.out
   rw [hjl] at HKD
   have HF := Lib.hid HKD
   have HRD := HR.out
   rw [HD] at HRD
   have HRF := Lib.hid HRD
   clear hjl HKD HRD HR HM HKK HD
   go_wp2
   go_ret
   exact ⟨by rw [HF.out]; rfl, HRF.out, HO, HK⟩

set_option maxHeartbeats 4000000 in
set_option maxRecDepth 100000 in
theorem heldTokenS (v : Value) (l : List Tok) (fp : List Nat) (k : Int) (w : World) (h0 : 0 ≤ k) (h1 : k + cntTokenS l ≤ 2305843009213693952) (H : (sSlice sTok).R w [v] (mkTokenS k l) fp) :
  Calls Tryd.prog 51 #[v, .int .i64 k] w fun e w' => e = .returned (.int .i64 (k + cntTokenS l)) ∧ Below w.heap.size w w' := by
 obtain ⟨a, cap, rfl, hc, hm, hrow⟩ := open_rows H
 have hml : (mkTokenS k l).length = l.length := mkAll_len _ _
 rw [hml] at hc ⊢
 unfold maxLen at hm
 have Hrow : Hid (∀ j, (hj : j < l.length) → ∃ b off fps h, a = some ⟨b, off, none⟩ ∧ b < w.heap.size ∧ ElemAt w b off 4 j [.int .i64 (k + cntAll cntToken (l.take j)), .string (mtext (k + cntAll cntToken (l.take j) + 1)), .bool ((k + cntAll cntToken (l.take j) + 1 + 1) % 3 == 0), h] ∧ (sSlice sStr).R w [h] (marks mtext (k + cntAll cntToken (l.take j) + 1 + 1 + 1) l[j].hidden.length) fps) := by
  intro j hj
  obtain ⟨b, off, fps, hab, hb, _, he⟩ := hrow (by omega)
  obtain ⟨es, hE, hR⟩ := he j (by rw [hml]; exact hj)
  have hg : (mkTokenS k l)[j]'(by rw [hml]; exact hj) = mkToken (k + cntAll cntToken (l.take j)) l[j] := mkAll_get k j hj
  rw [hg] at hR
  obtain ⟨h, rfl, _, _, K⟩ := hR
  exact ⟨b, off, fps j, h, hab, hb, hE, K⟩
 clear H hrow hml
 go_enter Tryd.func51, Tryd.ntmps51
 go_wp2
 go_loopw [1, 5] (fun t i wr => ∃ (j : Nat) (kk : Int), j ≤ l.length ∧ i = .int .i64 j ∧ t = .int .i64 kk ∧ Hid (kk = k + cntAll cntToken (l.take j)) ∧ Below w.heap.size w wr) (fun _ i _ => l.length - (intOf i).toNat)
 case atStart => exact ⟨0, k, by omega, rfl, rfl, by show _ = _; simp [cntAll], Below.refl _ _⟩
 case round =>
  obtain ⟨j, kk, hj, rfl, rfl, HKK, hbel⟩ := hrel
  by_cases hlt : j < l.length
  ·obtain ⟨b, off, fpj, h, rfl, hb, hE, K⟩ := Hrow.out j hlt
   have hle := cntAll_le (c := cntToken) l (j + 1)
   rw [cntAll_take hlt] at hle
   have hKb : (0 : Int) ≤ kk ∧ kk + 3 + l[j].hidden.length ≤ 2305843009213693952 := by
    have := HKK.out
    unfold cntTokenS at h1
    have hc3 : cntToken l[j] = 3 + l[j].hidden.length := rfl
    omega
   obtain ⟨hk0, hk1⟩ := hKb
   have HXK : Hid (kk + 3 + l[j].hidden.length = k + cntAll cntToken (l.take (j + 1))) := by
    show _ = _
    rw [cntAll_take hlt]
    have := HKK.out
    have hc3 : cntToken l[j] = 3 + l[j].hidden.length := rfl
    omega
   rw [← HKK.out] at hE K
   replace hE := hE.frame (hbel.block b hb)
   replace K := (sSlice sStr).below K hbel
   have hbr : b < wr.heap.size := Nat.lt_of_lt_of_le hb hbel.size
   have c0 : wr.cell? ⟨b, off + j * 4, none⟩ = some _ := elem_cell0 hE (by decide) rfl
   have c1 : wr.cell? ⟨b, off + j * 4 + 1, none⟩ = some _ := elem_cell hE (by decide) rfl
   have c2 : wr.cell? ⟨b, off + j * 4 + 2, none⟩ = some _ := elem_cell hE (by decide) rfl
   have c3 : wr.cell? ⟨b, off + j * 4 + 3, none⟩ = some _ := elem_cell hE (by decide) rfl
   have e0 : (kk != kk) = false := by simp
   have e1 := bytes_beq (rfl : mtext (kk + 1) = mtext (kk + 1))
   have e2 : (((kk + 1 + 1) % 3 == 0) != ((kk + 1 + 1) % 3 == 0)) = false := by simp
   clear Hrow h1 hle
   go_wp2_with fail
   go_region_held3 (fun w' => w'.cell? ⟨b, off + j * 4 + 1, none⟩ = some (.string (mtext (kk + 1))))
    (first | go_keep | ((rw [hb2.cell (p := ⟨b, off + j * 4 + 1, none⟩) (by simp; omega)]; assumption)))
    (first | (go_at_call 49; refine (markText _ _ (by omega)).mono ?_; rintro e w2 ⟨rfl, hb2⟩))
   have hbw := hbel.drew.trans (hb2.mono hbel.size)
   have c2' : w2.cell? ⟨b, off + j * 4 + 2, none⟩ = some _ := (hb2.cell (p := ⟨b, off + j * 4 + 2, none⟩) (by simp; omega)).trans c2
   have c3' : w2.cell? ⟨b, off + j * 4 + 3, none⟩ = some _ := (hb2.cell (p := ⟨b, off + j * 4 + 3, none⟩) (by simp; omega)).trans c3
   have K2 := (sSlice sStr).below ((sSlice sStr).frame (w' := wr.drew) (fun _ _ => rfl) K) hb2
   clear c0 c1 c2 c3 K hE hb2
   go_wp2_with (go_at_call 73; refine (heldStringS _ _ _ _ _ (by omega) (by omega) K2).mono ?_; rintro e w3 ⟨rfl, hb3⟩)
   go_roundw
   case rel => exact ⟨j + 1, _, by omega, by go_num, rfl, by show _ = _; have := HXK.out; omega, hbw.trans (hb3.mono hbw.size)⟩
   case measure => simp [intOf]; omega
  ·have hjl : l.take j = l := List.take_of_length_le (by omega)
   have HKD := HKK.out
   rw [hjl] at HKD
   have HF := Lib.hid HKD
   clear hjl HKD HKK
   go_wp2
   go_ret
   exact ⟨by rw [HF.out]; rfl, hbel⟩

end Go.Proofs.YtlegeancmcmbaaaDoor

/- How many tokens there are: no program. -/
namespace Go.Proofs.YtlegeancmcmbaaaDoor
open Go.RowKit

theorem toks_all (s : ByteArray) : ∀ (k : Nat) (sp : Bool) (n : Nat) (l : List Tok), toks s k sp n = some l → n ≤ 60 → n + l.length ≤ 60 ∧ ∀ t ∈ l, t.hidden = [] := by
 intro k sp n
 induction k, sp, n using toks.induct (s := s) with
 |
  case1 k sp n hk h32 ih =>
  intro l h hn
  rw [toks, dif_pos hk, if_pos h32] at h
  exact ih l h hn
 |
  case2 k sp n hk h32 hb =>
  intro l h hn
  rw [toks, dif_pos hk, if_neg h32, if_pos hb] at h
  exact absurd h (by simp)
 |
  case3 k sp n hk h32 hb ih =>
  intro l h hn
  rw [toks, dif_pos hk, if_neg h32, if_neg hb] at h
  rw [Option.map_eq_some_iff] at h
  obtain ⟨l', h1, rfl⟩ := h
  obtain ⟨a, b⟩ := ih l' h1 (by omega)
  refine ⟨by simp only [List.length_cons]; omega, fun t ht => ?_⟩
  rcases List.mem_cons.1 ht with rfl | ht
  ·rfl
  ·exact b t ht
 |
  case4 k sp n hk =>
  intro l h hn
  rw [toks, dif_neg hk] at h
  simp only [Option.some.injEq] at h
  subst h; simp; exact hn
theorem tokRes_all (s : ByteArray) : (tokRes s).1.length ≤ 60 ∧ ∀ t ∈ (tokRes s).1, t.hidden = [] := by
 rcases hr : tokRes s with ⟨l, ok⟩
 cases ok
 ·obtain rfl := tokRes_false hr
  simp
 ·obtain ⟨h1, _⟩ := tokRes_true hr
  have := toks_all s 0 false 0 l h1 (by omega)
  exact ⟨by simpa using this.1, this.2⟩
end Go.Proofs.YtlegeancmcmbaaaDoor

/- What is printed is read again; tokens of a line are valid: no program. -/
namespace Go.Proofs.YtlegeancmcmbaaaDoor
open Go.RowKit

def bAt (s : ByteArray) (j : Nat) : Option UInt8 := if h : j < s.size then some s[j] else none
theorem bAt_lt {s : ByteArray} {j : Nat} (h : j < s.size) : bAt s j = some s[j] := by unfold bAt; rw [dif_pos h]
theorem bAt_ge {s : ByteArray} {j : Nat} (h : s.size ≤ j) : bAt s j = none := by unfold bAt; rw [dif_neg (by omega)]
theorem bAt_some {s : ByteArray} {j : Nat} {c : UInt8} (h : bAt s j = some c) : ∃ hj : j < s.size, s[j] = c := by
 by_cases hj : j < s.size
 ·rw [bAt_lt hj, Option.some.injEq] at h; exact ⟨hj, h⟩
 ·rw [bAt_ge (by omega)] at h; exact absurd h (by simp)
theorem bAt_left {s t : ByteArray} {j : Nat} (h : j < s.size) : bAt (s ++ t) j = bAt s j := by
 rw [bAt_lt (by rw [ByteArray.size_append]; omega), bAt_lt h, ByteArray.getElem_append_left h]
theorem bAt_right {s t : ByteArray} {i j : Nat} (h : i = s.size + j) : bAt (s ++ t) i = bAt t j := by
 subst h
 by_cases hj : j < t.size
 ·rw [bAt_lt (by rw [ByteArray.size_append]; omega), bAt_lt hj, ByteArray.getElem_append_right (by omega)]
  congr 2; omega
 ·rw [bAt_ge (by rw [ByteArray.size_append]; omega), bAt_ge (by omega)]
theorem bAt_ext {a b : ByteArray} (h : a.size = b.size) (h2 : ∀ j, j < a.size → bAt a j = bAt b j) : a = b := by
 apply ByteArray.ext
 apply Array.ext (by exact h)
 intro i h1 h3
 have h1' : i < a.size := h1
 have := h2 i h1'
 rw [bAt_lt h1', bAt_lt (h ▸ h1'), Option.some.injEq] at this
 simpa [ByteArray.getElem_eq_getElem_data] using this
theorem bAt_sub {s : ByteArray} {i e j : Nat} (he : e ≤ s.size) (h : j < e - i) : bAt (s.extract i e) j = bAt s (i + j) := by
 have hz : (s.extract i e).size = e - i := by rw [ByteArray.size_extract]; omega
 rw [bAt_lt (by omega), bAt_lt (by omega), ext_get]

def stopB (c : UInt8) : Bool := !isWord c && decide (c ≠ 61) && decide (c ≠ 38) && decide (c ≠ 124) && decide (c ≠ 35)
theorem stopB_word {c : UInt8} (h : stopB c = true) : isWord c = false := by
 unfold stopB at h
 simp only [Bool.and_eq_true] at h
 simpa using h.1.1.1.1
def Ends (s' : ByteArray) (k' : Nat) (s : ByteArray) (k : Nat) : Prop := bAt s' k' = bAt s k ∨ ∀ c, bAt s' k' = some c → stopB c = true
theorem ends_space {s' : ByteArray} {k' : Nat} {s : ByteArray} {k : Nat} (h : bAt s' k' = some 32) : Ends s' k' s k := .inr fun c hc => by
 rw [h, Option.some.injEq] at hc; subst hc; decide
theorem ends_none {s' : ByteArray} {k' : Nat} {s : ByteArray} {k : Nat} (h : bAt s' k' = none) : Ends s' k' s k := .inr fun c hc => by
 rw [h] at hc; exact absurd hc (by simp)
theorem wEnd_same {s s' : ByteArray} : ∀ (d k k' : Nat), wEnd s k = k + d → (∀ j, j < d → bAt s' (k' + j) = bAt s (k + j)) → Ends s' (k' + d) s (k + d) → wEnd s' k' = k' + d
 |
  0, k, k', h, _, hE => by
  have hstop : ∀ c, bAt s k = some c → isWord c = false := fun c hc => by
   obtain ⟨hk, rfl⟩ := bAt_some hc
   cases hw : isWord s[k]
   ·rfl
   ·rw [wEnd_in hk hw] at h
    have := (wEnd_bounds s (k + 1)).1
    omega
  by_cases hk' : k' < s'.size
  ·rcases hE with h1 | h1
   ·rw [Nat.add_zero, Nat.add_zero, bAt_lt hk'] at h1
    exact wEnd_stop hk' (hstop _ h1.symm)
   ·exact wEnd_stop hk' (stopB_word (h1 _ (bAt_lt hk')))
  ·exact wEnd_out (by omega)
 |
  d + 1, k, k', h, hb, hE => by
  have hk : k < s.size := by
   apply Nat.lt_of_not_le; intro hn
   rw [wEnd_out hn] at h; omega
  have hw : isWord s[k] = true := by
   cases hw : isWord s[k]
   ·rw [wEnd_stop hk hw] at h; omega
   ·rfl
  rw [wEnd_in hk hw] at h
  have h0 := hb 0 (by omega)
  rw [Nat.add_zero, Nat.add_zero, bAt_lt hk] at h0
  obtain ⟨hk', he⟩ := bAt_some h0
  rw [wEnd_in hk' (by rw [he]; exact hw)]
  have e1 : k' + (d + 1) = k' + 1 + d := by omega
  have e2 : k + (d + 1) = k + 1 + d := by omega
  rw [e1]
  refine wEnd_same (s := s) (s' := s') d (k + 1) (k' + 1) (by omega) (fun j hj => ?_) (by rw [← e1, ← e2]; exact hE)
  have := hb (j + 1) (by omega)
  rwa [show k' + (j + 1) = k' + 1 + j by omega, show k + (j + 1) = k + 1 + j by omega] at this
theorem tClose_same {s s' : ByteArray} (d : Nat) : ∀ (k k' : Nat), tClose s k = some (k + d) → (∀ j, j < d → bAt s' (k' + j) = bAt s (k + j)) → tClose s' k' = some (k' + d) := by
 induction d using Nat.strongRecOn with
 |
  ind d ih =>
  intro k k' h hb
  have hs := tClose_some h
  have hk : k < s.size := by omega
  have h0 := hb 0 (by omega)
  rw [Nat.add_zero, Nat.add_zero, bAt_lt hk] at h0
  obtain ⟨hk', he⟩ := bAt_some h0
  by_cases h34 : s[k].toNat = 34
  ·rw [tClose_quote hk h34, Option.some.injEq] at h
   rw [tClose_quote hk' (by rw [he]; exact h34)]
   congr 1; omega
  ·by_cases h92 : s[k].toNat = 92
   ·rw [tClose_back hk h92] at h
    have hs2 := tClose_some h
    rw [tClose_back hk' (by rw [he]; exact h92)]
    have := ih (d - 2) (by omega) (k + 2) (k' + 2) (by rw [h]; congr 1; omega) (fun j hj => by
     have := hb (j + 2) (by omega)
     rwa [show k' + (j + 2) = k' + 2 + j by omega, show k + (j + 2) = k + 2 + j by omega] at this)
    rw [this]; congr 1; omega
   ·rw [tClose_else hk h34 h92] at h
    have hs2 := tClose_some h
    rw [tClose_else hk' (by rw [he]; exact h34) (by rw [he]; exact h92)]
    have := ih (d - 1) (by omega) (k + 1) (k' + 1) (by rw [h]; congr 1; omega) (fun j hj => by
     have := hb (j + 1) (by omega)
     rwa [show k' + (j + 1) = k' + 1 + j by omega, show k + (j + 1) = k + 1 + j by omega] at this)
    rw [this]; congr 1; omega
theorem two_bAt (s : ByteArray) (k : Nat) (a b : UInt8) : two s k a b = (decide (bAt s k = some a) && decide (bAt s (k + 1) = some b)) := by
 have hd : ∀ j, s.data.toList[j]? = bAt s j := fun j => by
  by_cases hj : j < s.size
  ·rw [bAt_lt hj, List.getElem?_eq_getElem (by simpa using hj)]; simp [ByteArray.getElem_eq_getElem_data]
  ·rw [bAt_ge (by omega), List.getElem?_eq_none (by simpa using hj)]
 have hx : ∀ L : List UInt8, [a, b].isPrefixOf L = (decide (L[0]? = some a) && decide (L[1]? = some b)) := fun L => by
  match L with
  | [] => simp [List.isPrefixOf]
  | [x] => simp [List.isPrefixOf]
  |
   x :: y :: L =>
   have e : ∀ u v : UInt8, (u == v) = decide (v = u) := fun u v => by
    by_cases h : v = u
    ·subst h; simp
    ·have h' : ¬ u = v := fun e => h e.symm
     simp [h, h']
   simp [List.isPrefixOf, e]
 unfold two
 rw [hx, List.getElem?_drop, List.getElem?_drop, hd, hd, Nat.add_zero]
theorem twoAt_same {s s' : ByteArray} {k k' : Nat} (h0 : bAt s' k' = bAt s k) (h1 : bAt s' (k' + 1) = bAt s (k + 1)) : twoAt s' k' = twoAt s k := by
 unfold twoAt; simp only [two_bAt, h0, h1]
theorem twoAt_no {s : ByteArray} {k : Nat} (h : ∀ c, bAt s (k + 1) = some c → stopB c = true) : twoAt s k = false := by
 unfold twoAt; simp only [two_bAt]
 cases hb : bAt s (k + 1) with
 | none => simp
 |
  some c =>
  have := h c hb
  unfold stopB at this
  simp only [Bool.and_eq_true, decide_eq_true_eq] at this
  obtain ⟨⟨⟨⟨_, h1⟩, h2⟩, h3⟩, h4⟩ := this
  simp [h1, h2, h3, h4]
theorem mLen_same {s s' : ByteArray} {k k' d : Nat} (h : mLen s k = d) (h0 : d ≠ 0) (hb : ∀ j, j < d → bAt s' (k' + j) = bAt s (k + j)) (hE : Ends s' (k' + d) s (k + d)) : mLen s' k' = d := by
 have b0 := hb 0 (by omega)
 rw [Nat.add_zero, Nat.add_zero] at b0
 cases ht : twoAt s k
 ·have hk : k < s.size := by
   apply Nat.lt_of_not_le; intro hn
   unfold mLen at h; rw [if_neg (by simp [ht]), dif_neg (by omega)] at h; omega
  unfold mLen at h
  rw [if_neg (by simp [ht]), dif_pos hk] at h
  have hm : s[k] ∈ marks1 := by
   apply Classical.byContradiction; intro hn
   rw [if_neg hn] at h; omega
  rw [if_pos hm] at h
  subst h
  have ht' : twoAt s' k' = false := by
   rcases hE with h1 | h1
   ·rw [twoAt_same b0 h1, ht]
   ·exact twoAt_no h1
  rw [bAt_lt hk] at b0
  obtain ⟨hk', he⟩ := bAt_some b0
  unfold mLen
  rw [if_neg (by simp [ht']), dif_pos hk', if_pos (by rw [he]; exact hm)]
 ·unfold mLen at h
  rw [if_pos ht] at h
  subst h
  have b1 := hb 1 (by omega)
  unfold mLen
  rw [if_pos (by rw [twoAt_same b0 b1]; exact ht)]
theorem cut_same {s s' : ByteArray} {k k' d : Nat} (h : cutEnd s k = (k + d : Nat)) (hb : ∀ j, j < d → bAt s' (k' + j) = bAt s (k + j)) (hE : Ends s' (k' + d) s (k + d)) : cutEnd s' k' = (k' + d : Nat) := by
 have hr := cutEnd_room (s := s) (k := k) (by omega)
 have hk : k < s.size := hr.2.2
 have hd0 : 0 < d := by omega
 have b0 := hb 0 (by omega)
 rw [Nat.add_zero, Nat.add_zero, bAt_lt hk] at b0
 obtain ⟨hk', he⟩ := bAt_some b0
 cases hw : isWord s[k]
 ·by_cases hq : s[k].toNat = 34
  ·rw [cutEnd_text hk hw hq] at h
   cases hc : tClose s (k + 1) with
   | none => rw [hc] at h; simp only at h; omega
   |
    some e =>
    rw [hc] at h
    replace h : (e : Int) = (k + d : Nat) := h
    have := tClose_same (s := s) (s' := s') (d - 1) (k + 1) (k' + 1) (by rw [hc]; congr 1; omega) (fun j hj => by
     have := hb (j + 1) (by omega)
     rwa [show k' + (j + 1) = k' + 1 + j by omega, show k + (j + 1) = k + 1 + j by omega] at this)
    rw [cutEnd_text hk' (by rw [he]; exact hw) (by rw [he]; exact hq), this]
    simp only; omega
  ·rw [cutEnd_mark hk hw hq] at h
   split at h
   ·omega
   ·rename_i h0
    have := mLen_same (s := s) (s' := s') (k := k) (k' := k') (d := d) (by omega) (by omega) hb hE
    rw [cutEnd_mark hk' (by rw [he]; exact hw) (by rw [he]; exact hq), this, if_neg (by omega)]
 ·rw [cutEnd_word hk hw] at h
  split at h
  ·omega
  ·rename_i h0
   have := wEnd_same (s := s) (s' := s') d k k' (by omega) hb hE
   rw [cutEnd_word hk' (by rw [he]; exact hw), this, if_neg (by omega)]

def AllOk (s : ByteArray) : Prop := ∀ j c, bAt s j = some c → okByte c = true
theorem AllOk.app {a b : ByteArray} (ha : AllOk a) (hb : AllOk b) : AllOk (a ++ b) := fun j c h => by
 by_cases hj : j < a.size
 ·rw [bAt_left hj] at h; exact ha j c h
 ·rw [bAt_right (j := j - a.size) (by omega)] at h; exact hb _ c h
theorem AllOk.of {s : ByteArray} (h : lineOk s = true) : AllOk s := fun j c hc => by
 obtain ⟨hj, rfl⟩ := bAt_some hc
 unfold lineOk at h
 rw [Bool.and_eq_true, List.all_eq_true] at h
 exact h.2 _ (by simp [ByteArray.getElem_eq_getElem_data])
theorem AllOk.line {s : ByteArray} (h : AllOk s) (hs : s.size ≤ 200) : lineOk s = true := by
 rw [lineOk_yes (k := s.size) (fun j hj _ => h j _ (bAt_lt hj)) (Nat.le_refl _)]
 exact decide_eq_true hs
theorem sub_tok {s : ByteArray} (hs : lineOk s = true) {k e : Nat} (hk : k < s.size) (h32 : ¬ s[k].toNat = 32) (hc : cutEnd s k = (e : Nat)) (sp : Bool) : tokOk ⟨cutKind s[k], s.extract k e, sp, []⟩ = true := by
 have hr := cutEnd_room (s := s) (k := k) (by omega)
 have hz : (s.extract k e).size = e - k := by rw [ByteArray.size_extract]; omega
 have hb : ∀ j, j < e - k → bAt (s.extract k e) (0 + j) = bAt s (k + j) := fun j hj => by rw [Nat.zero_add]; exact bAt_sub (by omega) hj
 have hcx := cut_same (s' := s.extract k e) (k' := 0) (d := e - k) (by rw [hc]; omega) hb (ends_none (bAt_ge (by omega)))
 have h0 : 0 < (s.extract k e).size := by omega
 have hf : (s.extract k e)[0] = s[k] := ext_get s k e 0 h0
 have hl : lineOk (s.extract k e) = true := by
  refine AllOk.line (fun j c hj => ?_) (by have := lineOk_size hs; omega)
  obtain ⟨h1, _⟩ := bAt_some hj
  rw [bAt_sub (by omega) (by omega)] at hj
  exact AllOk.of hs _ c hj
 have ht : toks (s.extract k e) 0 false 0 = some [⟨cutKind s[k], s.extract k e, false, []⟩] := by
  have hzz : ((s.extract k e).extract 0 (e - k)).size = (s.extract k e).size := by rw [ByteArray.size_extract]; omega
  have hx : (s.extract k e).extract 0 (e - k) = s.extract k e := bAt_ext hzz fun j hj => by
   rw [bAt_sub (by omega) (by omega), Nat.zero_add]
  rw [toks, dif_pos h0, if_neg (by rw [hf]; exact h32), hcx, if_neg (by omega), Nat.zero_add, Int.toNat_natCast, Nat.max_eq_right (by omega), toks, dif_neg (by omega), hf, hx]
  rfl
 have hr := tokRes_some hl ht
 unfold tokOk
 rw [Bool.and_eq_true]
 refine ⟨?_, by show hidOk [] = true; decide⟩
 show oneTok (s.extract k e) (cutKind s[k]) = true
 simp [oneTok, hr]
theorem toks_valid {s : ByteArray} (hs : lineOk s = true) : ∀ (k : Nat) (sp : Bool) (n : Nat) (l : List Tok), toks s k sp n = some l → ∀ t ∈ l, tokOk t = true := by
 intro k sp n
 induction k, sp, n using toks.induct (s := s) with
 |
  case1 k sp n hk h32 ih =>
  intro l h
  rw [toks, dif_pos hk, if_pos h32] at h
  exact ih l h
 |
  case2 k sp n hk h32 hb =>
  intro l h
  rw [toks, dif_pos hk, if_neg h32, if_pos hb] at h
  exact absurd h (by simp)
 |
  case3 k sp n hk h32 hb ih =>
  intro l h t ht
  rw [toks, dif_pos hk, if_neg h32, if_neg hb] at h
  have hr := cutEnd_room (s := s) (k := k) (by omega)
  rw [Option.map_eq_some_iff] at h
  obtain ⟨l', h1, rfl⟩ := h
  rcases List.mem_cons.1 ht with rfl | ht
  ·exact sub_tok hs hk h32 (by omega) sp
  ·exact ih l' h1 t ht
 |
  case4 k sp n hk =>
  intro l h
  rw [toks, dif_neg hk] at h
  simp only [Option.some.injEq] at h
  subst h; simp
theorem tokRes_valid {s : ByteArray} {l : List Tok} (h : tokRes s = (l, true)) : toksOk l = true := by
 obtain ⟨h1, h2⟩ := tokRes_true h
 have h3 := (tokRes_all s).1
 rw [h] at h3
 unfold toksOk
 rw [Bool.and_eq_true, decide_eq_true_eq, List.all_eq_true]
 exact ⟨h3, fun t ht => toks_valid h2 0 false 0 l h1 t ht⟩

end Go.Proofs.YtlegeancmcmbaaaDoor

/- Macros: their validity, their texts, and how they are read: no program. -/
namespace Go.Proofs.YtlegeancmcmbaaaDoor
open Go.RowKit

structure DMacro where
 name : ByteArray
 function : Bool
 params : List ByteArray
 body : List Tok

def definedB : ByteArray := ⟨#[100, 101, 102, 105, 110, 101, 100]⟩
def hash1 : ByteArray := ⟨#[35]⟩
def hash2 : ByteArray := ⟨#[35, 35]⟩
def openB : ByteArray := ⟨#[40]⟩
def closeB : ByteArray := ⟨#[41]⟩
def commaB : ByteArray := ⟨#[44]⟩
def parFrom (ps : List ByteArray) (t : Tok) (k : Nat) : Int := if h : k < ps.length then (if t.kind = 1 ∧ ps[k] = t.text then (k : Int) else parFrom ps t (k + 1)) else -1
termination_by ps.length - k
def parOf (ps : List ByteArray) (t : Tok) : Int := parFrom ps t 0
def macHead (m : DMacro) : Bool := oneTok m.name 1 && !decide (m.name = definedB) && decide (m.params.length ≤ 4) && (m.function || decide (m.params.length = 0)) && decide (m.body.length ≤ 20)
def parOk (ps : List ByteArray) (k : Nat) : Bool := if h : k < ps.length then oneTok ps[k] 1 && (List.range k).all (fun j => !decide (ps[j]? = some ps[k])) else true
def bodOk (m : DMacro) (k : Nat) : Bool :=
 if h : k < m.body.length then
  tokOk m.body[k] && decide (m.body[k].hidden.length = 0) && !(decide (k = 0) && m.body[k].spaced) &&
  !(decide (m.body[k].text = hash2) && (decide (k = 0) || decide (k + 1 = m.body.length) || decide ((m.body[k - 1]'(by omega)).text = hash2))) &&
  !(m.function && decide (m.body[k].text = hash1) && (if h2 : k + 1 < m.body.length then decide (parOf m.params m.body[k + 1] < 0) else true))
 else true
def macOk (m : DMacro) : Bool := macHead m && (List.range m.params.length).all (parOk m.params) && (List.range m.body.length).all (bodOk m)

def parsAt (l : List Tok) (k : Nat) : Option (List ByteArray × Nat) :=
 if h : k + 1 < l.length then
  (if l[k].kind = 1 then (if l[k + 1].text = closeB then some ([l[k].text], k + 2) else if l[k + 1].text = commaB then (parsAt l (k + 2)).map (fun p => (l[k].text :: p.1, p.2)) else none) else none)
 else none
termination_by l.length - k
def parsOf (l : List Tok) : Option (List ByteArray × Nat) := if h : 2 < l.length then (if l[2].text = closeB ∧ l[2].kind = 4 then some ([], 3) else parsAt l 2) else none
def bodyFrom (l : List Tok) (k : Nat) : List Tok := (l.drop k).mapIdx fun i t => ⟨t.kind, t.text, t.spaced && decide (0 < i), []⟩
def zeroMac : DMacro := ⟨⟨#[]⟩, false, [], []⟩
def macChk (m : DMacro) : DMacro × Bool := if macOk m = true then (m, true) else (zeroMac, false)
def opens2 (l : List Tok) : Bool := if h : 1 < l.length then decide (l[1].text = openB) && !l[1].spaced else false
def macOf (l : List Tok) : DMacro × Bool :=
 if h : toksOk l = true ∧ 0 < l.length then
  (
  if opens2 l = true then (match parsOf l with | some p => macChk ⟨l[0].text, true, p.1, bodyFrom l p.2⟩ | none => (zeroMac, false))
  else macChk ⟨l[0].text, false, [], bodyFrom l 1⟩)
 else (zeroMac, false)

/-! ### Valid macros -/
theorem macOk_facts {m : DMacro} (h : macOk m = true) : (oneTok m.name 1 = true ∧ m.name ≠ definedB ∧ m.params.length ≤ 4 ∧ (m.function = true ∨ m.params = []) ∧ m.body.length ≤ 20) ∧ (∀ k, (hk : k < m.params.length) → oneTok m.params[k] 1 = true) ∧ (∀ k, k < m.body.length → bodOk m k = true) := by
 unfold macOk macHead at h
 simp only [Bool.and_eq_true, Bool.not_eq_true', decide_eq_false_iff_not, decide_eq_true_eq, Bool.or_eq_true, List.all_eq_true, List.mem_range, List.length_eq_zero_iff] at h
 obtain ⟨⟨⟨⟨⟨⟨h1, h2⟩, h3⟩, h4⟩, h5⟩, h6⟩, h7⟩ := h
 refine ⟨⟨h1, h2, h3, h4, h5⟩, fun k hk => ?_, h7⟩
 have := h6 k hk
 unfold parOk at this
 rw [dif_pos hk, Bool.and_eq_true] at this
 exact this.1
end Go.Proofs.YtlegeancmcmbaaaDoor

/- Directives: no program. -/
namespace Go.Proofs.YtlegeancmcmbaaaDoor
open Go.RowKit

def dirNames : List (List UInt8) := [[100, 101, 102, 105, 110, 101], [117, 110, 100, 101, 102], [105, 102], [105, 102, 100, 101, 102], [105, 102, 110, 100, 101, 102], [101, 108, 105, 102], [101, 108, 115, 101], [101, 110, 100, 105, 102], [105, 110, 99, 108, 117, 100, 101], [101, 114, 114, 111, 114]]
def kindTx (k : Nat) : List UInt8 := if k = 0 then [] else dirNames.getD (k - 1) []
def kindRes (k : Int) : ByteArray := if 1 ≤ k ∧ k ≤ 10 then ⟨(kindTx k.toNat).toArray⟩ else ⟨#[]⟩
theorem kindRes_out {k : Int} (h : ¬ (1 ≤ k ∧ k ≤ 10)) : kindRes k = ⟨#[]⟩ := by unfold kindRes; rw [if_neg h]
theorem kindRes_in {k : Nat} (h1 : 1 ≤ k) (h2 : k ≤ 10) : kindRes (k : Int) = ⟨(kindTx k).toArray⟩ := by unfold kindRes; rw [if_pos (by omega), Int.toNat_natCast]
theorem kind_tx : ∀ k, k < 11 → k ≠ 0 → kindTx k ≠ [] := by decide
theorem kind_two : ∀ k, k < 11 → ∀ j, j < 11 → k ≠ j → kindTx k ≠ kindTx j := by decide
def restOk (k : Nat) (r : List Tok) : Bool :=
 if k = 1 then (macOf r).2
 else if k = 2 ∨ k = 4 ∨ k = 5 then (match r with | [t] => decide (t.kind = 1) | _ => false)
 else if k = 3 ∨ k = 6 then !r.isEmpty
 else if k = 9 then (match r with | [t] => decide (t.kind = 3) | _ => false)
 else if k = 7 ∨ k = 8 then r.isEmpty
 else true
def kindAt (x : List UInt8) (k : Nat) : Nat := if k ≤ 10 then (if x = kindTx k then k else kindAt x (k + 1)) else 0
termination_by 11 - k
theorem kindAt_hit {x : List UInt8} {k : Nat} (h : k ≤ 10) (hx : x = kindTx k) : kindAt x k = k := by rw [kindAt, if_pos h, if_pos hx]
theorem kindAt_next {x : List UInt8} {k : Nat} (h : k ≤ 10) (hx : x ≠ kindTx k) : kindAt x k = kindAt x (k + 1) := by rw [kindAt.eq_def x k, if_pos h, if_neg hx]
theorem kindAt_out {x : List UInt8} {k : Nat} (h : ¬ k ≤ 10) : kindAt x k = 0 := by rw [kindAt, if_neg h]
def dirRes (l : List Tok) : (Int × List Tok) × Bool :=
 if toksOk l = true then
  (if mkAt l 0 [35] = true then
   (if h : 1 < l.length then
    (if l[1].kind = 1 ∧ kindAt l[1].text.toList 1 ≠ 0 ∧ restOk (kindAt l[1].text.toList 1) (l.drop 2) = true then ((((kindAt l[1].text.toList 1 : Nat) : Int), l.drop 2), true) else ((0, []), false))
   else ((0, []), false))
  else ((0, []), true))
 else ((0, []), false)
theorem dir_bad {l : List Tok} (h : toksOk l = false) : dirRes l = ((0, []), false) := by unfold dirRes; rw [if_neg (by rw [h]; simp)]
theorem dir_plain {l : List Tok} (h : toksOk l = true) (hm : mkAt l 0 [35] = false) : dirRes l = ((0, []), true) := by unfold dirRes; rw [if_pos h, if_neg (by rw [hm]; simp)]
theorem dir_one {l : List Tok} (h : toksOk l = true) (hm : mkAt l 0 [35] = true) (h1 : ¬ 1 < l.length) : dirRes l = ((0, []), false) := by unfold dirRes; rw [if_pos h, if_pos hm, dif_neg h1]
theorem dir_no {l : List Tok} (h : toksOk l = true) (hm : mkAt l 0 [35] = true) (h1 : 1 < l.length) (hn : ¬ (l[1].kind = 1 ∧ kindAt l[1].text.toList 1 ≠ 0 ∧ restOk (kindAt l[1].text.toList 1) (l.drop 2) = true)) : dirRes l = ((0, []), false) := by
 unfold dirRes; rw [if_pos h, if_pos hm, dif_pos h1, if_neg hn]
theorem dir_yes {l : List Tok} {k : Nat} (h : toksOk l = true) (hm : mkAt l 0 [35] = true) (h1 : 1 < l.length) (hk : l[1].kind = 1) (hx : kindAt l[1].text.toList 1 = k) (h0 : k ≠ 0) (hr : restOk k (l.drop 2) = true) : dirRes l = ((((k : Nat) : Int), l.drop 2), true) := by
 unfold dirRes; rw [if_pos h, if_pos hm, dif_pos h1, hx, if_pos ⟨hk, h0, hr⟩]
def readDir (s : ByteArray) : (Int × List Tok) × Bool :=
 if (stripRes s).2 = true ∧ (tokRes (stripRes s).1).2 = true then dirRes (tokRes (stripRes s).1).1 else ((0, []), false)
theorem read_no {s : ByteArray} (h : ¬ ((stripRes s).2 = true ∧ (tokRes (stripRes s).1).2 = true)) : readDir s = ((0, []), false) := by unfold readDir; rw [if_neg h]
theorem read_yes {s x : ByteArray} {l : List Tok} (h : stripRes s = (x, true)) (ht : tokRes x = (l, true)) : readDir s = dirRes l := by unfold readDir; rw [h]; simp only; rw [ht]; simp
theorem dir_zero {l : List Tok} {k : Int} {r : List Tok} (h : dirRes l = ((k, r), false)) : k = 0 ∧ r = [] := by
 unfold dirRes at h
 repeat' split at h
 all_goals simp at h
 all_goals simp [h]
theorem readDir_zero {s : ByteArray} {k : Int} {r : List Tok} (h : readDir s = ((k, r), false)) : k = 0 ∧ r = [] := by
 unfold readDir at h
 split at h
 ·exact dir_zero h
 ·simp at h; simp [h]

end Go.Proofs.YtlegeancmcmbaaaDoor

/- The names of the kinds of directives, as the program's text lays them; the end of a law whose row lists them. -/
namespace Go.Proofs.YtlegeancmcmbaaaDoor
open Go.ChangeShapes Go.WideShapes Go.ChangeAt Go.RowKit

def kindNm (k : Nat) : ByteArray := ⟨(kindTx k).toArray⟩
def KN (W : World) : Prop := ∀ k, k < 11 → W.cell? ⟨0, k, none⟩ = some (.string (kindNm k))
def KE (W : World) : Prop := Env W ∧ KN W
theorem KN.below {w w' : World} {B : Nat} (h : KN w) (hb : Below B w w') (hB : w.heap.size ≤ B) : KN w' := fun k hk =>
 (hb.cell (p := ⟨0, k, none⟩) (Nat.lt_of_lt_of_le (World.block_lt_of_cell? w _ (h k hk)) hB)).trans (h k hk)
theorem KE.below {w w' : World} {B : Nat} (h : KE w) (hb : Below B w w') (hB : w.heap.size ≤ B) : KE w' := ⟨h.1.below hb hB, h.2.below hb hB⟩

theorem gKinds : Tryd.prog.globalNamed "loop.example/macroprocessor/impl.kindNames" = some 0 := by kernel_rfl
theorem tKinds : (Tryd.prog.globals[0]?).map (·.type) = some 51 := by kernel_rfl
theorem cKinds : Tryd.prog.cellsOf 9 = 1 := by kernel_rfl
theorem laidKinds_eq : (Rows.laid_loop_example_macroprocessor_impl_kindNames : DataW Unit) = .agg ((List.range 11).map fun k => .lit (.string (kindTx k))) := rfl
theorem names_of_laid {W : World} (h : laidMetH Tryd.prog [("loop.example/macroprocessor/impl.kindNames", Rows.laid_loop_example_macroprocessor_impl_kindNames)] W) : KN W := by
 rw [MakeChecks.laidMetH_plain _ _ _ (by kernel_rfl)] at h
 obtain ⟨ps, ⟨g, t, cs, fuel, p, q, hg, ht, hv, hd, -, -⟩, -, -⟩ := h
 obtain rfl := Option.some.inj (gKinds.symm.trans hg)
 obtain rfl := Option.some.inj (tKinds.symm.trans ht)
 rw [laidKinds_eq] at hd
 obtain ⟨xs, m, -, ex, -, hl, hel⟩ := DataW.trod_array Tryd.underlying51 hd
 intro k hk
 have hE := hel k hk
 rw [cKinds, Nat.mul_one, List.getElem?_eq_getElem (by omega)] at hE
 obtain ⟨z, e1, e2, -⟩ := DataW.trod_string Tryd.underlying9 hE
 have e3 : (List.range 11).map (fun k => (DataW.lit (.string (kindTx k)) : DataW Unit)) = xs.map (·.1) := DataW.agg.inj (Prod.mk.inj ex).1
 have e4 : ((List.range 11).map (fun k => (DataW.lit (.string (kindTx k)) : DataW Unit)))[k]? = (xs.map (·.1))[k]? := by rw [e3]
 rw [List.getElem?_map, List.getElem?_map, List.getElem?_range hk, List.getElem?_eq_getElem (by omega : k < xs.length), e2] at e4
 have hz : kindTx k = z.data.toList := by
  simpa only [Option.map_some, Option.some.injEq, DataW.lit.injEq, Lit.string.injEq] using e4
 have hz2 : z = kindNm k := by
  unfold kindNm
  rw [hz]
 rw [World.var?_cell hg hv k, ← hz2]
 have : cs.toList[k]? = some (.string z) := by
  have h0 : ((cs.toList.drop k).take 1)[0]? = some (.string z) := by rw [e1]; rfl
  simpa using h0
 simpa using this

theorem returnsIn_laid {H : Type} {enc : TypeId × Value → H} {a : Assume} {C : Checked} {os : Os} {f : FuncId} {fn : Func} {s : ChangeSpec} {conds : List PathCond} {apart fresh handsOn again : Bool} {X : World → Array Value → Prop}
  (hX : ∀ (w w' : World) (args : Array Value), w.heap = w'.heap → X w args → X w' args)
  (own : ownKnob C.prog.godebug = none) (started : os.Started) (noInit : C.prog.inits.idxOf? f = none) (hfn : C.prog.funcs[f]? = some fn)
  (witness : ∃ (w : World) (tape : Tape) (i : Input), w.os = os ∧ (w.forCall tape i).Shaped C.prog ∧ i.vars = [] ∧ Input.okWide C.prog (w.forCall tape i) .any w.heap.size f i ∧
   ((s.pre enc C.prog fn conds apart (w.forCall tape i).memory i.args ∧ X (w.forCall tape i).memory i.args) ∧ sizedMet enc C.prog fn (OpenSpec.ofChange s) apart (w.forCall tape i).memory i.args) ∧ a.holds C.prog (lone (Frame.enter C.prog f i.args .normal) [] (w.forCall tape i)))
  (contract : ∀ (W : World) (base : Nat) (args : Array Value) (ds gs : List (DataW H)) (before : List MemPlace),
   (∀ (j : Nat) t v, fn.params[j]? = some t → args[j]? = some v → Value.okWide C.prog W .any base t v) →
   DataW.Whole enc C.prog fn.params.toList s.vars apart W args.toList ds gs before → W.ShapedOpen C.prog → X W args →
   Calls C.prog f args W fun e W' => ∃ v, e = .returned v ∧ s.post enc C.prog fn apart fresh handsOn again W args v W') :
  ReturnsInHanded a C os f .any (fun w args => (s.pre enc C.prog fn conds apart w args ∧ X w args) ∧ sizedMet enc C.prog fn (OpenSpec.ofChange s) apart w args) (s.post enc C.prog fn apart fresh handsOn again) := by
 refine returnsInHanded_of_calls own started noInit witness fun w tape i _ hs _ hk hp _ => ?_
 obtain ⟨-, -, -, fn', h1, -, -, -, -, hv⟩ := hk
 obtain rfl : fn' = fn := Option.some.inj (h1.symm.trans hfn)
 obtain ⟨⟨⟨ds, gs, before, h2, -⟩, h3⟩, -⟩ := hp
 refine (contract (w.forCall tape i) w.heap.size i.args ds gs before hv (DataW.Whole.of_heap (w' := w.forCall tape i) (by rfl) h2) hs (hX _ _ _ (by rfl) h3)).mono fun e W' ⟨v, he, hq⟩ => ?_
 subst he
 exact ChangeSpec.post_blind hq

theorem law_vars {H : Type} {enc : TypeId × Value → H} {P : Program} {f : Func} {s : ChangeSpec} {W W' : World} {args : Array Value} {ds gs : List (DataW H)} {before : List MemPlace} {tb : TypeId}
  (hl : laidOutB P = true) (hread : ∀ t ∈ f.params.toList, P.readableRec t = true ∧ t < P.types.size) (hsv : varsRowed P s.vars = true) (hfr : f.resultTypes = #[tb]) (htb : P.underlying tb = some .bool)
  (hW : DataW.Whole enc P f.params.toList s.vars false W args.toList ds gs before)
  (hr : (s.fn H (ds ++ gs)).results = [.lit (.bool true)]) (ha : (s.fn H (ds ++ gs)).args = ds) (hv : (s.fn H (ds ++ gs)).vars = gs)
  (hB : Below W.heap.size W W') : s.post enc P f false true false false W args (.bool true) W' := by
 have hW0 := hW
 obtain ⟨p, q, hA, hV, rfl, hfz, hnd⟩ := hW
 refine ⟨ds, gs, p ++ q, [], p, q, hW0, ?_, ?_, ?_, hB.frame _, by simp⟩
 ·rw [hr, hfr]
  exact ⟨[], [], ⟨1, by simp [DataW.trod, Value.cells, htb]⟩, rfl, rfl⟩
 ·rw [ha]; exact trodAll_below hl hB hread hA
 ·rw [hv]; exact Below.trodVars hl hB hsv hV

end Go.Proofs.YtlegeancmcmbaaaDoor
