/- Texts that the proof of P stands on, in one file. -/
import Derived.Test.YtlegeancmcmbaaaDoorZP7
import Derived.Test.YtlegeancmcmbaaaDoorZP8
import Derived.Lib.Join
import Derived.Test.YtlegeancmcmbaaaDoorZP3
import Derived.Deep.RegionHeld3
import Derived.Test.YtlegeancmcmbaaaDoorZP5
import Derived.Test.YtlegeancmcmbaaaDoorZP6
set_option linter.unusedVariables false
set_option linter.unusedSimpArgs false
/- PrintTokens: the program. -/
namespace Go.Proofs.YtlegeancmcmbaaaDoor
open Go.RowKit
end Go.Proofs.YtlegeancmcmbaaaDoor

/- MacroText of both. (Made by gen_mac7.py.) -/
namespace Go.Proofs.YtlegeancmcmbaaaDoor
open Go.RowKit

/-! ### The head's bytes -/
end Go.Proofs.YtlegeancmcmbaaaDoor

/- Four cells stored into one block; an operation of a drawn region taken first; two structs as results. Over any program. -/
namespace Go.Proofs.YtlegeancmcmbaaaDoor
open Go.RowKit
section
variable {P : Program} {ops : Array Oper} {Q : Exit → Act → World → Prop} {md : Region.Mode} {S : World → Prop}
theorem takeH2 (i d : Nat) {oi : Oper} {v : Value} {fuel : Nat} {listed : Array Bool} {a : Act} {w : World} (hi : ops[i]? = some oi) (hd : oi.dst = some d)
  (hs : Region.noSelect ops = true) (hf : Region.free md ops listed i = true) (hr : (Region.ready md ops listed).contains i = true)
  (hQ : ∀ c a w, Q (.panic c) (a.put (some d) v) w → Q (.panic c) a w) (hw : Region.wanted oi (yielded ops a.tmps) = true) (hS : S w)
  (hy : ∀ w, S w → (execOp a.eval oi).run P w = .ok (.value v) w)
  (h : wpAnyH P md ops Q S fuel (listed.setIfInBounds i true) (a.put (some d) v) w) : wpAnyH P md ops Q S (fuel + 1) listed a w :=
 wpAnyH_take hi hs hf hr (by rw [hd]; exact hQ) (.inl ⟨hw, hy⟩) hS (by rw [hd]; exact h)
end
section
variable {α : Type} {S : Shape α} {w w7 : World} {g2 g3 : Nat} {T : TypeId} {z0 z1 z2 z3 y0 y1 y2 y3 : Value} {cs cs' : List Value} {d d' : α} {fp fp' : List Nat}
end

end Go.Proofs.YtlegeancmcmbaaaDoor

/- Macros are drawn. (Made by gen_drawmac.py.) -/
namespace Go.Proofs.YtlegeancmcmbaaaDoor
open Go.RowKit
end Go.Proofs.YtlegeancmcmbaaaDoor

/- Tokens and a place, drawn. (Made by gen_drawspl.py.) -/
namespace Go.Proofs.YtlegeancmcmbaaaDoor
open Go.RowKit
end Go.Proofs.YtlegeancmcmbaaaDoor

/- Values: no program. -/
namespace Go.Proofs.YtlegeancmcmbaaaDoor
open Go.RowKit

def isMk (t : Tok) (s : List UInt8) : Bool := decide (t.kind = 4) && (t.text.toList == s)
def rankT (s : List UInt8) : Nat :=
 if s = [124, 124] then 1 else if s = [38, 38] then 2 else if s = [61, 61] ∨ s = [33, 61] then 3
 else if s = [60] ∨ s = [62] ∨ s = [60, 61] ∨ s = [62, 61] then 4 else if s = [43] ∨ s = [45] then 5 else if s = [42] ∨ s = [47] ∨ s = [37] then 6 else 0
def rankM (t : Tok) : Nat := if t.kind = 4 then rankT t.text.toList else 0
def inR (n : Int) : Bool := decide (-1000000 ≤ n) && decide (n ≤ 1000000)
def bit1 (b : Bool) : Int := if b = true then 1 else 0
def opM (s : List UInt8) (a b : Int) : Int :=
 if s = [43] then a + b else if s = [45] then a - b else if s = [42] then a * b else if s = [47] then a.tdiv b else if s = [37] then a.tmod b
 else if s = [61, 61] then bit1 (decide (a = b)) else if s = [33, 61] then bit1 (decide (a ≠ b)) else if s = [60] then bit1 (decide (a < b)) else if s = [62] then bit1 (decide (b < a))
 else if s = [60, 61] then bit1 (decide (a ≤ b)) else if s = [62, 61] then bit1 (decide (b ≤ a)) else if s = [38, 38] then bit1 (decide (a ≠ 0) && decide (b ≠ 0)) else bit1 (decide (a ≠ 0) || decide (b ≠ 0))
def applyM (s : List UInt8) (a b : Int) : Int × Int :=
 if rankT s = 0 ∨ inR a = false ∨ inR b = false then (0, 1)
 else if (s = [47] ∨ s = [37]) ∧ b = 0 then (0, 2)
 else if inR (opM s a b) = true then (opM s a b, 0) else (0, 3)
def digs (s : List UInt8) : Int := s.foldl (fun n c => 10 * n + ((c.toNat : Int) - 48)) 0
def numRes (s : List UInt8) : Int :=
 if s = [] ∨ 7 < s.length ∨ s.all isDig = false then -1 else if 1000000 < digs s then -1 else digs s

inductive Ask where
 | one (k : Nat)
 | marks (k rank : Nat)
 | more (rank : Nat) (n : Int) (e : Nat) (f : Int)
 | choice (k : Nat)
abbrev VRes := Int × Nat × Int
def mkAt (l : List Tok) (k : Nat) (s : List UInt8) : Bool := if h : k < l.length then isMk l[k] s else false
def pv (l : List Tok) : Nat → Ask → Option VRes
 | 0, _ => none
 |
  d + 1, .one k =>
  if h : k < l.length then
   if isMk l[k] [33] = true then (pv l d (.one (k + 1))).bind fun r => some (bit1 (decide (r.1 = 0)), r.2.1, r.2.2)
   else if isMk l[k] [45] = true then (pv l d (.one (k + 1))).bind fun r => some (-r.1, r.2.1, r.2.2)
   else if isMk l[k] [40] = true then (pv l d (.choice (k + 1))).bind fun r => some (r.1, r.2.1 + 1, if r.2.2 = 0 ∧ mkAt l r.2.1 [41] = false then 1 else r.2.2)
   else if l[k].kind = 1 then some (0, k + 1, 0)
   else if l[k].kind = 2 ∧ 0 ≤ numRes l[k].text.toList then some (numRes l[k].text.toList, k + 1, 0)
   else some (0, k, 1)
  else some (0, k, 1)
 | d + 1, .marks k rank => (pv l d (.one k)).bind fun r => pv l d (.more rank r.1 r.2.1 r.2.2)
 |
  d + 1, .more rank n e f =>
  if h : f = 0 ∧ e < l.length then
   if rankM l[e] < rank then some (n, e, f)
   else (pv l d (.marks (e + 1) (rankM l[e] + 1))).bind fun r =>
    if r.2.2 ≠ 0 then some (0, r.2.1, r.2.2) else pv l d (.more rank (applyM l[e].text.toList n r.1).1 r.2.1 (applyM l[e].text.toList n r.1).2)
  else some (n, e, f)
 |
  d + 1, .choice k => (pv l d (.marks k 1)).bind fun r =>
  if r.2.2 = 0 ∧ mkAt l r.2.1 [63] = true then
   (pv l d (.choice (r.2.1 + 1))).bind fun a =>
    if a.2.2 ≠ 0 then some (0, a.2.1, a.2.2)
    else if mkAt l a.2.1 [58] = true then (pv l d (.choice (a.2.1 + 1))).bind fun b => some (if r.1 ≠ 0 then a.1 else b.1, b.2.1, b.2.2)
    else some (0, a.2.1, 1)
  else some r
end Go.Proofs.YtlegeancmcmbaaaDoor

/- Directives: no program. -/
namespace Go.Proofs.YtlegeancmcmbaaaDoor
open Go.RowKit

def dirNames : List (List UInt8) := [[100, 101, 102, 105, 110, 101], [117, 110, 100, 101, 102], [105, 102], [105, 102, 100, 101, 102], [105, 102, 110, 100, 101, 102], [101, 108, 105, 102], [101, 108, 115, 101], [101, 110, 100, 105, 102], [105, 110, 99, 108, 117, 100, 101], [101, 114, 114, 111, 114]]
def kindTx (k : Nat) : List UInt8 := if k = 0 then [] else dirNames.getD (k - 1) []
def kindRes (k : Int) : ByteArray := if 1 ≤ k ∧ k ≤ 10 then ⟨(kindTx k.toNat).toArray⟩ else ⟨#[]⟩
theorem kindRes_out {k : Int} (h : ¬ (1 ≤ k ∧ k ≤ 10)) : kindRes k = ⟨#[]⟩ := by unfold kindRes; rw [if_neg h]
theorem kindRes_in {k : Nat} (h1 : 1 ≤ k) (h2 : k ≤ 10) : kindRes (k : Int) = ⟨(kindTx k).toArray⟩ := by unfold kindRes; rw [if_pos (by omega), Int.toNat_natCast]
def restOk (k : Nat) (r : List Tok) : Bool :=
 if k = 1 then (macOf r).2
 else if k = 2 ∨ k = 4 ∨ k = 5 then (match r with | [t] => decide (t.kind = 1) | _ => false)
 else if k = 3 ∨ k = 6 then !r.isEmpty
 else if k = 9 then (match r with | [t] => decide (t.kind = 3) | _ => false)
 else if k = 7 ∨ k = 8 then r.isEmpty
 else true
def kindAt (x : List UInt8) (k : Nat) : Nat := if k ≤ 10 then (if x = kindTx k then k else kindAt x (k + 1)) else 0
termination_by 11 - k
theorem kindAt_hit {x : List UInt8} {k : Nat} (h : k ≤ 10) (hx : x = kindTx k) : kindAt x k = k := by rw [kindAt, if_pos h, if_pos hx]
theorem kindAt_next {x : List UInt8} {k : Nat} (h : k ≤ 10) (hx : x ≠ kindTx k) : kindAt x k = kindAt x (k + 1) := by rw [kindAt.eq_def x k, if_pos h, if_neg hx]
theorem kindAt_out {x : List UInt8} {k : Nat} (h : ¬ k ≤ 10) : kindAt x k = 0 := by rw [kindAt, if_neg h]
def dirRes (l : List Tok) : (Int × List Tok) × Bool :=
 if toksOk l = true then
  (if mkAt l 0 [35] = true then
   (if h : 1 < l.length then
    (if l[1].kind = 1 ∧ kindAt l[1].text.toList 1 ≠ 0 ∧ restOk (kindAt l[1].text.toList 1) (l.drop 2) = true then ((((kindAt l[1].text.toList 1 : Nat) : Int), l.drop 2), true) else ((0, []), false))
   else ((0, []), false))
  else ((0, []), true))
 else ((0, []), false)
theorem dir_bad {l : List Tok} (h : toksOk l = false) : dirRes l = ((0, []), false) := by unfold dirRes; rw [if_neg (by rw [h]; simp)]
theorem dir_plain {l : List Tok} (h : toksOk l = true) (hm : mkAt l 0 [35] = false) : dirRes l = ((0, []), true) := by unfold dirRes; rw [if_pos h, if_neg (by rw [hm]; simp)]
theorem dir_one {l : List Tok} (h : toksOk l = true) (hm : mkAt l 0 [35] = true) (h1 : ¬ 1 < l.length) : dirRes l = ((0, []), false) := by unfold dirRes; rw [if_pos h, if_pos hm, dif_neg h1]
theorem dir_no {l : List Tok} (h : toksOk l = true) (hm : mkAt l 0 [35] = true) (h1 : 1 < l.length) (hn : ¬ (l[1].kind = 1 ∧ kindAt l[1].text.toList 1 ≠ 0 ∧ restOk (kindAt l[1].text.toList 1) (l.drop 2) = true)) : dirRes l = ((0, []), false) := by
 unfold dirRes; rw [if_pos h, if_pos hm, dif_pos h1, if_neg hn]
theorem dir_yes {l : List Tok} {k : Nat} (h : toksOk l = true) (hm : mkAt l 0 [35] = true) (h1 : 1 < l.length) (hk : l[1].kind = 1) (hx : kindAt l[1].text.toList 1 = k) (h0 : k ≠ 0) (hr : restOk k (l.drop 2) = true) : dirRes l = ((((k : Nat) : Int), l.drop 2), true) := by
 unfold dirRes; rw [if_pos h, if_pos hm, dif_pos h1, hx, if_pos ⟨hk, h0, hr⟩]
theorem dir_zero {l : List Tok} {k : Int} {r : List Tok} (h : dirRes l = ((k, r), false)) : k = 0 ∧ r = [] := by
 unfold dirRes at h
 repeat' split at h
 all_goals simp at h
 all_goals simp [h]
end Go.Proofs.YtlegeancmcmbaaaDoor

/- The program's reading of parameters: the closing bracket. -/
namespace Go.Proofs.YtlegeancmcmbaaaDoor
open Go.RowKit

theorem impl_isClose (cs : List Value) (x : Tok) (fp : List Nat) (w : World) (H : sTok.R w cs x fp) : Calls Tryd.prog 99 #[.agg cs.toArray] w (Says (x.text.toList == [41]) w) := by
 obtain ⟨h, rfl, hk, hok, K⟩ := H
 obtain ⟨a0, cap0, rfl, -⟩ := open_strs K
 have hb := alloc_below' w (.cells #[.int .i64 x.kind, .string x.text, .bool x.spaced, .slice a0 x.hidden.length cap0] 47)
 clear K
 go_enter Tryd.func99, Tryd.ntmps99
 go_wp2
 go_ret
 exact ⟨rfl, hb⟩

def idxCl (l : List Tok) (k : Nat) : Int := if h : k < l.length then (if l[k].text.toList == [41] then (k : Int) else idxCl l (k + 1)) else -1
termination_by l.length - k
theorem cl_end {l : List Tok} {k : Nat} (h : l.length ≤ k) : idxCl l k = -1 := by rw [idxCl, dif_neg (by omega)]
theorem cl_hit {l : List Tok} {k : Nat} (h : k < l.length) (h1 : (l[k].text.toList == [41]) = true) : idxCl l k = k := by rw [idxCl, dif_pos h, if_pos h1]
theorem cl_miss {l : List Tok} {k : Nat} (h : k < l.length) (h1 : (l[k].text.toList == [41]) = false) : idxCl l k = idxCl l (k + 1) := by rw [idxCl, dif_pos h, h1]; rfl

set_option maxHeartbeats 2000000 in
theorem lib_IndexFunc (v : Value) (l : List Tok) (fp : List Nat) (w : World) (H : (sSlice sTok).R w [v] l fp) :
  Calls Tryd.prog 98 #[v, .func (.func 99) #[] #[]] w fun e w' => e = .returned (.int .i64 (idxCl l 0)) ∧ Below w.heap.size w w' := by
 obtain ⟨a, cap, rfl, hc, hm, hrow⟩ := open_rows H
 unfold maxLen at hm
 clear H
 go_enter Tryd.func98, Tryd.ntmps98
 go_wp2
 go_loopw [8] (fun i wr => ∃ k : Nat, k ≤ l.length ∧ i = .int .i64 k ∧ Hid (idxCl l 0 = idxCl l k) ∧ Below w.heap.size w wr) (fun i _ => l.length - (intOf i).toNat)
 case atStart => exact ⟨0, by omega, rfl, rfl, Below.refl _ _⟩
 case round =>
  obtain ⟨k, hk, rfl, HP, hb⟩ := hrel
  by_cases hlt : k < l.length
  ·obtain ⟨b1, off1, fps1, rfl, hb1, -, he1⟩ := hrow (by omega)
   obtain ⟨es1, hE1, hR1⟩ := he1 k hlt
   clear hrow he1
   have hR2 := sTok.below hR1 hb
   obtain ⟨h1', rfl, _, _, _⟩ := hR1
   have HC := Lib.hid (impl_isClose _ _ _ wr hR2)
   clear hR2
   replace hE1 := hE1.frame (hb.block b1 hb1)
   have c10 : wr.cell? ⟨b1, off1 + k * 4, none⟩ = some _ := elem_cell0 hE1 (by decide) rfl
   have c11 : wr.cell? ⟨b1, off1 + k * 4 + 1, none⟩ = some _ := elem_cell (j := 1) hE1 (by decide) rfl
   have c12 : wr.cell? ⟨b1, off1 + k * 4 + 2, none⟩ = some _ := elem_cell (j := 2) hE1 (by decide) rfl
   have c13 : wr.cell? ⟨b1, off1 + k * 4 + 3, none⟩ = some _ := elem_cell (j := 3) hE1 (by decide) rfl
   clear hE1
   go_wp2_with fail
   refine HC.out.mono ?_
   rintro e w2 ⟨rfl, hb2⟩
   clear c10 c11 c12 c13 HC
   have hb' := hb.trans (hb2.mono hb.size)
   cases g : (l[k].text.toList == [41])
   ·have HF := Lib.hid (cl_miss hlt g)
    clear g
    go_wp2
    go_roundw
    case rel => exact ⟨k + 1, by omega, by go_num, by show _ = _; rw [HP.out, HF.out], hb'⟩
    case measure => simp [intOf]; omega
   ·have HF := Lib.hid (cl_hit hlt g)
    clear g
    go_wp2
    go_ret
    exact ⟨ret_int (by rw [HP.out, HF.out]), hb'⟩
  ·have HF := Lib.hid (cl_end (by omega : l.length ≤ k))
   go_wp2
   go_ret
   exact ⟨ret_int (by rw [HP.out, HF.out]), hb⟩

theorem rowE_ownM {base : Nat} {v : Value} {L : List (Elem Tok)} {w : World} (h : RowE sTok base 47 v L w) (hf : ∀ x ∈ L, x.fp = []) : ∃ fp, (sSlice sTok).R w [v] (L.map (·.d)) fp ∧ Own w base fp ∧ NoMac w fp := by
 obtain ⟨fp, h1, h2, h3⟩ := slice_of_row h.row fun x hx => ⟨h.len x hx, h.el x hx⟩
 have e0 : L.flatMap (·.fp) = [] := by rw [List.flatMap_eq_nil_iff]; exact hf
 rw [e0] at h2 h3
 refine ⟨fp, h1, h3 (Own.nil _ _) (by simp), fun b hb => ?_⟩
 rcases h2 b hb with h0 | h0
 ·rcases h.row.2 with ⟨h', _⟩ | ⟨g, cap, cur, q1, q2, q3, -⟩
  ·rw [h'] at h0; simp [Value.ownBlock] at h0
  ·rw [q1] at h0
   simp only [Value.ownBlock, Option.some.injEq] at h0
   subst h0
   exact ⟨_, _, _, q3, by decide⟩
 ·simp at h0

def bodyF (i : Nat) (t : Tok) : Tok := ⟨t.kind, t.text, t.spaced && decide (0 < i), []⟩
theorem bodyF_take {l : List Tok} {k : Nat} (h : k < l.length) : (l.take (k + 1)).mapIdx bodyF = (l.take k).mapIdx bodyF ++ [bodyF k l[k]] := by
 rw [List.take_succ_eq_append_getElem h, List.mapIdx_append]
 simp [Nat.min_eq_left (Nat.le_of_lt h)]

set_option maxHeartbeats 4000000 in
theorem impl_bodyOf_t (v : Value) (l : List Tok) (fp : List Nat) (w : World) (hl : l.length ≤ 1048576) (H : (sSlice sTok).R w [v] l fp) :
  Calls Tryd.prog 91 #[v] w fun e w' => ∃ v' fp', e = .returned v' ∧ (sSlice sTok).R w' [v'] (bodyFrom l 0) fp' ∧ Own w' w.heap.size fp' ∧ NoMac w' fp' ∧ Below w.heap.size w w' := by
 obtain ⟨a, cap, rfl, hc, hm, hrow⟩ := open_rows H
 unfold maxLen at hm
 clear H
 go_enter Tryd.func91, Tryd.ntmps91
 go_wp2
 go_loopw [3, 8] (fun o i wr => ∃ (k : Nat) (L : List (Elem Tok)), k ≤ l.length ∧ i = .int .i64 k ∧ Hid (RowE sTok w.heap.size 47 o L wr) ∧ Hid (L.map (·.d) = (l.take k).mapIdx bodyF) ∧ Hid (∀ x ∈ L, x.fp = []) ∧ Below w.heap.size w wr) (fun _ i _ => l.length - (intOf i).toNat)
 case atStart => exact ⟨0, [], by omega, rfl, RowE.nil _ _ _ _, rfl, fun x hx => by simp at hx, Below.refl _ _⟩
 case round =>
  obtain ⟨k, L, hk, rfl, HE, HD, HF, hb⟩ := hrel
  by_cases hlt : k < l.length
  ·obtain ⟨b1, off1, fps1, rfl, hb1, -, he1⟩ := hrow (by omega)
   obtain ⟨es1, hE1, hR1⟩ := he1 k hlt
   clear hrow he1
   obtain ⟨h1', rfl, hk1, hk2, hK1⟩ := hR1
   obtain ⟨ah, ch, rfl, -⟩ := open_strs hK1
   clear hK1
   replace hE1 := hE1.frame (hb.block b1 hb1)
   have c10 : wr.cell? ⟨b1, off1 + k * 4, none⟩ = some _ := elem_cell0 hE1 (by decide) rfl
   have c11 : wr.cell? ⟨b1, off1 + k * 4 + 1, none⟩ = some _ := elem_cell (j := 1) hE1 (by decide) rfl
   have c12 : wr.cell? ⟨b1, off1 + k * 4 + 2, none⟩ = some _ := elem_cell (j := 2) hE1 (by decide) rfl
   have c13 : wr.cell? ⟨b1, off1 + k * 4 + 3, none⟩ = some _ := elem_cell (j := 3) hE1 (by decide) rfl
   clear hE1
   have HLl : Hid (L.length = k) := by have := congrArg List.length HD.out; simp at this; show _ = _; omega
   have hba := alloc_below' wr (.cells #[.int .i64 l[k].kind, .string l[k].text, .bool l[k].spaced, .slice ah l[k].hidden.length ch] 47)
   have HEb := Lib.hid (HE.out.below hba)
   have HKT := Lib.hid (And.intro hk1 hk2)
   obtain ⟨ar, capr, rfl, -⟩ := HE.out.val
   have hbw := hb.trans (hba.mono hb.size)
   clear HE hba hk1 hk2
   have HR : ∀ sp : Bool, Hid (sTok.R (wr.alloc (.cells #[.int .i64 l[k].kind, .string l[k].text, .bool l[k].spaced, .slice ah l[k].hidden.length ch] 47)) [.int .i64 l[k].kind, .string l[k].text, .bool sp, .slice none 0 0] ⟨l[k].kind, l[k].text, sp, []⟩ []) := fun sp => ⟨_, rfl, HKT.out.1, HKT.out.2, slice_empty sStr _ none 0 (by simp)⟩
   have HWs : Hid ((wr.alloc (.cells #[.int .i64 l[k].kind, .string l[k].text, .bool l[k].spaced, .slice ah l[k].hidden.length ch] 47)).heap.size = wr.heap.size + 1) := Array.size_push _
   by_cases h0 : 0 < k
   ·have g1 : decide ((0 : Int) < (k : Int)) = true := decide_eq_true (by omega)
    have g2 : decide (0 < k) = true := decide_eq_true h0
    have HB : Hid (bodyF k l[k] = ⟨l[k].kind, l[k].text, l[k].spaced, []⟩) := by show bodyF k l[k] = _; unfold bodyF; rw [g2, Bool.and_true]
    clear h0
    go_wp2_with (at_builtin; refine wp_append_tokE rfl (.tmp 13) (.tmp 25) rfl w.heap.size (.slice ar L.length capr) L rfl HEb.out l[k].kind l[k].text l[k].spaced none 0 0 [] [] (by rw [HWs.out]; rfl) (HR l[k].spaced).out (by simp) (by simp) (by have := HLl.out; omega) hbw.size ?_; intro v3 w3 hE3 hg3)
    have hb3 : Below w.heap.size w w3 := hbw.grown hg3 hbw.size (fun b hb => (HEb.out.row.lt b hb).1)
    have HE3 := Lib.hid hE3
    have HD3 : Hid ((L ++ [(⟨[.int .i64 l[k].kind, .string l[k].text, .bool l[k].spaced, .slice none 0 0], ⟨l[k].kind, l[k].text, l[k].spaced, []⟩, []⟩ : Elem Tok)]).map (·.d) = (l.take (k + 1)).mapIdx bodyF) := by
     show _ = _
     rw [List.map_append, HD.out, bodyF_take hlt, HB.out]; rfl
    have HF3 : Hid (∀ x ∈ L ++ [(⟨[.int .i64 l[k].kind, .string l[k].text, .bool l[k].spaced, .slice none 0 0], ⟨l[k].kind, l[k].text, l[k].spaced, []⟩, []⟩ : Elem Tok)], x.fp = []) := fun x hx => (List.mem_append.1 hx).elim (HF.out x) (fun h => by rw [List.mem_singleton.1 h])
    clear hE3 hg3 HR g1 g2 c10 c11 c12 c13
    go_roundw
    case rel => exact ⟨k + 1, _, by omega, by go_num, HE3, HD3, HF3, hb3⟩
    case measure => simp [intOf]; omega
   ·have g1 : decide ((0 : Int) < (k : Int)) = false := decide_eq_false (by omega)
    have g2 : decide (0 < k) = false := decide_eq_false h0
    have HB : Hid (bodyF k l[k] = ⟨l[k].kind, l[k].text, false, []⟩) := by show bodyF k l[k] = _; unfold bodyF; rw [g2, Bool.and_false]
    clear h0
    go_wp2_with (at_builtin; refine wp_append_tokE rfl (.tmp 13) (.tmp 25) rfl w.heap.size (.slice ar L.length capr) L rfl HEb.out l[k].kind l[k].text false none 0 0 [] [] (by rw [HWs.out]; rfl) (HR false).out (by simp) (by simp) (by have := HLl.out; omega) hbw.size ?_; intro v3 w3 hE3 hg3)
    have hb3 : Below w.heap.size w w3 := hbw.grown hg3 hbw.size (fun b hb => (HEb.out.row.lt b hb).1)
    have HE3 := Lib.hid hE3
    have HD3 : Hid ((L ++ [(⟨[.int .i64 l[k].kind, .string l[k].text, .bool false, .slice none 0 0], ⟨l[k].kind, l[k].text, false, []⟩, []⟩ : Elem Tok)]).map (·.d) = (l.take (k + 1)).mapIdx bodyF) := by
     show _ = _
     rw [List.map_append, HD.out, bodyF_take hlt, HB.out]; rfl
    have HF3 : Hid (∀ x ∈ L ++ [(⟨[.int .i64 l[k].kind, .string l[k].text, .bool false, .slice none 0 0], ⟨l[k].kind, l[k].text, false, []⟩, []⟩ : Elem Tok)], x.fp = []) := fun x hx => (List.mem_append.1 hx).elim (HF.out x) (fun h => by rw [List.mem_singleton.1 h])
    clear hE3 hg3 HR g1 g2 c10 c11 c12 c13
    go_roundw
    case rel => exact ⟨k + 1, _, by omega, by go_num, HE3, HD3, HF3, hb3⟩
    case measure => simp [intOf]; omega
  ·obtain ⟨fpr, hr, ho, hn⟩ := rowE_ownM HE.out HF.out
   have hd := HD.out
   rw [List.take_of_length_le (by omega)] at hd
   rw [hd] at hr
   have HR := Lib.hid hr
   have HO := Lib.hid ho
   have HNM := Lib.hid hn
   clear hr hd HE HD ho HF hn
   go_wp2
   go_ret
   exact ⟨_, fpr, rfl, HR.out, HO.out, HNM.out, hb⟩

theorem impl_bodyOf (v : Value) (l : List Tok) (fp : List Nat) (w : World) (hl : l.length ≤ 1048576) (H : (sSlice sTok).R w [v] l fp) :
  Calls Tryd.prog 91 #[v] w fun e w' => ∃ v' fp', e = .returned v' ∧ (sSlice sTok).R w' [v'] (bodyFrom l 0) fp' ∧ Own w' w.heap.size fp' ∧ Below w.heap.size w w' :=
 (impl_bodyOf_t v l fp w hl H).mono fun _ _ ⟨v, fp, h1, h2, h3, _, h4⟩ => ⟨v, fp, h1, h2, h3, h4⟩

end Go.Proofs.YtlegeancmcmbaaaDoor
