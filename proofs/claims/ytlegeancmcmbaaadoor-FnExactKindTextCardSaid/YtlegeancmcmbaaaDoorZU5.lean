/- Texts that the proof of U stands on, in one file. -/
import Derived.Test.YtlegeancmcmbaaaDoorZU4
import Derived.Test.YtlegeancmcmbaaaDoorZU1
import Derived.Test.YtlegeancmcmbaaaDoorZU3
import Derived.Test.YtlegeancmcmbaaaDoorZU2
import Derived.Deep.RegionHeld3
import Derived.Deep.QuietTactic
import Derived.BigQuiet
import Derived.Outline
import Derived.StillTailTactics
import Derived.Deep.Fields
import Derived.ChangeSame
set_option linter.unusedVariables false
set_option linter.unusedSimpArgs false
/- Of the program: the names of kinds. -/
namespace Go.Proofs.YtlegeancmcmbaaaDoor
open Go.RowKit

theorem kindRes_nm {n : Nat} (h : n < 11) : kindRes (n : Int) = kindNm n := by
 by_cases h0 : n = 0
 ·subst h0; rfl
 ·rw [kindRes_in (by omega) (by omega)]; rfl

set_option maxHeartbeats 2000000 in
theorem impl_KindText (k : Int) (w : World) (_hk : okInt k) (hE : KE w) :
  Calls Tryd.prog 10 #[.int .i64 k] w fun e w' => e = .returned (.string (kindRes k)) ∧ Below w.heap.size w w' := by
 by_cases h0 : k < 0
 ·have HF := Lib.hid (kindRes_out (k := k) (by omega))
  go_enter Tryd.func10, Tryd.ntmps10
  go_wp2
  go_ret
  exact ⟨by rw [HF.out] <;> rfl, Below.refl _ _⟩
 by_cases h1 : 10 < k
 ·have HF := Lib.hid (kindRes_out (k := k) (by omega))
  go_enter Tryd.func10, Tryd.ntmps10
  go_wp2
  go_ret
  exact ⟨by rw [HF.out] <;> rfl, Below.refl _ _⟩
 obtain ⟨n, rfl⟩ : ∃ n : Nat, k = (n : Int) := ⟨k.toNat, by omega⟩
 have hn : n < 11 := by omega
 have HF := Lib.hid (kindRes_nm hn)
 have hc := hE.2 n hn
 have i1 : (0 : Int) ≤ (n : Int) := by omega
 have i2 : (n : Int) < 11 := by omega
 clear hE
 go_enter Tryd.func10, Tryd.ntmps10
 go_wp2
 go_ret
 exact ⟨by rw [HF.out] <;> rfl, Below.refl _ _⟩

def kindArr : Value := .agg #[.string (kindNm 0), .string (kindNm 1), .string (kindNm 2), .string (kindNm 3), .string (kindNm 4), .string (kindNm 5), .string (kindNm 6), .string (kindNm 7), .string (kindNm 8), .string (kindNm 9), .string (kindNm 10)]
set_option maxRecDepth 100000 in
theorem run_kind (k : Nat) (h : k < 11) (w : World) : (Instr.index 51 kindArr (.int .i64 (k : Int))).run Tryd.prog w = .ok (.string (kindNm k)) w := by
 have : k = 0 ∨ k = 1 ∨ k = 2 ∨ k = 3 ∨ k = 4 ∨ k = 5 ∨ k = 6 ∨ k = 7 ∨ k = 8 ∨ k = 9 ∨ k = 10 := by omega
 rcases this with rfl | rfl | rfl | rfl | rfl | rfl | rfl | rfl | rfl | rfl | rfl <;> rfl

def kindFirst (x : List UInt8) (k : Nat) : Nat := if k ≤ 10 then (if x = kindTx k then k else kindFirst x (k + 1)) else 0
termination_by 11 - k
theorem first_hit {x : List UInt8} {k : Nat} (h : k ≤ 10) (hx : x = kindTx k) : kindFirst x k = k := by rw [kindFirst, if_pos h, if_pos hx]
theorem first_next {x : List UInt8} {k : Nat} (h : k ≤ 10) (hx : x ≠ kindTx k) : kindFirst x k = kindFirst x (k + 1) := by rw [kindFirst.eq_def x k, if_pos h, if_neg hx]
theorem first_out {x : List UInt8} {k : Nat} (h : ¬ k ≤ 10) : kindFirst x k = 0 := by rw [kindFirst, if_neg h]
theorem first_at (x : List UInt8) : ∀ (d k : Nat), 11 - k ≤ d → kindFirst x k = kindAt x k := by
 intro d
 induction d with
 | zero => intro k h; rw [first_out (by omega), kindAt_out (by omega)]
 |
  succ d ih =>
  intro k h
  by_cases hk : k ≤ 10
  ·by_cases hx : x = kindTx k
   ·rw [first_hit hk hx, kindAt_hit hk hx]
   ·rw [first_next hk hx, kindAt_next hk hx]; exact ih (k + 1) (by omega)
  ·rw [first_out hk, kindAt_out hk]
theorem first_zero (x : List UInt8) : kindFirst x 0 = kindAt x 1 := by
 by_cases hx : x = kindTx 0
 ·rw [first_hit (by omega) hx]
  subst hx
  decide +kernel
 ·rw [first_next (by omega) hx]; exact first_at x 11 1 (by omega)
theorem nm_list (k : Nat) : (kindNm k).toList = kindTx k := by unfold kindNm; rw [ByteArray.toList_eq]

set_option maxHeartbeats 4000000 in
set_option maxRecDepth 100000 in
theorem impl_kindOf (x : ByteArray) (w : World) (hE : KE w) :
  Calls Tryd.prog 45 #[.string x] w fun e w' => e = .returned (.int .i64 ((kindAt x.toList 1 : Nat) : Int)) ∧ Below w.heap.size w w' := by
 obtain ⟨-, hE⟩ := hE
 have q0 := hE 0 (by decide)
 have q1 := hE 1 (by decide)
 have q2 := hE 2 (by decide)
 have q3 := hE 3 (by decide)
 have q4 := hE 4 (by decide)
 have q5 := hE 5 (by decide)
 have q6 := hE 6 (by decide)
 have q7 := hE 7 (by decide)
 have q8 := hE 8 (by decide)
 have q9 := hE 9 (by decide)
 have q10 := hE 10 (by decide)
 have HZ := Lib.hid (first_zero x.toList)
 obtain ⟨r, HR⟩ : ∃ r, Hid (r = kindAt x.toList 1) := ⟨_, rfl⟩
 rw [← HR.out] at HZ ⊢
 clear hE
 go_enter Tryd.func45, Tryd.ntmps45
 go_wp2
 clear q0 q1 q2 q3 q4 q5 q6 q7 q8 q9 q10
 go_loopw [6] (fun i wr => ∃ k : Nat, k ≤ 11 ∧ i = .int .i64 k ∧ Hid (kindFirst x.toList k = r) ∧ Below w.heap.size w wr) (fun i _ => 11 - (intOf i).toNat)
 case atStart => exact ⟨0, by omega, rfl, HZ, Below.refl _ _⟩
 case round =>
  obtain ⟨k, h11, rfl, HK, hb⟩ := hrel
  by_cases hlt : k < 11
  ·have i0 : (k : Int) < 11 := by omega
   have hI : (Instr.index 51 (.agg #[.string (kindNm 0), .string (kindNm 1), .string (kindNm 2), .string (kindNm 3), .string (kindNm 4), .string (kindNm 5), .string (kindNm 6), .string (kindNm 7), .string (kindNm 8), .string (kindNm 9), .string (kindNm 10)]) (.int .i64 (k : Int))).run Tryd.prog wr = .ok (.string (kindNm k)) wr := run_kind k hlt wr
   have hn := nm_list k
   by_cases hx : x.toList = kindTx k
   ·have HF : Hid (k = r) := (first_hit (by omega) hx).symm.trans HK.out
    have e1 : (x.toList == (kindNm k).toList) = true := by rw [hn]; simpa using hx
    clear hx hn
    go_wp2
    go_ret
    exact ⟨by rw [HF.out] <;> rfl, hb⟩
   ·have HF : Hid (kindFirst x.toList (k + 1) = r) := (first_next (by omega) hx).symm.trans HK.out
    have e1 : (x.toList == (kindNm k).toList) = false := by rw [hn]; simpa using hx
    clear hx hn
    go_wp2
    go_roundw
    case rel => exact ⟨k + 1, by omega, by go_num, HF, hb⟩
    case measure => simp [intOf]; omega
  ·have i0 : ¬ (k : Int) < 11 := by omega
   have HF : Hid (0 = r) := (first_out (by omega)).symm.trans HK.out
   go_wp2
   go_ret
   exact ⟨by rw [← HF.out] <;> rfl, hb⟩

end Go.Proofs.YtlegeancmcmbaaaDoor

/- A row of structs that a call makes and fills, element by element. Over any program. -/
namespace Go.Proofs.YtlegeancmcmbaaaDoor
open Go.RowKit

theorem alloc2_blk (w : World) (c0 c1 : Array Value) (t0 t1 : TypeId) :
  ((w.alloc (.cells c0 t0)).alloc (.cells c1 t1)).heap[w.heap.size]? = some (.cells c0 t0 (0, 0)) ∧
  ((w.alloc (.cells c0 t0)).alloc (.cells c1 t1)).heap[w.heap.size + 1]? = some (.cells c1 t1 (0, 0)) := by
 refine ⟨?_, ?_⟩
 ·show ((w.heap.push _).push _)[_]? = _
  rw [Array.getElem?_push, if_neg (by simp), Array.getElem?_push, if_pos rfl]
 ·show ((w.heap.push _).push _)[_]? = _
  rw [Array.getElem?_push, if_pos (by simp)]

def putAll (w : World) (b : Nat) : Nat → List Value → World
 | _, [] => w
 | o, c :: cs => putAll (w.setCell ⟨b, o, none⟩ c) b (o + 1) cs
def setFrom : List Value → Nat → List Value → List Value
 | xs, _, [] => xs
 | xs, o, c :: cs => setFrom (xs.set o c) (o + 1) cs
theorem setFrom_app : ∀ (cs A Z R : List Value), Z.length = cs.length → setFrom (A ++ (Z ++ R)) A.length cs = A ++ (cs ++ R)
 |
  [], A, Z, R, h => by
  have : Z = [] := by simpa using h
  subst this; simp [setFrom]
 | c :: cs, A, [], R, h => by simp at h
 |
  c :: cs, A, z :: Z, R, h => by
  unfold setFrom
  have e : (A ++ (z :: Z ++ R)).set A.length c = (A ++ [c]) ++ (Z ++ R) := by simp
  rw [e]
  have e2 : A.length + 1 = (A ++ [c]).length := by simp
  rw [e2, setFrom_app cs (A ++ [c]) Z R (by simpa using h)]
  simp
theorem putAll_row {base e size n cap g : Nat} : ∀ (cs : List Value) (w : World) (xs : List Value) (o : Nat), w.ownsRow base e size (.slice (some ⟨g, 0, none⟩) n cap) n xs →
  (putAll w g o cs).ownsRow base e size (.slice (some ⟨g, 0, none⟩) n cap) n (setFrom xs o cs)
 | [], _, _, _, h => h
 | c :: cs, w, xs, o, h => putAll_row cs _ _ (o + 1) (h.stored o c).1
theorem putAll_below {B g : Nat} {a : World} (hg : B ≤ g) : ∀ (cs : List Value) (w : World) (o : Nat), Below B a w → Below B a (putAll w g o cs)
 | [], _, _, h => h
 | c :: cs, w, o, h => putAll_below hg cs _ (o + 1) (h.setCell (p := ⟨g, o, none⟩) hg c)
theorem putAll_kept {g : Nat} : ∀ (cs : List Value) (w : World) (o : Nat), Kept [g] w (putAll w g o cs)
 | [], w, _ => Kept.refl _ w
 | c :: cs, w, o => ((Kept.refl [g] w).setCell (p := ⟨g, o, none⟩) (by simp) c).trans (putAll_kept cs _ (o + 1))

structure Filling {α : Type} (S : Shape α) (g : Nat) (e : TypeId) (l : List α) (k : Nat) (w : World) (L : List (Elem α)) (R : List Value) : Prop where
 row : w.ownsRow g e S.m (.slice (some ⟨g, 0, none⟩) l.length l.length) l.length (L.flatMap (·.cells) ++ R)
 dat : L.map (·.d) = l.take k
 len : ∀ x ∈ L, x.cells.length = S.m
 el : ∀ x ∈ L, S.R w x.cells x.d x.fp
 own : Own w (g + 1) (L.flatMap (·.fp))
section
variable {α : Type} {S : Shape α} {g e : Nat} {l : List α} {k : Nat} {w w' : World} {L : List (Elem α)} {R : List Value}
theorem Filling.start {xs : List Value} (h : w.ownsRow g e S.m (.slice (some ⟨g, 0, none⟩) l.length l.length) l.length xs) : Filling S g e l 0 w [] xs :=
 ⟨by simpa using h, by simp, by simp, by simp, Own.nil _ _⟩
theorem Filling.count (h : Filling S g e l k w L R) (hk : k ≤ l.length) : L.length = k := by
 have := congrArg List.length h.dat
 simpa [hk] using this
theorem Filling.cells (h : Filling S g e l k w L R) (hk : k ≤ l.length) : (L.flatMap (·.cells)).length = k * S.m := by rw [flatMap_len h.len, h.count hk]
theorem Filling.rest (h : Filling S g e l k w L R) (hk : k ≤ l.length) : R.length = (l.length - k) * S.m := by
 have h1 := h.row.1
 rw [List.length_append, h.cells hk] at h1
 have : (l.length - k) * S.m = l.length * S.m - k * S.m := Nat.sub_mul _ _ _
 omega
theorem Filling.lt (h : Filling S g e l k w L R) : g < w.heap.size := (h.row.lt g rfl).2
theorem Filling.below (h : Filling S g e l k w L R) (hb : Below w.heap.size w w') : Filling S g e l k w' L R where
 row := by
  refine ⟨h.row.1, ?_⟩
  rcases h.row.2 with h0 | ⟨g', cap, cur, h1, h2, h3, h4⟩
  ·exact .inl h0
  ·exact .inr ⟨g', cap, cur, h1, h2, (hb.block g' (Array.getElem?_eq_some_iff.1 h3).1).trans h3, h4⟩
 dat := h.dat
 len := h.len
 el := fun x hx => S.below (h.el x hx) hb
 own := h.own.grow hb
theorem Filling.cell (h : Filling S g e l k w L R) (hk : k < l.length) {j : Nat} (hj : j < S.m) : ∃ u, w.cell? ⟨g, k * S.m + j, none⟩ = some u := by
 have h1 : (k + 1) * S.m ≤ l.length * S.m := Nat.mul_le_mul_right _ hk
 rw [Nat.succ_mul] at h1
 rw [h.row.cellAt (k * S.m + j) (by omega), List.getElem?_append_right (by rw [h.cells (by omega)]; omega), h.cells (by omega)]
 have h2 := h.rest (by omega)
 have h3 : (l.length - k) * S.m = l.length * S.m - k * S.m := Nat.sub_mul _ _ _
 exact ⟨R[k * S.m + j - k * S.m]'(by omega), List.getElem?_eq_getElem _⟩
theorem Filling.frozen (h : Filling S g e l k w L R) (o : Nat) : w.frozen? ⟨g, o, none⟩ = false := h.row.frozenAt o
theorem Filling.next {cs : List Value} {fp : List Nat} {w0 : World} (h0 : Filling S g e l k w0 L R) (hk : k < l.length) (hb : Below w0.heap.size w0 w) (hlen : cs.length = S.m) (hR : S.R w cs l[k] fp) (ho : Own w w0.heap.size fp) :
  ∃ R', Filling S g e l (k + 1) (putAll w g (k * S.m) cs) (L ++ [⟨cs, l[k], fp⟩]) R' := by
 have h := h0.below hb
 have hg0 := h0.lt
 have hap : ∀ x ∈ L, ∀ b ∈ x.fp, b ∈ L.flatMap (·.fp) := fun x hx b hb' => List.mem_flatMap.2 ⟨x, hx, hb'⟩
 have hn : ∀ b ∈ L.flatMap (·.fp), b ∉ [g] := fun b hb' => by have := (h.own.2 b hb').1; simp; omega
 have hn2 : ∀ b ∈ fp, b ∉ [g] := fun b hb' => by have := (ho.2 b hb').1; simp; omega
 have hK := putAll_kept (g := g) cs w (k * S.m)
 have hr := h.rest (by omega)
 have hsp : (l.length - k) * S.m = S.m + (l.length - (k + 1)) * S.m := by rw [show l.length - k = (l.length - (k + 1)) + 1 by omega, Nat.succ_mul]; omega
 refine ⟨R.drop S.m, ⟨?_, ?_, fun x hx => ?_, fun x hx => ?_, ?_⟩⟩
 ·have := putAll_row cs w _ (k * S.m) h.row
  have e1 : L.flatMap (·.cells) ++ R = L.flatMap (·.cells) ++ (R.take S.m ++ R.drop S.m) := by rw [List.take_append_drop]
  rw [e1, ← h.cells (by omega), setFrom_app cs _ (R.take S.m) (R.drop S.m) (by rw [List.length_take, hlen]; omega)] at this
  rw [List.flatMap_append, List.flatMap_cons, List.flatMap_nil, List.append_nil, List.append_assoc, ← h.cells (by omega)]
  exact this
 ·rw [List.map_append, h.dat, List.take_succ_eq_append_getElem hk]; rfl
 ·rcases List.mem_append.1 hx with hx | hx
  ·exact h.len x hx
  ·obtain rfl := List.mem_singleton.1 hx; exact hlen
 ·rcases List.mem_append.1 hx with hx | hx
  ·exact S.kept (h.el x hx) (fun b hb' => hn b (hap x hx b hb')) hK
  ·obtain rfl := List.mem_singleton.1 hx
   exact S.kept hR hn2 hK
 ·rw [List.flatMap_append, List.flatMap_cons, List.flatMap_nil, List.append_nil]
  refine Own.app (h.own.kept hn hK) ((Own.lower ho (by omega)).kept hn2 hK) fun b hb1 hb2 => ?_
  have h1 := (ho.2 b hb2).1
  have h2 := h0.own.lt b hb1
  omega
theorem Filling.done (h : Filling S g e l k w L R) (hk : l.length = k) : ∃ fp, (sSlice S).R w [.slice (some ⟨g, 0, none⟩) l.length l.length] l fp ∧ Own w g fp := by
 have hc := h.count (by omega)
 have hr : R = [] := by
  have := h.rest (by omega)
  rw [hk, Nat.sub_self, Nat.zero_mul] at this
  exact List.length_eq_zero_iff.1 this
 have hd := h.dat
 rw [List.take_of_length_le (by omega)] at hd
 have hrow := h.row
 rw [hr, List.append_nil] at hrow
 have hL : L.length = l.length := by omega
 rw [← hL] at hrow
 obtain ⟨fp, h1, h2, h3⟩ := slice_of_row hrow (fun x hx => ⟨h.len x hx, h.el x hx⟩)
 rw [hd, hL] at h1
 exact ⟨fp, h1, h3 (Own.lower h.own (by omega)) (fun g' hg' hx => by
  simp only [Value.ownBlock, Option.some.injEq] at hg'
  have := (h.own.2 g' hx).1
  omega)⟩
end

theorem wsum_succ {α : Type} (f : α → Nat) (l : List α) (k : Nat) (h : k < l.length) : ((l.take (k + 1)).map f).sum = ((l.take k).map f).sum + f l[k] := by
 rw [List.take_succ_eq_append_getElem h]; simp only [List.map_append, List.sum_append, List.map_cons, List.map_nil, List.sum_cons, List.sum_nil, Nat.add_zero]
theorem wsum_le {α : Type} (f : α → Nat) (l : List α) (k : Nat) : ((l.take k).map f).sum ≤ (l.map f).sum := by
 have := congrArg (fun l : List α => (l.map f).sum) (List.take_append_drop k l)
 simp only [List.map_append, List.sum_append] at this
 omega
theorem wsum_at {α : Type} (f : α → Nat) (l : List α) (k : Nat) (h : k < l.length) : f l[k] ≤ (l.map f).sum := by
 have h1 := wsum_succ f l k h
 have h2 := wsum_le f l (k + 1)
 omega

end Go.Proofs.YtlegeancmcmbaaaDoor

/- What the made texts of structs lean on. -/
namespace Go.Proofs.YtlegeancmcmbaaaDoor
open Go.RowKit

def MadeC {α : Type} (S : Shape α) (d : α) (w : World) (e : Ending) (w' : World) : Prop :=
 ∃ cs fp, e = .returned (.agg cs.toArray) ∧ S.R w' cs d fp ∧ Own w' w.heap.size fp ∧ Below w.heap.size w w'
def MarkedC {α : Type} (S : Shape α) (cs : List Value) (d : α) (fp : List Nat) (lo : Nat) (r : Int) (w : World) (e : Ending) (w' : World) : Prop :=
 e = .returned (.int .i64 r) ∧ S.R w' cs d fp ∧ Own w' lo fp ∧ Kept fp w w'
theorem alloc3_blk0 (w : World) (c0 c1 c2 : Array Value) (t0 t1 t2 : TypeId) :
  (((w.alloc (.cells c0 t0)).alloc (.cells c1 t1)).alloc (.cells c2 t2)).heap[w.heap.size]? = some (.cells c0 t0 (0, 0)) := by
 show (((w.heap.push _).push _).push _)[_]? = _
 rw [Array.getElem?_push, if_neg (by simp; omega), Array.getElem?_push, if_neg (by simp), Array.getElem?_push, if_pos rfl]
theorem size_setCell (w : World) (p : Addr) (v : Value) : (w.setCell p v).heap.size = w.heap.size := by simp [World.setCell]

end Go.Proofs.YtlegeancmcmbaaaDoor

/- Tokens as arguments of a law: their size, their copy. -/
namespace Go.Proofs.YtlegeancmcmbaaaDoor
open Go.RowKit

def wtToken (x : Tok) : Nat := x.text.size + wtStringS x.hidden

set_option maxHeartbeats 1000000 in
theorem szToken (cs : List Value) (x : Tok) (fp : List Nat) (w : World) (B : Int) (h0 : 0 ≤ B) (h1 : B ≤ 1048576) (H : sTok.R w cs x fp) :
  Calls Tryd.prog 38 #[.agg cs.toArray, .int .i64 B] w fun e w' => ∃ r : Int, e = .returned (.int .i64 r) ∧ SzR B r (wtToken x) ∧ Below w.heap.size w w' := by
 obtain ⟨h, rfl, _, hok, K⟩ := H
 unfold okStr maxLen at hok
 have b0 := alloc_below' w (.cells #[.int .i64 x.kind, .string x.text, .bool x.spaced, h] 59)
 by_cases ht : B < x.text.size
 ·have HN : Hid (SzR B (-1) (wtToken x)) := SzR.no (by unfold wtToken; omega)
  go_enter Tryd.func38, Tryd.ntmps38
  go_wp2
  go_ret
  exact ⟨-1, rfl, HN.out, b0⟩
 ·have HC : Hid (∀ W, Below w.heap.size w W → Calls Tryd.prog 63 #[h, .int .i64 (B - x.text.size)] W fun e w' => ∃ r : Int, e = .returned (.int .i64 r) ∧ SzR (B - x.text.size) r (wtStringS x.hidden) ∧ W = w') := fun W hb => szStringS h x.hidden fp W (B - x.text.size) (by omega) (by omega) ((sSlice sStr).below K hb)
  go_enter Tryd.func38, Tryd.ntmps38
  go_wp2_with fail
  refine (HC.out _ b0).mono ?_
  rintro e w1 ⟨r, rfl, hr, rfl⟩
  by_cases hn : r < 0
  ·have HN : Hid (SzR B (-1) (wtToken x)) := by
    refine SzR.no ?_
    unfold SzR at hr; unfold wtToken; split at hr <;> omega
   go_wp2
   go_ret
   exact ⟨-1, rfl, HN.out, b0⟩
  ·have hg := hr.good hn
   have hl := hr.le (by omega)
   have HN : Hid (SzR B r (wtToken x)) := SzR.yes (by unfold wtToken; omega) (by unfold wtToken; omega)
   clear hg hr
   go_wp2
   go_ret
   exact ⟨r, rfl, HN.out, b0⟩

set_option maxHeartbeats 2000000 in
theorem toToken (cs : List Value) (x : Tok) (fp : List Nat) (w : World) (hW : wtToken x ≤ 1048576) (H : sTok.R w cs x fp) :
  Calls Tryd.prog 43 #[.agg cs.toArray] w (MadeC sTok x w) := by
 obtain ⟨h, rfl, hk, hok, K⟩ := H
 have hW' : wtStringS x.hidden ≤ 1048576 := by unfold wtToken at hW; omega
 have HC : Hid (∀ W, Below w.heap.size w W → Calls Tryd.prog 67 #[h] W (Made (sSlice sStr) x.hidden W)) := fun W hb => toStringS h x.hidden fp W hW' ((sSlice sStr).below K hb)
 go_enter Tryd.func43, Tryd.ntmps43
 have b3 := below3 w #[.int .i64 x.kind, .string x.text, .bool x.spaced, h] #[.int .i64 0, .string ⟨#[]⟩, .bool false, .slice none 0 0] #[.int .i64 x.kind, .string x.text, .bool x.spaced, .slice none 0 0] 59 47 47
 obtain ⟨g1, g2, g3⟩ := alloc3_blk w #[.int .i64 x.kind, .string x.text, .bool x.spaced, h] #[.int .i64 0, .string ⟨#[]⟩, .bool false, .slice none 0 0] #[.int .i64 x.kind, .string x.text, .bool x.spaced, .slice none 0 0] 59 47 47
 have HG := Lib.hid (And.intro g1 (And.intro g2 g3))
 clear g1 g2 g3
 go_wp2_with fail
 refine (HC.out _ b3).mono ?_
 rintro e w1 ⟨h1, fp1, rfl, R1, O1, hb1⟩
 have HG1 : Hid (w1.heap[w.heap.size + 1]? = some (.cells #[.int .i64 0, .string ⟨#[]⟩, .bool false, .slice none 0 0] 47 (0, 0)) ∧ w1.heap[w.heap.size + 1 + 1]? = some (.cells #[.int .i64 x.kind, .string x.text, .bool x.spaced, .slice none 0 0] 47 (0, 0))) :=
  ⟨(hb1.block _ (by rw [HG.out.2.2]; omega)).trans HG.out.1, (hb1.block _ (by rw [HG.out.2.2]; omega)).trans HG.out.2.1⟩
 have hb := b3.trans (hb1.mono b3.size)
 have hlo : ∀ b ∈ fp1, w.heap.size + 3 ≤ b := fun b hb => by have := (O1.2 b hb).1; rw [HG.out.2.2] at this; omega
 rw [HG.out.2.2] at O1
 clear HG hb1 b3 HC
 obtain ⟨a1, cap1, rfl, hq⟩ := open_rows R1
 clear hq
 have c10 : w1.cell? ⟨w.heap.size + 1, 0, none⟩ = some (.int .i64 0) := cell_of_row w1 (w.heap.size + 1) 0 _ _ _ HG1.out.1
 have c11 : w1.cell? ⟨w.heap.size + 1, 1, none⟩ = some (.string ⟨#[]⟩) := cell_of_row w1 (w.heap.size + 1) 1 _ _ _ HG1.out.1
 have c12 : w1.cell? ⟨w.heap.size + 1, 2, none⟩ = some (.bool false) := cell_of_row w1 (w.heap.size + 1) 2 _ _ _ HG1.out.1
 have c13 : w1.cell? ⟨w.heap.size + 1, 3, none⟩ = some (.slice none 0 0) := cell_of_row w1 (w.heap.size + 1) 3 _ _ _ HG1.out.1
 have c20 : w1.cell? ⟨w.heap.size + 1 + 1, 0, none⟩ = some (.int .i64 x.kind) := cell_of_row w1 (w.heap.size + 1 + 1) 0 _ _ _ HG1.out.2
 have c21 : w1.cell? ⟨w.heap.size + 1 + 1, 1, none⟩ = some (.string x.text) := cell_of_row w1 (w.heap.size + 1 + 1) 1 _ _ _ HG1.out.2
 have c22 : w1.cell? ⟨w.heap.size + 1 + 1, 2, none⟩ = some (.bool x.spaced) := cell_of_row w1 (w.heap.size + 1 + 1) 2 _ _ _ HG1.out.2
 have c23 : w1.cell? ⟨w.heap.size + 1 + 1, 3, none⟩ = some (.slice none 0 0) := cell_of_row w1 (w.heap.size + 1 + 1) 3 _ _ _ HG1.out.2
 have f10 : w1.frozen? ⟨w.heap.size + 1, 0, none⟩ = false := frozen_of_row w1 (w.heap.size + 1) 0 _ _ HG1.out.1
 have f11 : w1.frozen? ⟨w.heap.size + 1, 1, none⟩ = false := frozen_of_row w1 (w.heap.size + 1) 1 _ _ HG1.out.1
 have f12 : w1.frozen? ⟨w.heap.size + 1, 2, none⟩ = false := frozen_of_row w1 (w.heap.size + 1) 2 _ _ HG1.out.1
 have f13 : w1.frozen? ⟨w.heap.size + 1, 3, none⟩ = false := frozen_of_row w1 (w.heap.size + 1) 3 _ _ HG1.out.1
 have f23 : w1.frozen? ⟨w.heap.size + 1 + 1, 3, none⟩ = false := frozen_of_row w1 (w.heap.size + 1 + 1) 3 _ _ HG1.out.2
 have hn1 : w.heap.size + 1 ∉ fp1 := fun hx => by have := hlo _ hx; omega
 have hn2 : w.heap.size + 1 + 1 ∉ fp1 := fun hx => by have := hlo _ hx; omega
 have HR := Lib.hid ((sSlice sStr).setB ((sSlice sStr).setB ((sSlice sStr).setB ((sSlice sStr).setB ((sSlice sStr).setB R1 hn2 3 (.slice a1 x.hidden.length cap1)) hn1 0 (.int .i64 x.kind)) hn1 1 (.string x.text)) hn1 2 (.bool x.spaced)) hn1 3 (.slice a1 x.hidden.length cap1))
 have HO := Lib.hid ((((((O1.lower (by omega : w.heap.size ≤ w.heap.size + 1 + 1 + 1)).setCell ⟨w.heap.size + 1 + 1, 3, none⟩ (.slice a1 x.hidden.length cap1)).setCell ⟨w.heap.size + 1, 0, none⟩ (.int .i64 x.kind)).setCell ⟨w.heap.size + 1, 1, none⟩ (.string x.text)).setCell ⟨w.heap.size + 1, 2, none⟩ (.bool x.spaced)).setCell ⟨w.heap.size + 1, 3, none⟩ (.slice a1 x.hidden.length cap1))
 have HB := Lib.hid (((((hb.setCell (p := ⟨w.heap.size + 1 + 1, 3, none⟩) (by simp; omega) (.slice a1 x.hidden.length cap1)).setCell (p := ⟨w.heap.size + 1, 0, none⟩) (by simp) (.int .i64 x.kind)).setCell (p := ⟨w.heap.size + 1, 1, none⟩) (by simp) (.string x.text)).setCell (p := ⟨w.heap.size + 1, 2, none⟩) (by simp) (.bool x.spaced)).setCell (p := ⟨w.heap.size + 1, 3, none⟩) (by simp) (.slice a1 x.hidden.length cap1))
 have HS := Lib.hid (blk_set (blk_set (blk_set (blk_set (blk_other HG1.out.1 (by omega : w.heap.size + 1 ≠ w.heap.size + 1 + 1) 3 (.slice a1 x.hidden.length cap1)) 0 (.int .i64 x.kind)) 1 (.string x.text)) 2 (.bool x.spaced)) 3 (.slice a1 x.hidden.length cap1))
 clear HG1
 go_wp2
 refine bodyPost_ret (results_cell_row rfl _ _ (w.heap.size + 1) _ _ _ _ rfl HS.out Tryd.underlying47 rfl (by kernel_rfl)) rfl ?_
 exact ⟨[.int .i64 x.kind, .string x.text, .bool x.spaced, .slice a1 x.hidden.length cap1], fp1, rfl, ⟨_, rfl, hk, hok, HR.out⟩, HO.out, HB.out⟩

section
variable {H : Type} {enc : TypeId × Value → H} {w : World} {base : Nat} {spare : Nat → Bool} {held : Bool}
theorem opens_Token : Opens enc Tryd.prog w base spare held 59 sTok :=
 opens_tok Tryd.underlying59 (by kernel_rfl) (by kernel_rfl) (opens_int Tryd.underlying3) (opens_str Tryd.underlying9) (opens_bool Tryd.underlying4) (opens_slice Tryd.underlying45 (by kernel_rfl) (by decide) (opens_str Tryd.underlying9))
end
end Go.Proofs.YtlegeancmcmbaaaDoor

/- Slices of tokens as arguments of a law: their size, their copy. -/
namespace Go.Proofs.YtlegeancmcmbaaaDoor
open Go.RowKit

def wtTokenS (l : List Tok) : Nat := l.length + (l.map wtToken).sum

set_option maxHeartbeats 2000000 in
set_option maxRecDepth 100000 in
theorem szTokenS (v : Value) (l : List Tok) (fp : List Nat) (w : World) (B : Int) (h0 : 0 ≤ B) (h1 : B ≤ 1048576) (H : (sSlice sTok).R w [v] l fp) :
  Calls Tryd.prog 17 #[v, .int .i64 B] w fun e w' => ∃ r : Int, e = .returned (.int .i64 r) ∧ SzR B r (wtTokenS l) ∧ Below w.heap.size w w' := by
 obtain ⟨a, cap, rfl, hc, hm, hrow⟩ := open_rows H
 unfold maxLen at hm
 clear H
 by_cases hl : B < l.length
 ·have HN : Hid (SzR B (-1) (wtTokenS l)) := SzR.no (by unfold wtTokenS; omega)
  go_enter Tryd.func17, Tryd.ntmps17
  go_wp2
  go_ret
  exact ⟨-1, rfl, HN.out, Below.refl _ _⟩
 ·go_enter Tryd.func17, Tryd.ntmps17
  go_wp2
  go_loopw [1, 5] (fun t i wr => ∃ (k : Nat) (r : Int), k ≤ l.length ∧ i = .int .i64 k ∧ t = .int .i64 r ∧ 0 ≤ r ∧ r ≤ B ∧ Hid (r = B - l.length - (((l.take k).map wtToken).sum : Nat)) ∧ Below w.heap.size w wr) (fun _ i _ => l.length - (intOf i).toNat)
  case atStart => exact ⟨0, _, by omega, rfl, rfl, by omega, by omega, by show _ = _; simp, Below.refl _ _⟩
  case round =>
   obtain ⟨k, r, hk, rfl, rfl, hr0, hr1, HA, hb⟩ := hrel
   by_cases hlt : k < l.length
   ·obtain ⟨b1, off1, fps1, rfl, hb1, -, he1⟩ := hrow (by omega)
    obtain ⟨es1, hE1, hR1⟩ := he1 k hlt
    clear hrow he1
    have hR2 := sTok.below hR1 hb
    obtain ⟨h1', rfl, _, _, _⟩ := hR1
    have HC := Lib.hid (szToken _ _ _ wr r hr0 (by omega) hR2)
    clear hR2
    replace hE1 := hE1.frame (hb.block b1 hb1)
    have c10 : wr.cell? ⟨b1, off1 + k * 4, none⟩ = some _ := elem_cell0 hE1 (by decide) rfl
    have c11 : wr.cell? ⟨b1, off1 + k * 4 + 1, none⟩ = some _ := elem_cell (j := 1) hE1 (by decide) rfl
    have c12 : wr.cell? ⟨b1, off1 + k * 4 + 2, none⟩ = some _ := elem_cell (j := 2) hE1 (by decide) rfl
    have c13 : wr.cell? ⟨b1, off1 + k * 4 + 3, none⟩ = some _ := elem_cell (j := 3) hE1 (by decide) rfl
    clear hE1
    have HT := Lib.hid (wsum_succ wtToken l k hlt)
    have HT2 := Lib.hid (wsum_le wtToken l (k + 1))
    go_wp2_with fail
    refine (HC.out).mono ?_
    rintro e w1 ⟨r', rfl, hr', hb2⟩
    clear c10 c11 c12 c13
    by_cases hn : r' < 0
    ·have HN : Hid (SzR B (-1) (wtTokenS l)) := SzR.no (by
      have hx : r < wtToken l[k] := by unfold SzR at hr'; split at hr' <;> omega
      have := HT2.out; have := HT.out; have := HA.out; unfold wtTokenS; omega)
     go_wp2
     go_ret
     exact ⟨-1, rfl, HN.out, hb.trans (hb2.mono hb.size)⟩
    ·have hg := hr'.good hn
     have hle := hr'.le hr0
     have HA' : Hid (r' = B - l.length - (((l.take (k + 1)).map wtToken).sum : Nat)) := by
      show _ = _
      have := HT.out; have := HA.out
      omega
     clear hr' hg
     go_wp2
     go_roundw
     case rel => exact ⟨k + 1, _, by omega, by go_num, rfl, by omega, by omega, HA'.out, hb.trans (hb2.mono hb.size)⟩
     case measure => simp [intOf]; omega
   ·have HN : Hid (SzR B r (wtTokenS l)) := by
     have h := HA.out
     rw [List.take_of_length_le (by omega)] at h
     exact SzR.yes (by unfold wtTokenS; omega) (by unfold wtTokenS; omega)
    go_wp2
    go_ret
    exact ⟨r, rfl, HN.out, hb⟩

set_option maxHeartbeats 4000000 in
set_option maxRecDepth 100000 in
theorem toTokenS (v : Value) (l : List Tok) (fp : List Nat) (w : World) (hW : wtTokenS l ≤ 1048576) (H : (sSlice sTok).R w [v] l fp) :
  Calls Tryd.prog 19 #[v] w (Made (sSlice sTok) l w) := by
 have hB : l.length ≤ 1048576 := by unfold wtTokenS at hW; omega
 have HW : Hid (∀ k, (hk : k < l.length) → wtToken l[k] ≤ 1048576) := fun k hk => by have := wsum_at wtToken l k hk; unfold wtTokenS at hW; omega
 obtain ⟨a, cap, rfl, hc, hm, hrow⟩ := open_rows H
 unfold maxLen at hm
 clear H hW
 go_enter Tryd.func19, Tryd.ntmps19
 go_wp2_with (at_make; refine wp_make_full ti_tok _ rfl _ _ rfl w.heap.size l.length rfl rfl (by omega) (by unfold maxLen; omega) (Nat.le_refl _) ?_; intro w1 hown hgrow)
 have hbel := (Below.refl w.heap.size w).grown hgrow (Nat.le_refl _) (by simp)
 have HF0 := Filling.start (S := sTok) (l := l) hown
 clear hgrow hown
 go_loopw [4] (fun i wr => ∃ (k : Nat) (L : List (Elem Tok)) (R : List Value), k ≤ l.length ∧ i = .int .i64 k ∧ Hid (Filling sTok w.heap.size 47 l k wr L R) ∧ Below w.heap.size w wr) (fun i _ => l.length - (intOf i).toNat)
 case atStart => exact ⟨0, _, _, by omega, rfl, HF0, hbel⟩
 case round =>
  obtain ⟨k, L, R, hk, rfl, HF, hb⟩ := hrel
  clear HF0 hbel
  by_cases hlt : k < l.length
  ·obtain ⟨b1, off1, fps1, rfl, hb1, -, he1⟩ := hrow (by omega)
   obtain ⟨es1, hE1, hR1⟩ := he1 k hlt
   clear hrow he1
   have hR2 := sTok.below hR1 hb
   obtain ⟨h1', rfl, _, _, _⟩ := hR1
   have HC := Lib.hid (toToken _ _ _ wr (HW.out k hlt) hR2)
   clear hR2
   replace hE1 := hE1.frame (hb.block b1 hb1)
   have c10 : wr.cell? ⟨b1, off1 + k * 4, none⟩ = some _ := elem_cell0 hE1 (by decide) rfl
   have c11 : wr.cell? ⟨b1, off1 + k * 4 + 1, none⟩ = some _ := elem_cell (j := 1) hE1 (by decide) rfl
   have c12 : wr.cell? ⟨b1, off1 + k * 4 + 2, none⟩ = some _ := elem_cell (j := 2) hE1 (by decide) rfl
   have c13 : wr.cell? ⟨b1, off1 + k * 4 + 3, none⟩ = some _ := elem_cell (j := 3) hE1 (by decide) rfl
   clear hE1
   go_wp2_with fail
   refine (HC.out).mono ?_
   rintro e w2 ⟨cs, fp2, rfl, hR2, hO2, hb2⟩
   have HN := Lib.hid (HF.out.next (cs := cs) hlt hb2 (by obtain ⟨_, rfl, _⟩ := hR2; rfl) hR2 hO2)
   obtain ⟨h2, rfl, _, _, K2⟩ := hR2
   obtain ⟨ah, caph, rfl, -⟩ := open_rows K2
   have HF2 := Lib.hid (HF.out.below hb2)
   obtain ⟨u0, d0⟩ : ∃ u, w2.cell? ⟨w.heap.size, k * 4, none⟩ = some u := HF2.out.cell hlt (j := 0) (by decide)
   obtain ⟨u1, d1⟩ : ∃ u, w2.cell? ⟨w.heap.size, k * 4 + 1, none⟩ = some u := HF2.out.cell hlt (j := 1) (by decide)
   obtain ⟨u2, d2⟩ : ∃ u, w2.cell? ⟨w.heap.size, k * 4 + 2, none⟩ = some u := HF2.out.cell hlt (j := 2) (by decide)
   obtain ⟨u3, d3⟩ : ∃ u, w2.cell? ⟨w.heap.size, k * 4 + 3, none⟩ = some u := HF2.out.cell hlt (j := 3) (by decide)
   have f0 := HF2.out.frozen (k * 4)
   have f1 := HF2.out.frozen (k * 4 + 1)
   have f2 := HF2.out.frozen (k * 4 + 2)
   have f3 := HF2.out.frozen (k * 4 + 3)
   clear c10 c11 c12 c13 K2 hO2
   go_wp2
   obtain ⟨R', HN⟩ := HN.out
   go_roundw
   case rel => exact ⟨k + 1, _, R', by omega, by go_num, HN, putAll_below (Nat.le_refl _) [_, _, _, _] _ (k * 4) (hb.trans (hb2.mono hb.size))⟩
   case measure => simp [intOf]; omega
  ·obtain ⟨fp', h1, h2⟩ := HF.out.done (by omega)
   go_wp2
   go_ret
   exact ⟨_, fp', rfl, h1, h2, hb⟩

end Go.Proofs.YtlegeancmcmbaaaDoor

/- Macro: its shape, and the law's own helpers. (Made by rec.py.) -/
namespace Go.Proofs.YtlegeancmcmbaaaDoor
open Go.RowKit Go.ChangeShapes Go.WideShapes Go.Deep

def sMacro : Shape DMacro where
 m := 4
 R w cs d fp := ∃ (h2 : Value) (h3 : Value) (fp2 : List Nat) (fp3 : List Nat), cs = [.string d.name, .bool d.function, h2, h3] ∧ okStr d.name ∧ (sSlice sStr).R w [h2] d.params fp2 ∧ (sSlice sTok).R w [h3] d.body fp3 ∧ fp = fp2 ++ fp3
 frame := by
  rintro w w' cs d fp hf ⟨h2, h3, fp2, fp3, rfl, k0, K2, K3, rfl⟩
  exact ⟨h2, h3, fp2, fp3, rfl, k0, (sSlice sStr).frame (fun b hb => hf b (by simp [hb])) K2, (sSlice sTok).frame (fun b hb => hf b (by simp [hb])) K3, rfl⟩
 lt := by
  rintro w cs d fp ⟨h2, h3, fp2, fp3, rfl, k0, K2, K3, rfl⟩ b hb
  rcases List.mem_append.1 hb with hb | hb
  ·exact (sSlice sStr).lt K2 b hb
  ·exact (sSlice sTok).lt K3 b hb
section
variable {H : Type} {enc : TypeId × Value → H} {P : Program} {w : World} {base : Nat} {spare : Nat → Bool} {held : Bool}
end
section
variable {H : Type} {enc : TypeId × Value → H} {w : World} {base : Nat} {spare : Nat → Bool} {held : Bool}
end
end Go.Proofs.YtlegeancmcmbaaaDoor

/- Whether two tokens need a space between them: the program and its model. -/
namespace Go.Proofs.YtlegeancmcmbaaaDoor
open Go.RowKit

def begins (x y : UInt8) : Bool := decide (x.toNat = 47) && (decide (y.toNat = 47) || decide (y.toNat = 42))
end Go.Proofs.YtlegeancmcmbaaaDoor

/- Whether two texts are read otherwise together: the model. -/
namespace Go.Proofs.YtlegeancmcmbaaaDoor
open Go.RowKit
end Go.Proofs.YtlegeancmcmbaaaDoor
