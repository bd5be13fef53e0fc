/- Texts that the proof of U stands on, in one file. -/
import Derived.Test.YtlegeancmcmbaaaDoorRows
import Derived.ProofKit
import Derived.WalkKit
import Derived.LoopTactic
import Derived.Lib.Hide
import Derived.Deep.Draws
import Derived.Test.YtlegeancmcmbaaaDoorShelf
import Derived.HandedShaped
import Derived.Lib.Index
import Derived.Lib.Strings
import Derived.Outline
import Derived.Deep.QuietTactic
import Derived.BigQuiet
import Derived.OwnWalk
set_option linter.unusedVariables false
set_option linter.unusedSimpArgs false
/- Words of our own over any program: what a law's end owes, for arguments of any type. -/
namespace Go.Proofs.YtlegeancmcmbaaaDoor
open Go.ChangeShapes Go.WideShapes Go.ChangeAt Go.RowKit

theorem trodAll_below {H : Type} {enc : TypeId × Value → H} {P : Program} (hl : laidOutB P = true) {W W' : World} (hb : Below W.heap.size W W') :
  ∀ {ts : List TypeId} {vs : List Value} {ds : List (DataW H)} {ps : List MemPlace}, (∀ t ∈ ts, P.readableRec t = true ∧ t < P.types.size) →
   DataW.TrodAll enc P W 0 (fun _ => true) true ts vs ds ps → DataW.TrodAll enc P W' 0 (fun b => decide (b < W.heap.size)) true ts vs ds ps
 | [], [], [], _, _, h => h
 |
  t :: ts, v :: vs, d :: ds, ps, hr, h => by
  obtain ⟨p, q, h1, h2, rfl⟩ := h
  obtain ⟨ha, hs⟩ := hr t (by simp)
  have hlt : ∀ x ∈ p, x.block < W.heap.size := by
   obtain ⟨fuel, hf⟩ := h1
   exact DataW.trod_lt fuel _ _ _ hf
  exact ⟨p, q, Below.trod hl ha hs h1 hb hlt, trodAll_below hl hb (fun t ht => hr t (by simp [ht])) h2, rfl⟩
 | [], _ :: _, _, _, _, h => h.elim
 | [], [], _ :: _, _, _, h => h.elim
 | _ :: _, [], _, _, _, h => h.elim
 | _ :: _, _ :: _, [], _, _, h => h.elim

theorem belowN {B : Nat} {a w : World} (h : Below B a w) (n : Nat) : Below B a (w.drewN n) := ⟨h.os, h.tape, h.output, h.size, h.block⟩

end Go.Proofs.YtlegeancmcmbaaaDoor

/- What the library's own variable holds. -/
namespace Go.Proofs.YtlegeancmcmbaaaDoor
open Go.RowKit

def Env (w : World) : Prop := ∃ m, w.cell? ⟨1, 0, none⟩ = some (.int .i64 m)
theorem Env.of_shaped {w : World} (h : w.ShapedOpen Tryd.prog) : Env w := Tryd.laysM143.s1_3 w h
theorem Env.below {w w' : World} {B : Nat} (h : Env w) (hb : Below B w w') (hB : w.heap.size ≤ B) : Env w' := by
 obtain ⟨m, hm⟩ := h
 exact ⟨m, (hb.cell (p := ⟨1, 0, none⟩) (Nat.lt_of_lt_of_le (World.block_lt_of_cell? w _ hm) hB)).trans hm⟩

end Go.Proofs.YtlegeancmcmbaaaDoor

/- LineValid of the program and of its model answer alike for every text. -/
namespace Go.Proofs.YtlegeancmcmbaaaDoor
open Go.RowKit

def okByte (c : UInt8) : Bool := 32 ≤ c && c ≤ 126
def lineOk (s : ByteArray) : Bool := decide (s.size ≤ 200) && s.data.toList.all okByte

theorem okByte_iff (c : UInt8) : okByte c = true ↔ 32 ≤ c.toNat ∧ c.toNat ≤ 126 := by
 simp [okByte, UInt8.le_iff_toNat_le]

def OkUpto (s : ByteArray) (k : Nat) : Prop := ∀ j, (h : j < s.size) → j < k → okByte s[j] = true

theorem OkUpto.zero (s : ByteArray) : OkUpto s 0 := by intro j h; omega
theorem OkUpto.succ {s : ByteArray} {k : Nat} (h : OkUpto s k) (hk : k < s.size) (hb : 32 ≤ (s[k].toNat : Int) ∧ (s[k].toNat : Int) ≤ 126) : OkUpto s (k + 1) := by
 intro j hj hjk
 by_cases e : j = k
 ·subst e; rw [okByte_iff]; omega
 ·exact h j hj (by omega)

theorem lineOk_no {s : ByteArray} {k : Nat} (hk : k < s.size) (hb : ¬ (32 ≤ (s[k].toNat : Int) ∧ (s[k].toNat : Int) ≤ 126)) : lineOk s = false := by
 unfold lineOk
 have : s.data.toList.all okByte = false := by
  rw [List.all_eq_false]
  refine ⟨s[k], ?_, ?_⟩
  ·simp [ByteArray.getElem_eq_getElem_data]
  ·rw [okByte_iff]; omega
 rw [this, Bool.and_false]

theorem lineOk_long {s : ByteArray} (h : 200 < s.size) : lineOk s = false := by
 unfold lineOk; rw [decide_eq_false (by omega), Bool.false_and]

theorem lineOk_yes {s : ByteArray} {k : Nat} (h : OkUpto s k) (hk : s.size ≤ k) : lineOk s = decide (s.size ≤ 200) := by
 unfold lineOk
 have : s.data.toList.all okByte = true := by
  rw [List.all_eq_true]
  intro x hx
  obtain ⟨i, hi, rfl⟩ := List.getElem_of_mem hx
  have hi' : i < s.size := by simpa using hi
  have := h i hi' (by omega)
  simpa [ByteArray.getElem_eq_getElem_data] using this
 rw [this, Bool.and_true]

theorem ret_bool {a b : Bool} (h : a = b) : Ending.returned (.bool a) = .returned (.bool b) := by rw [h]

set_option maxHeartbeats 400000 in
theorem spec_LineValid (s : ByteArray) (w : World) (hs : s.size ≤ maxLen) :
  Calls Tryd.prog 59 #[.string s] w fun e w' => e = .returned (.bool (lineOk s)) ∧ w = w' := by
 unfold maxLen at hs
 go_enter Tryd.func59, Tryd.ntmps59
 go_wp2
 go_loop [3] (fun i => ∃ k : Nat, k ≤ s.size ∧ i = .int .i64 k ∧ OkUpto s k) (fun i => s.size - (intOf i).toNat)
 case atStart => exact ⟨0, by omega, rfl, OkUpto.zero s⟩
 case round =>
  obtain ⟨k, hk, rfl, hall⟩ := hrel
  by_cases hlt : k < s.size
  ·by_cases hb : 32 ≤ (s[k].toNat : Int) ∧ (s[k].toNat : Int) ≤ 126
   ·have hn := hall.succ hlt hb
    go_wp2
    go_round
    case rel => exact ⟨k + 1, by omega, by go_num, hn⟩
    case measure => simp [intOf]; omega
   ·have HF := Lib.hid (lineOk_no hlt hb)
    go_wp2
    all_goals (go_ret; exact ⟨ret_bool HF.out.symm, rfl⟩)
  ·have HF := Lib.hid (lineOk_yes hall (by omega))
   go_wp2
   go_ret
   exact ⟨ret_bool (by rw [HF.out]; exact decide_eq_decide.2 (by omega)), rfl⟩

set_option maxHeartbeats 400000 in
theorem impl_LineValid (s : ByteArray) (w : World) (hs : s.size ≤ maxLen) :
  Calls Tryd.prog 31 #[.string s] w fun e w' => e = .returned (.bool (lineOk s)) ∧ w = w' := by
 unfold maxLen at hs
 by_cases hl : 200 < s.size
 ·have HF := Lib.hid (lineOk_long hl)
  go_enter Tryd.func31, Tryd.ntmps31
  go_wp2
  go_ret
  exact ⟨ret_bool HF.out.symm, rfl⟩
 ·go_enter Tryd.func31, Tryd.ntmps31
  go_wp2
  go_loop [9] (fun i => ∃ k : Nat, k ≤ s.size ∧ i = .int .i64 k ∧ OkUpto s k) (fun i => s.size - (intOf i).toNat)
  case atStart => exact ⟨0, by omega, rfl, OkUpto.zero s⟩
  case round =>
   obtain ⟨k, hk, rfl, hall⟩ := hrel
   by_cases hlt : k < s.size
   ·by_cases hb : 32 ≤ (s[k].toNat : Int) ∧ (s[k].toNat : Int) ≤ 126
    ·have hn := hall.succ hlt hb
     go_wp2
     go_round
     case rel => exact ⟨k + 1, by omega, by go_num, hn⟩
     case measure => simp [intOf]; omega
    ·have HF := Lib.hid (lineOk_no hlt hb)
     go_wp2
     all_goals (go_ret; exact ⟨ret_bool HF.out.symm, rfl⟩)
   ·have HF := Lib.hid (lineOk_yes hall (by omega))
    go_wp2
    go_ret
    exact ⟨ret_bool (by rw [HF.out]; exact (decide_eq_true (by omega)).symm), rfl⟩

end Go.Proofs.YtlegeancmcmbaaaDoor

/- Lines without their comments: no program. -/
namespace Go.Proofs.YtlegeancmcmbaaaDoor
open Go.RowKit

def tEnd (s : ByteArray) (k : Nat) : Nat :=
 if h : k < s.size then (if s[k].toNat = 34 then k + 1 else if s[k].toNat = 92 then tEnd s (k + 2) else tEnd s (k + 1)) else s.size
termination_by s.size - k
theorem tEnd_quote {s : ByteArray} {k : Nat} (h : k < s.size) (hc : s[k].toNat = 34) : tEnd s k = k + 1 := by rw [tEnd, dif_pos h, if_pos hc]
theorem tEnd_back {s : ByteArray} {k : Nat} (h : k < s.size) (hc : s[k].toNat = 92) : tEnd s k = tEnd s (k + 2) := by rw [tEnd, dif_pos h, if_neg (by omega), if_pos hc]
theorem tEnd_else {s : ByteArray} {k : Nat} (h : k < s.size) (h1 : ¬ s[k].toNat = 34) (h2 : ¬ s[k].toNat = 92) : tEnd s k = tEnd s (k + 1) := by rw [tEnd, dif_pos h, if_neg h1, if_neg h2]
theorem tEnd_out {s : ByteArray} {k : Nat} (h : s.size ≤ k) : tEnd s k = s.size := by rw [tEnd, dif_neg (by omega)]
theorem tEnd_bounds (s : ByteArray) (k : Nat) : tEnd s k ≤ s.size ∧ (k ≤ s.size → k ≤ tEnd s k) := by
 induction k using tEnd.induct (s := s) with
 | case1 k h hc => rw [tEnd_quote h hc]; omega
 |
  case2 k h h1 hc ih => rw [tEnd_back h hc]; exact ⟨ih.1, fun _ => by
  by_cases h2 : k + 2 ≤ s.size
  ·have := ih.2 h2; omega
  ·rw [tEnd_out (by omega)]; omega⟩
 | case3 k h h1 h2 ih => rw [tEnd_else h h1 h2]; exact ⟨ih.1, fun _ => by have := ih.2 (by omega); omega⟩
 | case4 k h => rw [tEnd_out (by omega)]; omega

def two (s : ByteArray) (k : Nat) (a b : UInt8) : Bool := [a, b].isPrefixOf (s.data.toList.drop k)
theorem take_two (l : List UInt8) (a b : UInt8) : (l.take 2 == [a, b]) = [a, b].isPrefixOf l := by
 match l with
 | [] => rfl
 | [x] => simp [List.isPrefixOf]
 |
  x :: y :: t =>
  show ([x, y] == [a, b]) = (a == x && (b == y && true))
  rw [Bool.eq_iff_iff, beq_iff_eq, Bool.and_eq_true, Bool.and_eq_true, beq_iff_eq, beq_iff_eq, List.cons.injEq, List.cons.injEq]
  exact ⟨fun h => ⟨h.1.symm, h.2.1.symm, rfl⟩, fun h => ⟨h.1.symm, h.2.1.symm, rfl⟩⟩
theorem ext_list (s : ByteArray) (i j : Nat) : (s.extract i j).data.toList = (s.data.toList.drop i).take (j - i) := by
 rw [ByteArray.data_extract, Array.toList_extract, List.extract_eq_take_drop]
theorem ext_two (s : ByteArray) (k : Nat) (a b : UInt8) : ((s.extract k (k + 2)).toList == [a, b]) = two s k a b := by
 rw [ByteArray.toList_eq, ext_list, show k + 2 - k = 2 from by omega, take_two]; rfl
theorem ext_min (s : ByteArray) (k : Nat) : s.extract k (min s.size (k + 2)) = s.extract k (k + 2) := by
 apply Go.WideShapes.bytes_inj
 rw [ext_list, ext_list]
 by_cases h : k + 2 ≤ s.size
 ·rw [Nat.min_eq_right h]
 ·have e : s.data.toList.length = s.size := Array.length_toList
  rw [Nat.min_eq_left (by omega), List.take_of_length_le (by rw [List.length_drop]; omega), List.take_of_length_le (by rw [List.length_drop]; omega)]
theorem ext_rest (s : ByteArray) (k : Nat) : (s.extract k s.size).data.toList = s.data.toList.drop k := by
 have e : s.data.toList.length = s.size := Array.length_toList
 rw [ext_list, List.take_of_length_le (by rw [List.length_drop]; omega)]
theorem pre_two (s : ByteArray) (k : Nat) (a b : UInt8) : Lib.hasPrefix (s.extract k s.size).data.toList [a, b] = two s k a b := by
 rw [ext_rest]; rfl
theorem two_room {s : ByteArray} {k : Nat} {a b : UInt8} (h : two s k a b = true) : k + 1 < s.size := by
 have e : s.data.toList.length = s.size := Array.length_toList
 have := List.IsPrefix.length_le (List.isPrefixOf_iff_prefix.1 h)
 simp only [List.length_cons, List.length_nil, List.length_drop] at this
 omega

def cEnd (s : ByteArray) (k : Nat) : Int := if Lib.index (s.data.toList.drop k) [42, 47] < 0 then -1 else k + Lib.index (s.data.toList.drop k) [42, 47] + 2
theorem index_room : ∀ (l : List UInt8) {sub : List UInt8}, 0 ≤ Lib.index l sub → (Lib.index l sub).toNat + sub.length ≤ l.length
 |
  [], sub, h => by
  unfold Lib.index at *
  split at h
  ·rename_i h1; have : sub = [] := by simpa using h1
   subst this; simp
  ·omega
 |
  b :: l, sub, h => by
  unfold Lib.index at *
  split at h
  ·rename_i h1
   rw [if_pos h1]
   have := List.IsPrefix.length_le (List.isPrefixOf_iff_prefix.1 h1)
   simpa using this
  ·rename_i h1
   rw [if_neg h1]
   split at h
   ·omega
   ·rename_i h2
    rw [if_neg h2]
    have h3 := Lib.index_ge l sub
    have h4 : ¬ Lib.index l sub = -1 := by simpa using h2
    have := index_room l (sub := sub) (by omega)
    simp only [List.length_cons]
    omega
theorem cEnd_room {s : ByteArray} {k : Nat} (h : 0 ≤ cEnd s k) (hk : k ≤ s.size) : (k : Int) + 2 ≤ cEnd s k ∧ cEnd s k ≤ s.size := by
 unfold cEnd at *
 split at h
 ·omega
 ·rename_i h1
  rw [if_neg h1]
  have := index_room (s.data.toList.drop k) (sub := [42, 47]) (by omega)
  have e : s.data.toList.length = s.size := Array.length_toList
  simp only [List.length_cons, List.length_nil, List.length_drop] at this
  omega
def NoEnd (s : ByteArray) (k m : Nat) : Prop := ∀ j, k ≤ j → j < m → two s j 42 47 = false
theorem NoEnd.zero (s : ByteArray) (k : Nat) : NoEnd s k k := fun j h1 h2 => by omega
theorem NoEnd.succ {s : ByteArray} {k m : Nat} (h : NoEnd s k m) (h2 : two s m 42 47 = false) : NoEnd s k (m + 1) := by
 intro j h1 hj
 by_cases e : j = m
 ·subst e; exact h2
 ·exact h j h1 (by omega)
theorem NoEnd.hit {s : ByteArray} {k m : Nat} (h : NoEnd s k m) (hk : k ≤ m) (h2 : two s m 42 47 = true) : cEnd s k = m + 2 := by
 have hr := two_room h2
 have e : s.data.toList.length = s.size := Array.length_toList
 have : Lib.index (s.data.toList.drop k) [42, 47] = ((m - k : Nat) : Int) := by
  refine Lib.index_first (by rw [List.length_drop]; omega) ?_ ?_
  ·unfold Lib.occAt; rw [List.drop_drop, show k + (m - k) = m from by omega]; exact h2
  ·intro j hj; unfold Lib.occAt; rw [List.drop_drop]; exact h (k + j) (by omega) (by omega)
 unfold cEnd
 rw [this, if_neg (by omega)]
 omega
theorem NoEnd.miss {s : ByteArray} {k m : Nat} (h : NoEnd s k m) (hm : s.size ≤ m + 1) : cEnd s k = -1 := by
 have : Lib.index (s.data.toList.drop k) [42, 47] = -1 := by
  refine Lib.index_none fun j hj => ?_
  unfold Lib.occAt; rw [List.drop_drop]
  by_cases hj : k + j < m
  ·exact h (k + j) (by omega) hj
  ·cases hb : List.isPrefixOf [42, 47] (s.data.toList.drop (k + j))
   ·rfl
   ·have := two_room (s := s) (k := k + j) hb; omega
 unfold cEnd
 rw [this]; rfl

def strip1 (s : ByteArray) (k : Nat) : Option ByteArray :=
 if h : k < s.size then
  if two s k 47 47 = true then some ⟨#[]⟩
  else if two s k 47 42 = true then
   if cEnd s (k + 2) < 0 then none else (strip1 s (max (k + 1) (cEnd s (k + 2)).toNat)).map (⟨#[32]⟩ ++ ·)
  else if s[k].toNat = 34 then (strip1 s (max (k + 1) (tEnd s (k + 1)))).map (s.extract k (tEnd s (k + 1)) ++ ·)
  else (strip1 s (k + 1)).map (s.extract k (k + 1) ++ ·)
 else some ⟨#[]⟩
termination_by s.size - k

def At1 (s : ByteArray) (k : Nat) (out : ByteArray) : Prop := (strip1 s k).map (out ++ ·) = strip1 s 0 ∧ out.size ≤ k
theorem app_assoc (a b : ByteArray) (o : Option ByteArray) : (o.map (b ++ ·)).map (a ++ ·) = o.map ((a ++ b) ++ ·) := by
 rw [Option.map_map]; congr 1; funext x; simp [ByteArray.append_assoc]
theorem nil_app (a : ByteArray) : (⟨#[]⟩ : ByteArray) ++ a = a := by apply Go.WideShapes.bytes_inj; simp
theorem app_nil (a : ByteArray) : a ++ (⟨#[]⟩ : ByteArray) = a := by apply Go.WideShapes.bytes_inj; simp
theorem At1.zero (s : ByteArray) : At1 s 0 ⟨#[]⟩ := ⟨by
 have : (fun x : ByteArray => (⟨#[]⟩ : ByteArray) ++ x) = id := by funext x; exact nil_app x
 rw [this, Option.map_id]; rfl, by simp [ByteArray.size]⟩
theorem At1.line {s : ByteArray} {k : Nat} {out : ByteArray} (h : At1 s k out) (hk : k < s.size) (h1 : two s k 47 47 = true) : strip1 s 0 = some out := by
 rw [← h.1, strip1, dif_pos hk, if_pos h1, Option.map_some, app_nil]
theorem At1.done {s : ByteArray} {k : Nat} {out : ByteArray} (h : At1 s k out) (hk : s.size ≤ k) : strip1 s 0 = some out := by
 rw [← h.1, strip1, dif_neg (by omega), Option.map_some, app_nil]
theorem At1.open_ {s : ByteArray} {k : Nat} {out : ByteArray} (h : At1 s k out) (hk : k < s.size) (h1 : two s k 47 47 = false) (h2 : two s k 47 42 = true) (h3 : cEnd s (k + 2) < 0) : strip1 s 0 = none := by
 rw [← h.1, strip1, dif_pos hk, if_neg (by simp [h1]), if_pos h2, if_pos h3]; rfl
theorem At1.comment {s : ByteArray} {k : Nat} {out : ByteArray} (h : At1 s k out) (hk : k < s.size) (h1 : two s k 47 47 = false) (h2 : two s k 47 42 = true) (h3 : ¬ cEnd s (k + 2) < 0) : At1 s (cEnd s (k + 2)).toNat (out ++ ⟨#[32]⟩) := by
 have hr := two_room h2
 have hc := cEnd_room (s := s) (k := k + 2) (by omega) (by omega)
 refine ⟨?_, by rw [ByteArray.size_append]; have := h.2; show out.size + 1 ≤ _; omega⟩
 rw [← h.1, strip1.eq_def s k, dif_pos hk, if_neg (by simp [h1]), if_pos h2, if_neg h3, app_assoc, Nat.max_eq_right (by omega)]
theorem At1.text {s : ByteArray} {k : Nat} {out : ByteArray} (h : At1 s k out) (hk : k < s.size) (h1 : two s k 47 47 = false) (h2 : two s k 47 42 = false) (h3 : s[k].toNat = 34) : At1 s (tEnd s (k + 1)) (out ++ s.extract k (tEnd s (k + 1))) := by
 have hb := tEnd_bounds s (k + 1)
 have hb2 := hb.2 (by omega)
 refine ⟨?_, by rw [ByteArray.size_append, ByteArray.size_extract]; have := h.2; omega⟩
 rw [← h.1, strip1.eq_def s k, dif_pos hk, if_neg (by simp [h1]), if_neg (by simp [h2]), if_pos h3, app_assoc, Nat.max_eq_right (by omega)]
theorem At1.byte {s : ByteArray} {k : Nat} {out : ByteArray} (h : At1 s k out) (hk : k < s.size) (h1 : two s k 47 47 = false) (h2 : two s k 47 42 = false) (h3 : ¬ s[k].toNat = 34) : At1 s (k + 1) (out ++ s.extract k (k + 1)) := by
 refine ⟨?_, by rw [ByteArray.size_append, ByteArray.size_extract]; have := h.2; omega⟩
 rw [← h.1, strip1.eq_def s k, dif_pos hk, if_neg (by simp [h1]), if_neg (by simp [h2]), if_neg h3, app_assoc]

def stripRes (s : ByteArray) : ByteArray × Bool := if lineOk s = true then (match strip1 s 0 with | none => (⟨#[]⟩, false) | some x => (x, true)) else (⟨#[]⟩, false)
theorem stripRes_bad {s : ByteArray} (h : lineOk s = false) : stripRes s = (⟨#[]⟩, false) := by unfold stripRes; rw [h]; rfl
theorem stripRes_none {s : ByteArray} (h : strip1 s 0 = none) : stripRes s = (⟨#[]⟩, false) := by unfold stripRes; rw [h]; split <;> rfl
theorem stripRes_some {s x : ByteArray} (h0 : lineOk s = true) (h : strip1 s 0 = some x) : stripRes s = (x, true) := by unfold stripRes; rw [if_pos h0, h]
theorem lineOk_size {s : ByteArray} (h : lineOk s = true) : s.size ≤ 200 := by
 unfold lineOk at h
 rw [Bool.and_eq_true, decide_eq_true_eq] at h
 exact h.1
theorem ret_two {a : ByteArray × Bool} {x : ByteArray} {b : Bool} (h : a = (x, b)) : Ending.returned (.tuple #[.string x, .bool b]) = .returned (.tuple #[.string a.1, .bool a.2]) := by rw [h]

end Go.Proofs.YtlegeancmcmbaaaDoor

/- Tokens of a line: no program. -/
namespace Go.Proofs.YtlegeancmcmbaaaDoor
open Go.RowKit

structure Tok where
 kind : Int
 text : ByteArray
 spaced : Bool
 hidden : List ByteArray
theorem Tok.ext' {a b : Tok} (h1 : a.kind = b.kind) (h2 : a.text = b.text) (h3 : a.spaced = b.spaced) (h4 : a.hidden = b.hidden) : a = b := by
 cases a; cases b; simp_all
instance : DecidableEq Tok := fun a b =>
 if h1 : a.kind = b.kind then if h2 : a.text = b.text then if h3 : a.spaced = b.spaced then if h4 : a.hidden = b.hidden then isTrue (Tok.ext' h1 h2 h3 h4)
  else isFalse fun h => h4 (by rw [h]) else isFalse fun h => h3 (by rw [h]) else isFalse fun h => h2 (by rw [h]) else isFalse fun h => h1 (by rw [h])

def isLet (c : UInt8) : Bool := decide (97 ≤ c.toNat ∧ c.toNat ≤ 122 ∨ 65 ≤ c.toNat ∧ c.toNat ≤ 90 ∨ c.toNat = 95)
def isDig (c : UInt8) : Bool := decide (48 ≤ c.toNat ∧ c.toNat ≤ 57)
def isWord (c : UInt8) : Bool := isLet c || isDig c
theorem isLet_iff (c : UInt8) : isLet c = true ↔ (97 ≤ c.toNat ∧ c.toNat ≤ 122 ∨ 65 ≤ c.toNat ∧ c.toNat ≤ 90 ∨ c.toNat = 95) := by unfold isLet; exact decide_eq_true_iff
theorem isDig_iff (c : UInt8) : isDig c = true ↔ (48 ≤ c.toNat ∧ c.toNat ≤ 57) := by unfold isDig; exact decide_eq_true_iff
theorem isWord_iff (c : UInt8) : isWord c = true ↔ ((97 ≤ c.toNat ∧ c.toNat ≤ 122 ∨ 65 ≤ c.toNat ∧ c.toNat ≤ 90 ∨ c.toNat = 95) ∨ (48 ≤ c.toNat ∧ c.toNat ≤ 57)) := by
 unfold isWord; rw [Bool.or_eq_true, isLet_iff, isDig_iff]
def wEnd (s : ByteArray) (k : Nat) : Nat := if h : k < s.size then (if isWord s[k] = true then wEnd s (k + 1) else k) else k
termination_by s.size - k
theorem wEnd_in {s : ByteArray} {k : Nat} (h : k < s.size) (hc : isWord s[k] = true) : wEnd s k = wEnd s (k + 1) := by rw [wEnd, dif_pos h, if_pos hc]
theorem wEnd_stop {s : ByteArray} {k : Nat} (h : k < s.size) (hc : isWord s[k] = false) : wEnd s k = k := by rw [wEnd, dif_pos h, if_neg (by simp [hc])]
theorem wEnd_out {s : ByteArray} {k : Nat} (h : s.size ≤ k) : wEnd s k = k := by rw [wEnd, dif_neg (by omega)]
theorem wEnd_bounds (s : ByteArray) (k : Nat) : k ≤ wEnd s k ∧ (k ≤ s.size → wEnd s k ≤ s.size) := by
 induction k using wEnd.induct (s := s) with
 | case1 k h hc ih => rw [wEnd_in h hc]; exact ⟨by omega, fun _ => ih.2 (by omega)⟩
 | case2 k h hc => rw [wEnd_stop h (by simpa using hc)]; omega
 | case3 k h => rw [wEnd_out (by omega)]; omega

def tClose (s : ByteArray) (k : Nat) : Option Nat :=
 if h : k < s.size then (if s[k].toNat = 34 then some (k + 1) else if s[k].toNat = 92 then tClose s (k + 2) else tClose s (k + 1)) else none
termination_by s.size - k
theorem tClose_quote {s : ByteArray} {k : Nat} (h : k < s.size) (hc : s[k].toNat = 34) : tClose s k = some (k + 1) := by rw [tClose, dif_pos h, if_pos hc]
theorem tClose_back {s : ByteArray} {k : Nat} (h : k < s.size) (hc : s[k].toNat = 92) : tClose s k = tClose s (k + 2) := by rw [tClose, dif_pos h, if_neg (by omega), if_pos hc]
theorem tClose_else {s : ByteArray} {k : Nat} (h : k < s.size) (h1 : ¬ s[k].toNat = 34) (h2 : ¬ s[k].toNat = 92) : tClose s k = tClose s (k + 1) := by rw [tClose, dif_pos h, if_neg h1, if_neg h2]
theorem tClose_out {s : ByteArray} {k : Nat} (h : s.size ≤ k) : tClose s k = none := by rw [tClose, dif_neg (by omega)]
theorem tClose_some {s : ByteArray} {k e : Nat} (h : tClose s k = some e) : k + 1 ≤ e ∧ e ≤ s.size ∧ tEnd s k = e ∧ ∃ hh : e - 1 < s.size, s[e - 1].toNat = 34 := by
 induction k using tClose.induct (s := s) with
 |
  case1 k hk hc =>
  rw [tClose_quote hk hc, Option.some.injEq] at h
  subst h
  exact ⟨by omega, by omega, tEnd_quote hk hc, by simp; omega, hc⟩
 |
  case2 k hk h1 hc ih =>
  rw [tClose_back hk hc] at h
  obtain ⟨a, b, c, d⟩ := ih h
  exact ⟨by omega, b, by rw [tEnd_back hk hc, c], d⟩
 |
  case3 k hk h1 h2 ih =>
  rw [tClose_else hk h1 h2] at h
  obtain ⟨a, b, c, d⟩ := ih h
  exact ⟨by omega, b, by rw [tEnd_else hk h1 h2, c], d⟩
 | case4 k hk => rw [tClose_out (by omega)] at h; exact absurd h (by simp)
theorem tClose_none {s : ByteArray} {k : Nat} (h : tClose s k = none) : tEnd s k = s.size := by
 induction k using tClose.induct (s := s) with
 | case1 k hk hc => rw [tClose_quote hk hc] at h; simp at h
 | case2 k hk h1 hc ih => rw [tClose_back hk hc] at h; rw [tEnd_back hk hc, ih h]
 | case3 k hk h1 h2 ih => rw [tClose_else hk h1 h2] at h; rw [tEnd_else hk h1 h2, ih h]
 | case4 k hk => exact tEnd_out (by omega)

def plus (s : ByteArray) : ByteArray := s ++ ⟨#[32]⟩
theorem plus_size (s : ByteArray) : (plus s).size = s.size + 1 := by unfold plus; rw [ByteArray.size_append]; rfl
theorem plus_at (s : ByteArray) (k : Nat) (h : k < s.size) : (plus s)[k]'(by rw [plus_size]; omega) = s[k] := by
 unfold plus; rw [ByteArray.getElem_append_left h]
theorem plus_end (s : ByteArray) : (plus s)[s.size]'(by rw [plus_size]; omega) = 32 := by
 unfold plus; rw [ByteArray.getElem_append_right (Nat.le_refl _)]; simp; rfl
theorem tEnd_plus (s : ByteArray) (k : Nat) (hk : k ≤ s.size + 1) : tEnd (plus s) k = match tClose s k with | some e => e | none => s.size + 1 := by
 induction k using tClose.induct (s := s) with
 |
  case1 k h hc =>
  rw [tClose_quote h hc, tEnd_quote (by rw [plus_size]; omega) (by rw [plus_at s k h]; exact hc)]
 |
  case2 k h h1 hc ih =>
  rw [tClose_back h hc, tEnd_back (by rw [plus_size]; omega) (by rw [plus_at s k h]; exact hc)]
  exact ih (by omega)
 |
  case3 k h h1 h2 ih =>
  rw [tClose_else h h1 h2, tEnd_else (by rw [plus_size]; omega) (by rw [plus_at s k h]; exact h1) (by rw [plus_at s k h]; exact h2)]
  exact ih (by omega)
 |
  case4 k h =>
  rw [tClose_out (by omega)]
  by_cases e : k = s.size
  ·subst e
   rw [tEnd_else (by rw [plus_size]; omega) (by rw [plus_end]; decide) (by rw [plus_end]; decide), tEnd_out (by rw [plus_size]; omega), plus_size]
  ·rw [tEnd_out (by rw [plus_size]; omega), plus_size]

def bk (s : ByteArray) (k e : Nat) : Nat := if h : k < e ∧ k < s.size then (if s[k].toNat = 92 then bk s (k + 2) e else bk s (k + 1) e) else k
termination_by e - k
theorem bk_back {s : ByteArray} {k e : Nat} (h : k < e) (h' : k < s.size) (hc : s[k].toNat = 92) : bk s k e = bk s (k + 2) e := by rw [bk, dif_pos ⟨h, h'⟩, if_pos hc]
theorem bk_else {s : ByteArray} {k e : Nat} (h : k < e) (h' : k < s.size) (hc : ¬ s[k].toNat = 92) : bk s k e = bk s (k + 1) e := by rw [bk, dif_pos ⟨h, h'⟩, if_neg hc]
theorem bk_out {s : ByteArray} {k e : Nat} (h : e ≤ k) : bk s k e = k := by rw [bk, dif_neg (by omega)]
theorem bk_closed {s : ByteArray} {k e : Nat} (h : tClose s k = some e) : bk s k (e - 1) = e - 1 := by
 induction k using tClose.induct (s := s) with
 |
  case1 k hk hc =>
  rw [tClose_quote hk hc, Option.some.injEq] at h
  subst h
  rw [bk_out (by omega)]; omega
 |
  case2 k hk h1 hc ih =>
  rw [tClose_back hk hc] at h
  have := tClose_some h
  rw [bk_back (by omega) hk hc]
  exact ih h
 |
  case3 k hk h1 h2 ih =>
  rw [tClose_else hk h1 h2] at h
  have := tClose_some h
  rw [bk_else (by omega) hk h2]
  exact ih h
 | case4 k hk => rw [tClose_out (by omega)] at h; exact absurd h (by simp)
theorem bk_open {s : ByteArray} {k : Nat} (h : tClose s k = none) (hk : k < s.size) (hq : s[s.size - 1].toNat = 34) : bk s k (s.size - 1) ≠ s.size - 1 := by
 induction k using tClose.induct (s := s) with
 | case1 k hk hc => rw [tClose_quote hk hc] at h; simp at h
 |
  case2 k hk' h1 hc ih =>
  rw [tClose_back hk' hc] at h
  have hn : k ≠ s.size - 1 := by rintro rfl; omega
  rw [bk_back (by omega) hk' hc]
  by_cases h2 : k + 2 < s.size
  ·exact ih h h2 hq
  ·rw [bk_out (by omega)]; omega
 |
  case3 k hk' h1 h2 ih =>
  rw [tClose_else hk' h1 h2] at h
  have hn : k ≠ s.size - 1 := by rintro rfl; omega
  rw [bk_else (by omega) hk' h2]
  exact ih h (by omega) hq
 | case4 k hk' => omega

def twoAt (s : ByteArray) (k : Nat) : Bool := two s k 61 61 || two s k 33 61 || two s k 60 61 || two s k 62 61 || two s k 38 38 || two s k 124 124 || two s k 35 35
def marks1 : List UInt8 := [43, 45, 42, 47, 37, 60, 62, 61, 33, 38, 124, 40, 41, 44, 35, 59, 63, 58, 123, 125, 91, 93, 46]
def mLen (s : ByteArray) (k : Nat) : Nat := if twoAt s k = true then 2 else if h : k < s.size then (if s[k] ∈ marks1 then 1 else 0) else 0
theorem twoAt_room {s : ByteArray} {k : Nat} (h : twoAt s k = true) : k + 1 < s.size := by
 unfold twoAt at h
 simp only [Bool.or_eq_true] at h
 rcases h with (((((h | h) | h) | h) | h) | h) | h <;> exact two_room h
theorem mLen_room {s : ByteArray} {k : Nat} (hk : k < s.size) : k + mLen s k ≤ s.size ∧ mLen s k ≤ 2 := by
 unfold mLen
 split
 ·rename_i h; have := twoAt_room h; omega
 ·split <;> (try split) <;> omega

def wordTo (s : ByteArray) (k : Nat) : Int := if 12 < wEnd s k - k then -1 else (wEnd s k : Int)
theorem wordTo_long {s : ByteArray} {k0 k : Nat} (h : k = wEnd s k0) (h1 : 12 < (k : Int) - (k0 : Int)) : (-1 : Int) = wordTo s k0 := by unfold wordTo; rw [← h, if_pos (by omega)]
theorem wordTo_short {s : ByteArray} {k0 k : Nat} (h : k = wEnd s k0) (h1 : ¬ 12 < (k : Int) - (k0 : Int)) : (k : Int) = wordTo s k0 := by unfold wordTo; rw [← h, if_neg (by omega)]
def closeTo (s : ByteArray) (k : Nat) : Int := match tClose s k with | some e => (e : Int) | none => -1
theorem closeTo_some {s : ByteArray} {k e : Nat} (h : tClose s k = some e) : closeTo s k = e := by unfold closeTo; rw [h]
theorem closeTo_none {s : ByteArray} {k : Nat} (h : tClose s k = none) : closeTo s k = -1 := by unfold closeTo; rw [h]
def markTo (s : ByteArray) (k : Nat) : Int := if mLen s k = 0 then -1 else ((k + mLen s k : Nat) : Int)
def cutKind (c : UInt8) : Int := if isDig c = true then 2 else if isLet c = true then 1 else if c.toNat = 34 then 3 else 4
def cutEnd (s : ByteArray) (k : Nat) : Int :=
 if h : k < s.size then
  if isWord s[k] = true then wordTo s k
  else if s[k].toNat = 34 then closeTo s (k + 1)
  else markTo s k
 else -1
theorem cutEnd_word {s : ByteArray} {k : Nat} (h : k < s.size) (hw : isWord s[k] = true) : cutEnd s k = if 12 < wEnd s k - k then -1 else (wEnd s k : Int) := by rw [cutEnd, dif_pos h, if_pos hw]; rfl
theorem cutEnd_text {s : ByteArray} {k : Nat} (h : k < s.size) (hw : isWord s[k] = false) (hq : s[k].toNat = 34) : cutEnd s k = match tClose s (k + 1) with | some e => (e : Int) | none => -1 := by rw [cutEnd, dif_pos h, if_neg (by simp [hw]), if_pos hq]; rfl
theorem cutEnd_mark {s : ByteArray} {k : Nat} (h : k < s.size) (hw : isWord s[k] = false) (hq : ¬ s[k].toNat = 34) : cutEnd s k = if mLen s k = 0 then -1 else ((k + mLen s k : Nat) : Int) := by rw [cutEnd, dif_pos h, if_neg (by simp [hw]), if_neg hq]; rfl
theorem cutEnd_room {s : ByteArray} {k : Nat} (h : 0 ≤ cutEnd s k) : (k : Int) + 1 ≤ cutEnd s k ∧ cutEnd s k ≤ s.size ∧ k < s.size := by
 by_cases hk : k < s.size
 ·refine ⟨?_, ?_, hk⟩ <;>
  ·cases hw : isWord s[k]
   ·by_cases hq : s[k].toNat = 34
    ·rw [cutEnd_text hk hw hq] at h ⊢
     cases hc : tClose s (k + 1) with
     | none => rw [hc] at h; exact absurd h (by decide)
     | some e => have := tClose_some hc; show _ ≤ _; simp only; omega
    ·rw [cutEnd_mark hk hw hq] at h ⊢
     have := mLen_room hk
     split at h
     ·omega
     ·rename_i h0; rw [if_neg h0]; omega
   ·rw [cutEnd_word hk hw] at h ⊢
    have h1 := wEnd_bounds s (k + 1)
    rw [← wEnd_in hk hw] at h1
    have := h1.2 (by omega)
    split at h
    ·omega
    ·rename_i h0; rw [if_neg h0]; omega
 ·rw [cutEnd, dif_neg hk] at h; omega
theorem cutEnd_ge (s : ByteArray) (k : Nat) : cutEnd s k < 0 ∨ ∃ e : Nat, cutEnd s k = e ∧ k < e ∧ e ≤ s.size := by
 by_cases h : cutEnd s k < 0
 ·exact .inl h
 ·have := cutEnd_room (s := s) (k := k) (by omega)
  exact .inr ⟨(cutEnd s k).toNat, by omega, by omega, by omega⟩

def sCut (s : ByteArray) (k : Nat) : Int × Int :=
 if h : k < s.size then
  if isWord s[k] = true then (if isLet s[k] = true then 1 else 2, wEnd s (k + 1))
  else if s[k].toNat = 34 then (match tClose s (k + 1) with | some e => (3, (e : Int)) | none => (0, k))
  else (4, (k + mLen s k : Nat))
 else (0, k)
def SBad (k : Nat) (c : Int × Int) : Prop := c.2 = k ∨ c.1 = 0 ∨ (c.1 = 1 ∨ c.1 = 2) ∧ 12 < c.2 - k
theorem let_dig {c : UInt8} (h : isLet c = true) : isDig c = false := by
 rw [isLet_iff] at h
 cases hd : isDig c
 ·rfl
 ·rw [isDig_iff] at hd; omega
theorem sCut_word {s : ByteArray} {k : Nat} (h : k < s.size) (hw : isWord s[k] = true) : sCut s k = (if isLet s[k] = true then 1 else 2, (wEnd s (k + 1) : Int)) := by rw [sCut, dif_pos h, if_pos hw]
theorem sCut_closed {s : ByteArray} {k e : Nat} (h : k < s.size) (hw : isWord s[k] = false) (hq : s[k].toNat = 34) (hc : tClose s (k + 1) = some e) : sCut s k = (3, (e : Int)) := by rw [sCut, dif_pos h, if_neg (by simp [hw]), if_pos hq, hc]
theorem sCut_open {s : ByteArray} {k : Nat} (h : k < s.size) (hw : isWord s[k] = false) (hq : s[k].toNat = 34) (hc : tClose s (k + 1) = none) : sCut s k = (0, (k : Int)) := by rw [sCut, dif_pos h, if_neg (by simp [hw]), if_pos hq, hc]
theorem sCut_mark {s : ByteArray} {k : Nat} (h : k < s.size) (hw : isWord s[k] = false) (hq : ¬ s[k].toNat = 34) : sCut s k = (4, ((k + mLen s k : Nat) : Int)) := by rw [sCut, dif_pos h, if_neg (by simp [hw]), if_neg hq]
theorem sCut_bad {s : ByteArray} {k : Nat} (hk : k < s.size) (h : cutEnd s k < 0) : SBad k (sCut s k) := by
 unfold SBad
 cases hw : isWord s[k]
 ·by_cases hq : s[k].toNat = 34
  ·rw [cutEnd_text hk hw hq] at h
   cases hc : tClose s (k + 1) with
   | none => rw [sCut_open hk hw hq hc]; exact .inl rfl
   | some e => rw [hc] at h; simp only at h; omega
  ·rw [cutEnd_mark hk hw hq] at h
   rw [sCut_mark hk hw hq]
   split at h
   ·rename_i h0; left; simp only; omega
   ·omega
 ·rw [cutEnd_word hk hw] at h
  rw [sCut_word hk hw, ← wEnd_in hk hw]
  split at h
  ·rename_i h0
   refine .inr (.inr ⟨?_, by simp only; omega⟩)
   simp only; split <;> simp
  ·omega
theorem sCut_good {s : ByteArray} {k : Nat} (hk : k < s.size) (h : 0 ≤ cutEnd s k) : ¬ SBad k (sCut s k) ∧ sCut s k = (cutKind s[k], cutEnd s k) := by
 have hr := cutEnd_room h
 unfold SBad
 cases hw : isWord s[k]
 ·have hd : isDig s[k] = false := by unfold isWord at hw; simp only [Bool.or_eq_false_iff] at hw; exact hw.2
  have hl : isLet s[k] = false := by unfold isWord at hw; simp only [Bool.or_eq_false_iff] at hw; exact hw.1
  have hkind : cutKind s[k] = if s[k].toNat = 34 then 3 else 4 := by unfold cutKind; rw [if_neg (by simp [hd]), if_neg (by simp [hl])]
  by_cases hq : s[k].toNat = 34
  ·rw [hkind, if_pos hq]
   rw [cutEnd_text hk hw hq] at h hr ⊢
   cases hc : tClose s (k + 1) with
   | none => rw [hc] at h; exact absurd h (by decide)
   |
    some e =>
    have := tClose_some hc
    rw [sCut_closed hk hw hq hc]
    refine ⟨?_, rfl⟩
    simp only; omega
  ·rw [hkind, if_neg hq]
   rw [cutEnd_mark hk hw hq] at h hr ⊢
   rw [sCut_mark hk hw hq]
   split at h
   ·omega
   ·rename_i h0
    rw [if_neg h0] at hr ⊢
    refine ⟨?_, rfl⟩
    simp only; omega
 ·have hkind : cutKind s[k] = if isLet s[k] = true then 1 else 2 := by
   unfold cutKind
   cases hl : isLet s[k]
   ·have hd : isDig s[k] = true := by unfold isWord at hw; rw [hl] at hw; simpa using hw
    rw [if_pos hd]; rfl
   ·rw [if_neg (by simp [let_dig hl]), if_pos rfl, if_pos rfl]
  rw [hkind]
  rw [cutEnd_word hk hw] at h hr ⊢
  rw [sCut_word hk hw, ← wEnd_in hk hw]
  split at h
  ·omega
  ·rename_i h0
   rw [if_neg h0] at hr ⊢
   refine ⟨?_, rfl⟩
   simp only; split <;> omega

def toks (s : ByteArray) (k : Nat) (sp : Bool) (n : Nat) : Option (List Tok) :=
 if h : k < s.size then
  if s[k].toNat = 32 then toks s (k + 1) true n
  else if cutEnd s k < 0 ∨ n = 60 then none
  else (toks s (max (k + 1) (cutEnd s k).toNat) false (n + 1)).map (⟨cutKind s[k], s.extract k (cutEnd s k).toNat, sp, []⟩ :: ·)
 else some []
termination_by s.size - k
def AtT (s : ByteArray) (k : Nat) (sp : Bool) (out : List Tok) : Prop := (toks s k sp out.length).map (out ++ ·) = toks s 0 false 0 ∧ out.length ≤ 60
theorem AtT.zero (s : ByteArray) : AtT s 0 false [] := ⟨by simp, by simp⟩
theorem AtT.space {s : ByteArray} {k : Nat} {sp : Bool} {out : List Tok} (h : AtT s k sp out) (hk : k < s.size) (hc : s[k].toNat = 32) : AtT s (k + 1) true out :=
 ⟨by rw [← h.1, toks.eq_def s k, dif_pos hk, if_pos hc], h.2⟩
theorem AtT.bad {s : ByteArray} {k : Nat} {sp : Bool} {out : List Tok} (h : AtT s k sp out) (hk : k < s.size) (hc : ¬ s[k].toNat = 32) (hb : cutEnd s k < 0 ∨ out.length = 60) : toks s 0 false 0 = none := by
 rw [← h.1, toks, dif_pos hk, if_neg hc, if_pos hb]; rfl
theorem AtT.tok {s : ByteArray} {k e : Nat} {sp : Bool} {out : List Tok} (h : AtT s k sp out) (hk : k < s.size) (hc : ¬ s[k].toNat = 32) (he : cutEnd s k = e) (hn : out.length ≠ 60) : AtT s e false (out ++ [⟨cutKind s[k], s.extract k e, sp, []⟩]) := by
 have hr := cutEnd_room (s := s) (k := k) (by omega)
 refine ⟨?_, by have := h.2; simp; omega⟩
 rw [← h.1, toks.eq_def s k, dif_pos hk, if_neg hc, if_neg (by omega), he, Int.toNat_natCast, Nat.max_eq_right (by omega), Option.map_map]
 rw [List.length_append]
 congr 1
 funext x
 simp
theorem AtT.done {s : ByteArray} {k : Nat} {sp : Bool} {out : List Tok} (h : AtT s k sp out) (hk : s.size ≤ k) : toks s 0 false 0 = some out := by
 rw [← h.1, toks, dif_neg (by omega)]; simp

def tokRes (s : ByteArray) : List Tok × Bool := if lineOk s = true then (match toks s 0 false 0 with | some l => (l, true) | none => ([], false)) else ([], false)
theorem tokRes_bad {s : ByteArray} (h : lineOk s = false) : tokRes s = ([], false) := by unfold tokRes; rw [if_neg (by simp [h])]
theorem tokRes_none {s : ByteArray} (h : toks s 0 false 0 = none) : tokRes s = ([], false) := by unfold tokRes; rw [h]; split <;> rfl
theorem tokRes_some {s : ByteArray} {l : List Tok} (h0 : lineOk s = true) (h : toks s 0 false 0 = some l) : tokRes s = (l, true) := by unfold tokRes; rw [if_pos h0, h]
def Fresh (B : Nat) (l : List Tok) : Prop := ∀ t ∈ l, t.text.size ≤ B ∧ t.hidden = [] ∧ 1 ≤ t.kind ∧ t.kind ≤ 4
theorem cutKind_in (c : UInt8) : 1 ≤ cutKind c ∧ cutKind c ≤ 4 := by unfold cutKind; split <;> (try split) <;> (try split) <;> omega
theorem Fresh.nil (B : Nat) : Fresh B [] := by intro t h; simp at h
theorem Fresh.snoc {B : Nat} {l : List Tok} {s : ByteArray} {k e : Nat} {sp : Bool} {c : UInt8} (h : Fresh B l) (hB : s.size ≤ B) : Fresh B (l ++ [⟨cutKind c, s.extract k e, sp, []⟩]) := by
 intro t ht
 rcases List.mem_append.1 ht with ht | ht
 ·exact h t ht
 ·have := cutKind_in c
  obtain rfl := List.mem_singleton.1 ht
  exact ⟨by show (s.extract k e).size ≤ B; rw [ByteArray.size_extract]; omega, rfl, this⟩

end Go.Proofs.YtlegeancmcmbaaaDoor

/- Data in memory: what cells read as, and in which blocks. Over any program. -/
namespace Go.Proofs.YtlegeancmcmbaaaDoor
open Go.RowKit

structure Shape (α : Type) where
 m : Nat
 R : World → List Value → α → List Nat → Prop
 frame : ∀ {w w' : World} {cs : List Value} {d : α} {fp : List Nat}, (∀ b ∈ fp, w'.heap[b]? = w.heap[b]?) → R w cs d fp → R w' cs d fp
 lt : ∀ {w : World} {cs : List Value} {d : α} {fp : List Nat}, R w cs d fp → ∀ b ∈ fp, b < w.heap.size

def sFlat {α : Type} (enc : α → Value) (ok : α → Prop) : Shape α where
 m := 1
 R _ cs d fp := cs = [enc d] ∧ ok d ∧ fp = []
 frame _ h := h
 lt h := by obtain ⟨_, _, rfl⟩ := h; simp

def okStr (s : ByteArray) : Prop := s.size ≤ maxLen
def okInt (n : Int) : Prop := -9223372036854775808 ≤ n ∧ n ≤ 9223372036854775807
def encByte (b : UInt8) : Value := .int .u8 b.toNat
def sStr : Shape ByteArray := sFlat Value.string okStr
def sInt : Shape Int := sFlat (Value.int .i64) okInt
def sBool : Shape Bool := sFlat Value.bool fun _ => True
def sByte : Shape UInt8 := sFlat encByte fun _ => True

def ElemAt (w : World) (b off m i : Nat) (es : List Value) : Prop := es.length = m ∧ ∀ j, j < m → w.cell? ⟨b, off + i * m + j, none⟩ = es[j]?

def RowR {α : Type} (S : Shape α) (w : World) (b off : Nat) (l : List α) (fps : Nat → List Nat) : Prop :=
 b < w.heap.size ∧ ∀ i, (h : i < l.length) → ∃ es, ElemAt w b off S.m i es ∧ S.R w es l[i] (fps i)

def SliceR {α : Type} (S : Shape α) (w : World) (cs : List Value) (l : List α) (fp : List Nat) : Prop :=
 ∃ a cap, cs = [.slice a l.length cap] ∧ l.length ≤ cap ∧ cap ≤ maxLen ∧
  ((l = [] ∧ fp = []) ∨ (0 < l.length ∧ ∃ b off fps, a = some ⟨b, off, none⟩ ∧ fp = b :: (List.range l.length).flatMap fps ∧ RowR S w b off l fps))

theorem ElemAt.frame {w w' : World} {b off m i : Nat} {es : List Value} (h : ElemAt w b off m i es) (hb : w'.heap[b]? = w.heap[b]?) : ElemAt w' b off m i es :=
 ⟨h.1, fun j hj => (World.cell?_of_block (w := w) (w' := w') (a := ⟨b, off + i * m + j, none⟩) hb).trans (h.2 j hj)⟩

def sSlice {α : Type} (S : Shape α) : Shape (List α) where
 m := 1
 R := SliceR S
 frame := by
  rintro w w' cs l fp hf ⟨a, cap, rfl, hc, hm, h⟩
  refine ⟨a, cap, rfl, hc, hm, ?_⟩
  rcases h with h | ⟨h0, b, off, fps, rfl, rfl, hb, he⟩
  ·exact .inl h
  ·refine .inr ⟨h0, b, off, fps, rfl, rfl, ?_, fun i hi => ?_⟩
   ·have h1 := hf b (by simp)
    have h2 : w'.heap[b]? ≠ none := by rw [h1]; simp [hb]
    exact Nat.lt_of_not_le fun h => h2 (by simp [h])
   ·obtain ⟨es, h1, h2⟩ := he i hi
    exact ⟨es, h1.frame (hf b (by simp)), S.frame (fun x hx => hf x (by simp; exact .inr ⟨i, hi, hx⟩)) h2⟩
 lt := by
  rintro w cs l fp ⟨a, cap, rfl, hc, hm, h⟩ x hx
  rcases h with ⟨_, rfl⟩ | ⟨h0, b, off, fps, rfl, rfl, hb, he⟩
  ·simp at hx
  ·simp at hx
   rcases hx with rfl | ⟨i, hi, hx⟩
   ·exact hb
   ·obtain ⟨es, h1, h2⟩ := he i hi
    exact S.lt h2 x hx

theorem Shape.below {α : Type} (S : Shape α) {w w' : World} {cs : List Value} {d : α} {fp : List Nat} (h : S.R w cs d fp) (hb : Below w.heap.size w w') : S.R w' cs d fp :=
 S.frame (fun b h' => hb.block b (S.lt h b h')) h

def Under (B : Nat) (fp : List Nat) : Prop := ∀ b ∈ fp, b < B

theorem Shape.under {α : Type} (S : Shape α) {w w' : World} {B : Nat} {cs : List Value} {d : α} {fp : List Nat} (h : S.R w cs d fp) (hu : Under B fp) (hb : Below B w w') : S.R w' cs d fp :=
 S.frame (fun b h' => hb.block b (hu b h')) h

theorem open_flat {α : Type} {enc : α → Value} {ok : α → Prop} {w : World} {v : Value} {l : List α} {fp : List Nat} (h : (sSlice (sFlat enc ok)).R w [v] l fp) :
  ∃ a cap, v = .slice a l.length cap ∧ l.length ≤ cap ∧ cap ≤ maxLen ∧ (0 < l.length → ∃ b off, a = some ⟨b, off, none⟩ ∧ b < w.heap.size ∧ b ∈ fp ∧ ∀ i, (hi : i < l.length) → w.cell? ⟨b, off + i, none⟩ = some (enc l[i])) ∧ ∀ i, (hi : i < l.length) → ok l[i] := by
 obtain ⟨a, cap, hv, hc, hm, h⟩ := h
 refine ⟨a, cap, by simpa using hv, hc, hm, fun h0 => ?_, fun i hi => ?_⟩
 ·rcases h with ⟨rfl, _⟩ | ⟨_, b, off, fps, rfl, rfl, hb, he⟩
  ·simp at h0
  ·refine ⟨b, off, rfl, hb, by simp, fun i hi => ?_⟩
   obtain ⟨es, h1, h2, _, _⟩ := he i hi
   have := h1.2 0 (by simp [sFlat])
   rw [h2] at this
   simpa [sFlat] using this
 ·rcases h with ⟨rfl, _⟩ | ⟨_, b, off, fps, rfl, rfl, hb, he⟩
  ·simp at hi
  ·obtain ⟨es, h1, h2, h3, _⟩ := he i hi
   exact h3

theorem open_strs {w : World} {v : Value} {l : List ByteArray} {fp : List Nat} (h : (sSlice sStr).R w [v] l fp) :
  ∃ a cap, v = .slice a l.length cap ∧ l.length ≤ cap ∧ cap ≤ maxLen ∧ (0 < l.length → ∃ b off, a = some ⟨b, off, none⟩ ∧ b < w.heap.size ∧ b ∈ fp ∧ ∀ i, (hi : i < l.length) → w.cell? ⟨b, off + i, none⟩ = some (.string l[i])) ∧ ∀ i, (hi : i < l.length) → l[i].size ≤ maxLen :=
 open_flat h

def Own (w : World) (lo : Nat) (fp : List Nat) : Prop := fp.Nodup ∧ ∀ b ∈ fp, lo ≤ b ∧ ∃ cur e, w.heap[b]? = some (.cells cur e (0, 0))

theorem Own.nil (w : World) (lo : Nat) : Own w lo [] := ⟨List.nodup_nil, by simp⟩

structure Kept (fp : List Nat) (w w' : World) : Prop where
 os : w'.os = w.os
 tape : w'.tape = w.tape
 output : w'.output = w.output
 size : w.heap.size ≤ w'.heap.size
 block : ∀ k, k < w.heap.size → k ∉ fp → w'.heap[k]? = w.heap[k]?

theorem Kept.refl (fp : List Nat) (w : World) : Kept fp w w := ⟨rfl, rfl, rfl, Nat.le_refl _, fun _ _ _ => rfl⟩
theorem Kept.trans {fp : List Nat} {a b c : World} (h : Kept fp a b) (k : Kept fp b c) : Kept fp a c :=
 ⟨k.os.trans h.os, k.tape.trans h.tape, k.output.trans h.output, Nat.le_trans h.size k.size, fun i hi hn => (k.block i (Nat.lt_of_lt_of_le hi h.size) hn).trans (h.block i hi hn)⟩
theorem Kept.of_below {fp : List Nat} {a b : World} (h : Below a.heap.size a b) : Kept fp a b := ⟨h.os, h.tape, h.output, h.size, fun k hk _ => h.block k hk⟩
theorem Kept.mono {fp fp' : List Nat} {a b : World} (h : Kept fp a b) (hs : ∀ x ∈ fp, x ∈ fp') : Kept fp' a b := ⟨h.os, h.tape, h.output, h.size, fun k hk hn => h.block k hk fun hx => hn (hs k hx)⟩
theorem Kept.setCell {fp : List Nat} {a w : World} (h : Kept fp a w) {p : Addr} (hp : p.block ∈ fp) (u : Value) : Kept fp a (w.setCell p u) :=
 h.trans ⟨rfl, rfl, rfl, by simp [World.setCell], fun k hk hn => Below.heap_setCell _ _ _ _ (by rintro rfl; exact hn hp)⟩
theorem Kept.drewN {fp : List Nat} {a w : World} (h : Kept fp a w) (n : Nat) : Kept fp a (w.drewN n) := ⟨h.os, h.tape, h.output, h.size, h.block⟩
theorem Kept.below {fp : List Nat} {lo : Nat} {a w : World} (h : Kept fp a w) (hlo : ∀ b ∈ fp, lo ≤ b) (hs : lo ≤ a.heap.size) : Below lo a w :=
 ⟨h.os, h.tape, h.output, h.size, fun k hk => h.block k (by omega) fun hx => by have := hlo k hx; omega⟩

theorem Shape.kept {α : Type} (S : Shape α) {w w' : World} {cs : List Value} {d : α} {fp fp' : List Nat} (h : S.R w cs d fp') (hd : ∀ b ∈ fp', b ∉ fp) (hk : Kept fp w w') : S.R w' cs d fp' :=
 S.frame (fun b h' => hk.block b (S.lt h b h') (hd b h')) h
theorem Own.kept {w w' : World} {lo : Nat} {fp fp' : List Nat} (h : Own w lo fp') (hd : ∀ b ∈ fp', b ∉ fp) (hk : Kept fp w w') : Own w' lo fp' :=
 ⟨h.1, fun b hb => by
  obtain ⟨h1, cur, e, h2⟩ := h.2 b hb
  exact ⟨h1, cur, e, (hk.block b (Array.getElem?_eq_some_iff.1 h2).1 (hd b hb)).trans h2⟩⟩
theorem Own.below {w w' : World} {lo B : Nat} {fp : List Nat} (h : Own w lo fp) (hu : ∀ b ∈ fp, b < B) (hb : Below B w w') : Own w' lo fp :=
 ⟨h.1, fun b hb' => by
  obtain ⟨h1, cur, e, h2⟩ := h.2 b hb'
  exact ⟨h1, cur, e, (hb.block b (hu b hb')).trans h2⟩⟩
theorem Own.lt {w : World} {lo : Nat} {fp : List Nat} (h : Own w lo fp) : ∀ b ∈ fp, b < w.heap.size := fun b hb => by
 obtain ⟨_, cur, e, h2⟩ := h.2 b hb
 exact (Array.getElem?_eq_some_iff.1 h2).1
theorem Own.grow {w w' : World} {lo : Nat} {fp : List Nat} (h : Own w lo fp) (hb : Below w.heap.size w w') : Own w' lo fp := h.below h.lt hb
theorem Own.frozen {w : World} {lo : Nat} {fp : List Nat} (h : Own w lo fp) {b : Nat} (hb : b ∈ fp) (j : Nat) : w.frozen? ⟨b, j, none⟩ = false := by
 obtain ⟨_, cur, e, h2⟩ := h.2 b hb
 exact frozen_of_row w b j cur e h2
theorem Own.setCell {w : World} {lo : Nat} {fp : List Nat} (h : Own w lo fp) (p : Addr) (u : Value) : Own (w.setCell p u) lo fp :=
 ⟨h.1, fun b hb => by
  obtain ⟨h1, cur, e, h2⟩ := h.2 b hb
  by_cases hp : b = p.block
  ·subst hp
   refine ⟨h1, if p.spot.isSome then cur else cur.setIfInBounds p.off u, e, ?_⟩
   simp [World.setCell, Array.getElem?_modify, h2]
  ·exact ⟨h1, cur, e, (Below.heap_setCell _ _ _ _ hp).trans h2⟩⟩

theorem flat_set {α : Type} {enc : α → Value} {ok : α → Prop} {w : World} {b off n cap : Nat} {l : List α} {fp : List Nat} (h : (sSlice (sFlat enc ok)).R w [.slice (some ⟨b, off, none⟩) n cap] l fp) {i : Nat} (hi : i < l.length) {d : α} (hd : ok d) :
  (sSlice (sFlat enc ok)).R (w.setCell ⟨b, off + i, none⟩ (enc d)) [.slice (some ⟨b, off, none⟩) n cap] (l.set i d) fp := by
 obtain ⟨a, cap', hv, hc, hm, h⟩ := h
 simp only [List.cons.injEq, Value.slice.injEq, and_true] at hv
 obtain ⟨rfl, rfl, rfl⟩ := hv
 rcases h with ⟨rfl, _⟩ | ⟨h0, b', off', fps, ha, rfl, hb, he⟩
 ·simp at hi
 ·simp only [Option.some.injEq, Addr.mk.injEq, and_true] at ha
  obtain ⟨rfl, rfl⟩ := ha
  refine ⟨_, _, by simp, by simpa using hc, hm, .inr ⟨by simpa using h0, b, off, fps, rfl, by simp, by simpa [World.setCell] using hb, fun j hj => ?_⟩⟩
  have hj' : j < l.length := by simpa using hj
  obtain ⟨es, h1, h2, h3, h4⟩ := he j hj'
  have hcell : w.cell? ⟨b, off + j, none⟩ = some (enc l[j]) := by
   have := h1.2 0 (by simp [sFlat])
   rw [h2] at this
   simpa [sFlat] using this
  refine ⟨[enc ((l.set i d)[j])], ⟨rfl, fun x hx => ?_⟩, rfl, ?_, h4⟩
  ·have hx0 : x = 0 := by simp [sFlat] at hx; omega
   subst hx0
   simp only [sFlat, Nat.mul_one, Nat.add_zero, List.length_cons, List.length_nil, Nat.zero_add, Nat.lt_add_one, List.getElem?_eq_getElem, List.getElem_cons_zero]
   by_cases e : j = i
   ·subst e
    rw [List.getElem_set_self]
    exact World.cell?_setCell_same _ _ _ hcell
   ·rw [List.getElem_set_ne (fun h => e h.symm), World.cell?_setCell_other _ _ _ _ (by intro hh; simp only [Addr.mk.injEq] at hh; omega)]
    exact hcell
  ·by_cases e : j = i
   ·subst e; rw [List.getElem_set_self]; exact hd
   ·rw [List.getElem_set_ne (fun h => e h.symm)]; exact h3

end Go.Proofs.YtlegeancmcmbaaaDoor

/- Slices of strings: validity, and the law's own helpers. -/
namespace Go.Proofs.YtlegeancmcmbaaaDoor
open Go.RowKit
def AllUpto {α : Type} (p : α → Bool) (l : List α) (k : Nat) : Prop := ∀ j, (h : j < l.length) → j < k → p l[j] = true
theorem AllUpto.zero {α : Type} (p : α → Bool) (l : List α) : AllUpto p l 0 := by intro j h; omega
theorem AllUpto.succ {α : Type} {p : α → Bool} {l : List α} {k : Nat} (h : AllUpto p l k) (hk : k < l.length) (hb : p l[k] = true) : AllUpto p l (k + 1) := by
 intro j hj hjk
 by_cases e : j = k
 ·subst e; exact hb
 ·exact h j hj (by omega)
theorem all_no {α : Type} {p : α → Bool} {l : List α} {k : Nat} (hk : k < l.length) (hb : p l[k] = false) : l.all p = false := by
 rw [List.all_eq_false]
 exact ⟨l[k], List.getElem_mem hk, by simp [hb]⟩
theorem all_yes {α : Type} {p : α → Bool} {l : List α} {k : Nat} (h : AllUpto p l k) (hk : l.length ≤ k) : l.all p = true := by
 rw [List.all_eq_true]
 intro x hx
 obtain ⟨i, hi, rfl⟩ := List.getElem_of_mem hx
 exact h i hi (by omega)

def wtStringS (l : List ByteArray) : Nat := l.length + (l.map (·.size)).sum
theorem sum_take_succ (l : List ByteArray) (k : Nat) (h : k < l.length) : ((l.take (k + 1)).map (·.size)).sum = ((l.take k).map (·.size)).sum + l[k].size := by
 rw [List.take_succ_eq_append_getElem h]; simp only [List.map_append, List.sum_append, List.map_cons, List.map_nil, List.sum_cons, List.sum_nil, Nat.add_zero]
theorem sum_take_le (l : List ByteArray) (k : Nat) : ((l.take k).map (·.size)).sum ≤ (l.map (·.size)).sum := by
 have := congrArg (fun l : List ByteArray => (l.map (·.size)).sum) (List.take_append_drop k l)
 simp only [List.map_append, List.sum_append] at this
 omega
def SzR (B r : Int) (n : Nat) : Prop := r = if (n : Int) ≤ B then B - n else -1
theorem SzR.good {B r : Int} {n : Nat} (h : SzR B r n) (h0 : ¬ r < 0) : (n : Int) ≤ B ∧ r = B - n := by
 unfold SzR at h; split at h <;> constructor <;> omega
theorem SzR.le {B r : Int} {n : Nat} (h : SzR B r n) (hB : 0 ≤ B) : r ≤ B := by unfold SzR at h; split at h <;> omega
theorem SzR.yes {B r : Int} {n : Nat} (h : (n : Int) ≤ B) (hr : r = B - n) : SzR B r n := by unfold SzR; rw [if_pos h]; exact hr
theorem SzR.no {B : Int} {n : Nat} (h : B < (n : Int)) : SzR B (-1) n := by unfold SzR; rw [if_neg (by omega)]

set_option maxHeartbeats 400000 in
theorem szStringS (v : Value) (l : List ByteArray) (fp : List Nat) (w : World) (B : Int) (h0 : 0 ≤ B) (h1 : B ≤ 1048576) (H : (sSlice sStr).R w [v] l fp) :
  Calls Tryd.prog 63 #[v, .int .i64 B] w fun e w' => ∃ r : Int, e = .returned (.int .i64 r) ∧ SzR B r (wtStringS l) ∧ w = w' := by
 obtain ⟨a, cap, rfl, hc, hm, hcell, hsz⟩ := open_strs H
 unfold maxLen at hm
 by_cases hl : B < l.length
 ·have HN : Hid (SzR B (-1) (wtStringS l)) := SzR.no (by unfold wtStringS; omega)
  go_enter Tryd.func63, Tryd.ntmps63
  go_wp2
  go_ret
  exact ⟨-1, rfl, HN.out, rfl⟩
 ·go_enter Tryd.func63, Tryd.ntmps63
  go_wp2
  go_loop [1, 5] (fun t i => ∃ (k : Nat) (r : Int), k ≤ l.length ∧ i = .int .i64 k ∧ t = .int .i64 r ∧ 0 ≤ r ∧ r ≤ B ∧ Hid (r = B - l.length - (((l.take k).map (·.size)).sum : Nat))) (fun _ i => l.length - (intOf i).toNat)
  case atStart => exact ⟨0, _, by omega, rfl, rfl, by omega, by omega, by show _ = _; simp⟩
  case round =>
   obtain ⟨k, r, hk, rfl, rfl, hr0, hr1, HA⟩ := hrel
   by_cases hlt : k < l.length
   ·obtain ⟨b, off, rfl, hb, _, hc2⟩ := hcell (by omega)
    have hck := hc2 k hlt
    have hsk := hsz k hlt
    unfold maxLen at hsk
    clear hc2
    have HT := Lib.hid (sum_take_succ l k hlt)
    by_cases hrk : r < (l[k].size : Int)
    ·have HN : Hid (SzR B (-1) (wtStringS l)) := SzR.no (by
      have := sum_take_le l (k + 1); have := HT.out; have := HA.out; unfold wtStringS; omega)
     go_wp2
     go_ret
     exact ⟨-1, rfl, HN.out, rfl⟩
    ·go_wp2
     go_round
     case rel => exact ⟨k + 1, _, by omega, by go_num, rfl, by omega, by omega, by show _ = _; rw [HT.out, HA.out]; omega⟩
     case measure => simp [intOf]; omega
   ·have HN : Hid (SzR B r (wtStringS l)) := by
     have h := HA.out
     rw [List.take_of_length_le (by omega)] at h
     exact SzR.yes (by unfold wtStringS; omega) (by unfold wtStringS; omega)
    go_wp2
    go_ret
    exact ⟨r, rfl, HN.out, rfl⟩

def EqUpto {α : Type} (l1 l2 : List α) (k : Nat) : Prop := ∀ j, (h : j < l1.length) → (h' : j < l2.length) → j < k → l1[j] = l2[j]
theorem EqUpto.succ {α : Type} {l1 l2 : List α} {k : Nat} (h : EqUpto l1 l2 k) (h1 : k < l1.length) (h2 : k < l2.length) (e : l1[k] = l2[k]) : EqUpto l1 l2 (k + 1) := by
 intro j hj hj' hjk
 by_cases e' : j = k
 ·subst e'; exact e
 ·exact h j hj hj' (by omega)
theorem EqUpto.eq {α : Type} [DecidableEq α] {l1 l2 : List α} {k : Nat} (h : EqUpto l1 l2 k) (hl : l1.length = l2.length) (hk : l1.length ≤ k) : decide (l1 = l2) = true := by
 rw [decide_eq_true_eq]
 exact List.ext_getElem hl fun i h1 h2 => h i h1 h2 (by omega)
theorem eq_no {α : Type} [DecidableEq α] {l1 l2 : List α} {k : Nat} (h1 : k < l1.length) (h2 : k < l2.length) (e : l1[k] ≠ l2[k]) : decide (l1 = l2) = false := by
 rw [decide_eq_false_iff_not]; rintro rfl; exact e rfl

theorem bytes_beq {s t : ByteArray} (h : s = t) : (s.toList == t.toList) = true := by rw [h]; exact beq_self_eq_true _
theorem bytes_bne {s t : ByteArray} (h : s ≠ t) : (s.toList == t.toList) = false := by
 rw [beq_eq_false_iff_ne]
 intro e
 rw [ByteArray.toList_eq, ByteArray.toList_eq] at e
 exact h (Go.WideShapes.bytes_inj e)

set_option maxHeartbeats 400000 in
theorem eqStringS (v1 v2 : Value) (l1 l2 : List ByteArray) (fp1 fp2 : List Nat) (w : World) (H1 : (sSlice sStr).R w [v1] l1 fp1) (H2 : (sSlice sStr).R w [v2] l2 fp2) :
  Calls Tryd.prog 72 #[v1, v2] w fun e w' => e = .returned (.bool (decide (l1 = l2))) ∧ ∃ n, w' = w.drewN n := by
 obtain ⟨a1, cap1, rfl, hc1, hm1, hcell1, hsz1⟩ := open_strs H1
 obtain ⟨a2, cap2, rfl, hc2, hm2, hcell2, hsz2⟩ := open_strs H2
 unfold maxLen at hm1 hm2
 by_cases hl : l1.length = l2.length
 ·have hnb : ((l1.length : Int) != (l2.length : Int)) = false := by simp [hl]
  have HL := Lib.hid hl; clear hl
  go_enter Tryd.func72, Tryd.ntmps72
  go_wp2
  go_loopw [5] (fun i wr => ∃ k : Nat, k ≤ l1.length ∧ i = .int .i64 k ∧ (∃ n, wr = w.drewN n) ∧ EqUpto l1 l2 k) (fun i _ => l1.length - (intOf i).toNat)
  case atStart => exact ⟨0, by omega, rfl, ⟨0, rfl⟩, by intro j h h' hj; omega⟩
  case round =>
   obtain ⟨k, hk, rfl, ⟨n, rfl⟩, hall⟩ := hrel
   by_cases hlt : k < l1.length
   ·have hlt2 : k < l2.length := by have := HL.out; omega
    obtain ⟨b1, off1, rfl, hb1, _, hd1⟩ := hcell1 (by omega)
    obtain ⟨b2, off2, rfl, hb2, _, hd2⟩ := hcell2 (by omega)
    have hck1 := hd1 k hlt
    have hck2 := hd2 k hlt2
    clear hd1 hd2
    by_cases heq : l1[k] = l2[k]
    ·have hne := bytes_beq heq
     have hn := hall.succ hlt hlt2 heq
     clear heq
     go_wp2
     go_quiet (fail)
     go_wp2
     go_roundw
     case rel => exact ⟨k + 1, by omega, by go_num, ⟨_, rfl⟩, hn⟩
     case measure => simp [intOf]; omega
    ·have hne := bytes_bne heq
     have HF := Lib.hid (eq_no hlt hlt2 heq)
     clear heq
     go_wp2
     go_quiet (fail)
     go_wp2
     go_ret
     exact ⟨ret_bool HF.out.symm, _, World.drewN_drewN _ _ _⟩
   ·have HF := Lib.hid (hall.eq HL.out (by omega))
    go_wp2
    go_ret
    exact ⟨ret_bool HF.out.symm, _, rfl⟩
 ·have hnb : ((l1.length : Int) != (l2.length : Int)) = true := by simp; omega
  have HF : Hid (decide (l1 = l2) = false) := decide_eq_false (by rintro rfl; exact hl rfl)
  clear hl
  go_enter Tryd.func72, Tryd.ntmps72
  go_wp2
  go_ret
  exact ⟨ret_bool HF.out.symm, 0, rfl⟩

end Go.Proofs.YtlegeancmcmbaaaDoor

/- Copies of slices of strings. -/
namespace Go.Proofs.YtlegeancmcmbaaaDoor
open Go.RowKit

def TI (P : Program) (t e : TypeId) (z : Value) (size bytes : Nat) : Prop :=
 P.underlying t = some (.slice e) ∧ (P.info? e).map (fun i => (i.zero, i.size, i.bytes)) = some (some z, size, bytes)

theorem ti27 : TI Tryd.prog 45 9 (.string ⟨#[]⟩) 1 16 := ⟨by kernel_rfl, by kernel_rfl⟩

theorem wp_make_full {P : Program} {t e : TypeId} {z : Value} {size bytes : Nat} (ti : TI P t e z size bytes) (w : World) {ops : Array Oper} {rest : List Oper} {o : Oper} {a : Act} {Q : Exit → Act → World → Prop}
  (hg : o.guard = none) (l c : Operand) (hop : o.op = Op.makeSlice t l c) (base n : Nat)
  (hl : a.eval l = .int .i64 n) (hc : a.eval c = .int .i64 n) (b2 : bytes * n ≤ 281474976710656) (b3 : n ≤ maxLen) (b4 : base ≤ w.heap.size)
  (hK : ∀ w', w'.ownsRow base e size (.slice (some ⟨w.heap.size, 0, none⟩) n n) n (madeCells z.cells (n * size)).toList → w.grownBy w' none → wpList P ops Q rest (a.put o.dst (.slice (some ⟨w.heap.size, 0, none⟩) n n)) w') :
  wpList P ops Q (o :: rest) a w := by
 obtain ⟨i, hi, hz0, hz1, hz2⟩ := info_parts ti.2
 exact wpList_make_full w hg l c t hop base e i z size ti.1 hi hz0 hz1 .i64 .i64 n n n hl hc rfl rfl (by rw [hz2]; exact b2) b3 b4 hK

theorem flat_of_own {α : Type} {enc : α → Value} {ok : α → Prop} {w : World} {base e g n cap : Nat} {l : List α} (h : w.ownsRow base e 1 (.slice (some ⟨g, 0, none⟩) n cap) n (l.map enc)) (hs : ∀ i, (hi : i < l.length) → ok l[i]) :
  ∃ fp, (sSlice (sFlat enc ok)).R w [.slice (some ⟨g, 0, none⟩) n cap] l fp ∧ Own w base fp := by
 have hn : l.length = n := by have := h.1; simpa using this
 subst hn
 rcases h.2 with ⟨h', _⟩ | ⟨g', cap', cur, h', hb, hg, hnc, hcm, hcs, htake⟩
 ·simp at h'
 simp only [Value.slice.injEq, Option.some.injEq, Addr.mk.injEq, and_true, true_and] at h'
 obtain ⟨rfl, rfl⟩ := h'
 by_cases h0 : l.length = 0
 ·exact ⟨[], ⟨_, _, rfl, hnc, hcm, .inl ⟨by simpa using h0, rfl⟩⟩, Own.nil _ _⟩
 ·refine ⟨g :: (List.range l.length).flatMap fun _ => [], ⟨_, _, rfl, hnc, hcm, .inr ⟨by omega, g, 0, fun _ => [], rfl, rfl, (h.lt g rfl).2, fun i hi => ⟨[enc l[i]], ⟨rfl, fun j hj => ?_⟩, rfl, hs i hi, rfl⟩⟩⟩, ?_⟩
  ·simp [sFlat] at hj
   subst hj
   have := h.cellAt i (by omega)
   simp only [List.getElem?_map, List.getElem?_eq_getElem hi, Option.map_some] at this
   simpa [sFlat] using this
  ·have e1 : (List.range l.length).flatMap (fun _ => ([] : List Nat)) = [] := by simp
   rw [e1]
   exact ⟨by simp, by simp; exact ⟨hb, _, _, hg⟩⟩

def mix (l : List ByteArray) (k : Nat) : List Value := ((l.take k).map Value.string) ++ List.replicate (l.length - k) (.string ⟨#[]⟩)
theorem mix_zero (l : List ByteArray) : (madeCells (Value.string ⟨#[]⟩).cells (l.length * 1)).toList = mix l 0 := by
 simp [mix, Value.cells, toList_madeCells_one]
theorem mix_end (l : List ByteArray) {k : Nat} (h : l.length ≤ k) : mix l k = l.map .string := by
 simp [mix, List.take_of_length_le h, Nat.sub_eq_zero_of_le h]
theorem mix_get (l : List ByteArray) (k j : Nat) (hk : k ≤ l.length) : (mix l k)[j]? = if h : j < l.length then (if j < k then some (.string l[j]) else some (.string ⟨#[]⟩)) else none := by
 simp only [mix, List.getElem?_append, List.length_map, List.length_take, List.getElem?_map, List.getElem?_take, List.getElem?_replicate]
 by_cases h1 : j < k
 ·rw [if_pos (by omega), if_pos h1, dif_pos (by omega), if_pos h1, List.getElem?_eq_getElem (by omega)]; rfl
 ·rw [if_neg (by omega)]
  by_cases h2 : j < l.length
  ·rw [if_pos (by omega), dif_pos h2, if_neg h1]
  ·rw [if_neg (by omega), dif_neg h2]
theorem mix_set (l : List ByteArray) (k : Nat) (h : k < l.length) : (mix l k).set k (.string l[k]) = mix l (k + 1) := by
 apply List.ext_getElem?
 intro j
 rw [List.getElem?_set, mix_get l k j (by omega), mix_get l (k + 1) j (by omega)]
 have hl : (mix l k).length = l.length := by simp [mix]; omega
 by_cases e : k = j
 ·subst e
  rw [if_pos rfl, if_pos (by omega), dif_pos h, if_pos (by omega)]
 ·rw [if_neg e]
  by_cases h2 : j < l.length
  ·rw [dif_pos h2, dif_pos h2]
   by_cases h3 : j < k
   ·rw [if_pos h3, if_pos (by omega)]
   ·rw [if_neg h3, if_neg (by omega)]
  ·rw [dif_neg h2, dif_neg h2]
theorem mix_at (l : List ByteArray) (k : Nat) (h : k < l.length) : (mix l k)[k]? = some (.string ⟨#[]⟩) := by
 simp only [mix, List.getElem?_append, List.length_map, List.length_take, List.getElem?_replicate]
 rw [if_neg (by omega), if_pos (by omega)]

def Made {α : Type} (S : Shape α) (d : α) (w : World) (e : Ending) (w' : World) : Prop :=
 ∃ v fp, e = .returned v ∧ S.R w' [v] d fp ∧ Own w' w.heap.size fp ∧ Below w.heap.size w w'

set_option maxHeartbeats 400000 in
theorem toStringS (v : Value) (l : List ByteArray) (fp : List Nat) (w : World) (hW : wtStringS l ≤ 1048576) (H : (sSlice sStr).R w [v] l fp) :
  Calls Tryd.prog 67 #[v] w (Made (sSlice sStr) l w) := by
 have hB : l.length ≤ 1048576 := by unfold wtStringS at hW; omega
 obtain ⟨a, cap, rfl, hc, hm, hcell, hsz⟩ := open_strs H
 have hz := hsz
 unfold maxLen at hm hz
 go_enter Tryd.func67, Tryd.ntmps67
 go_wp2_with (at_make; refine wp_make_full ti27 _ rfl _ _ rfl w.heap.size l.length rfl rfl (by omega) (by unfold maxLen; omega) (Nat.le_refl _) ?_; intro w1 hown hgrow)
 rw [mix_zero] at hown
 have hbel := (Below.refl w.heap.size w).grown hgrow (Nat.le_refl _) (by simp)
 clear hgrow
 go_loopw [4] (fun i wr => ∃ k : Nat, k ≤ l.length ∧ i = .int .i64 k ∧ wr.ownsRow w.heap.size 9 1 (.slice (some ⟨w.heap.size, 0, none⟩) l.length l.length) l.length (mix l k) ∧ Below w.heap.size w wr) (fun i _ => l.length - (intOf i).toNat)
 case atStart => exact ⟨0, by omega, rfl, hown, hbel⟩
 case round =>
  obtain ⟨k, hk, rfl, ho, hbl⟩ := hrel
  by_cases hlt : k < l.length
  ·obtain ⟨b, off, rfl, hb, _, hc2⟩ := hcell (by omega)
   have hck := (hbl.cell (p := ⟨b, off + k, none⟩) hb).trans (hc2 k hlt)
   have hdk := (ho.cellAt k (by omega)).trans (mix_at l k hlt)
   have hfk := ho.frozenAt k
   have HS := Lib.hid (ho.stored k (.string l[k]))
   rw [mix_set l k hlt] at HS
   clear hc2 hcell hown
   go_wp2
   go_roundw
   case rel => exact ⟨k + 1, by omega, by go_num, HS.out.1, hbl.setCell (p := ⟨w.heap.size, k, none⟩) (Nat.le_refl _) _⟩
   case measure => simp [intOf]; omega
  ·rw [mix_end l (by omega)] at ho
   obtain ⟨fp', h1, h2⟩ := flat_of_own (ok := okStr) ho hsz
   go_wp2
   go_ret
   exact ⟨_, fp', rfl, h1, h2, hbl⟩

theorem grown_trans {a b c : World} {r : Option Nat} (h : a.grownBy b r) (k : b.grownBy c r) : a.grownBy c r :=
 ⟨k.os.trans h.os, k.tape.trans h.tape, k.output.trans h.output, Nat.le_trans h.size k.size, fun i hi hn => (k.block i (Nat.lt_of_lt_of_le hi h.size) hn).trans (h.block i hi hn)⟩

theorem wp_append_one {P : Program} {t e : TypeId} {z : Value} {bytes : Nat} (ti : TI P t e z 1 bytes) (hzs : z.cells.size = 1) (w0 : World) (x : Value) (hx1 : x.oneCell' = true) {ops : Array Oper} {rest : List Oper} {o : Oper} {a : Act} {Q : Exit → Act → World → Prop}
  (hg : o.guard = none) (s y : Operand) (ho : o.op = .call { callee := .builtin .append, args := #[s, y], argTypes := #[t, t] })
  (base : Nat) (v : Value) (n : Nat) (xs : List Value) (hs : a.eval s = v) (hown : w0.ownsRow base e 1 v n xs)
  (hy : a.eval y = .slice (some ⟨w0.heap.size, 0, none⟩) 1 1)
  (h63 : n + 1 ≤ maxLen) (hbytes : (n + 1) * bytes ≤ 140737488355328) (hbase : base ≤ w0.heap.size)
  (h : ∀ v' w', w'.ownsRow base e 1 v' (n + 1) (xs ++ [x]) → w0.grownBy w' v.ownBlock → wpList P ops Q rest (a.put o.dst v') w') : wpList P ops Q (o :: rest) a (w0.alloc (.cells #[x] e)) := by
 obtain ⟨i, hi, hz0, hz1, hz2⟩ := info_parts ti.2
 refine wpList_append_own _ hg s y t ho base e i z 1 bytes ti.1 hi hz0 hz1 hz2 hzs (by decide) v n xs hs (hown.alloc _) ⟨w0.heap.size, 0, none⟩ 1 1 [x] hy rfl ?_ (by simp [hx1]) h63 hbytes (by simp; omega) fun v' w' a b _ => h v' w' a (grown_trans (World.grownBy_alloc _ _ _) b)
 intro j u hj
 have hj' : j < 1 := by have := (List.getElem?_eq_some_iff.1 hj).1; simpa using this
 obtain rfl : j = 0 := by omega
 simp at hj
 subst hj
 exact World.cell?_alloc_at _ _ _ _ rfl

theorem own_flat {α : Type} {enc : α → Value} {ok : α → Prop} {w : World} {base e n : Nat} {v : Value} {l : List α} (h : w.ownsRow base e 1 v n (l.map enc)) (hs : ∀ i, (hi : i < l.length) → ok l[i]) :
  ∃ fp, (sSlice (sFlat enc ok)).R w [v] l fp ∧ Own w base fp ∧ ∀ b ∈ fp, v.ownBlock = some b := by
 have hn : l.length = n := by have := h.1; simpa using this
 rcases h.2 with ⟨rfl, h0⟩ | ⟨g, cap, cur, rfl, hb, hg, hnc, hcm, hcs, htake⟩
 ·obtain rfl : l = [] := by simpa using hn.trans h0
  exact ⟨[], ⟨none, 0, rfl, by simp, by simp, .inl ⟨rfl, rfl⟩⟩, Own.nil _ _, by simp⟩
 ·obtain ⟨fp, h1, h2⟩ := flat_of_own (ok := ok) h hs
  refine ⟨fp, h1, h2, ?_⟩
  obtain ⟨a, cap', hv, _, _, h3⟩ := h1
  rcases h3 with ⟨_, rfl⟩ | ⟨_, b, off, fps, rfl, rfl, _, he⟩
  ·simp
  ·simp only [List.cons.injEq, Value.slice.injEq, Option.some.injEq, Addr.mk.injEq, and_true] at hv
   obtain ⟨⟨rfl, _⟩, _⟩ := hv
   intro x hx
   rcases List.mem_cons.1 hx with rfl | hx
   ·rfl
   ·exfalso
    obtain ⟨i, hi, hx⟩ := List.mem_flatMap.1 hx
    obtain ⟨es, _, _, _, h4⟩ := he i (by simpa using hi)
    rw [h4] at hx
    simp at hx

theorem slice_empty {α : Type} (S : Shape α) (w : World) (a : Option Addr) (cap : Nat) (h : cap ≤ maxLen) : (sSlice S).R w [.slice a 0 cap] [] [] :=
 ⟨a, cap, rfl, by simp, h, .inl ⟨rfl, rfl⟩⟩

theorem Own.app {w : World} {lo : Nat} {fp1 fp2 : List Nat} (h1 : Own w lo fp1) (h2 : Own w lo fp2) (hd : ∀ b ∈ fp1, b ∉ fp2) : Own w lo (fp1 ++ fp2) :=
 ⟨List.nodup_append.2 ⟨h1.1, h2.1, fun a ha b hb e => hd a ha (e ▸ hb)⟩, fun b hb => (List.mem_append.1 hb).elim (h1.2 b) (h2.2 b)⟩

end Go.Proofs.YtlegeancmcmbaaaDoor
