/- Lines without their comments: no program. -/
import Derived.Test.YtigbaeokccknaaaLine
import Derived.Lib.Index
import Derived.Lib.Strings
namespace Go.Proofs.Ytigbaeokccknaaa
open Go.RowKit

def tEnd (s : ByteArray) (k : Nat) : Nat :=
  if h : k < s.size then (if s[k].toNat = 34 then k + 1 else if s[k].toNat = 92 then tEnd s (k + 2) else tEnd s (k + 1)) else s.size
termination_by s.size - k
theorem tEnd_quote {s : ByteArray} {k : Nat} (h : k < s.size) (hc : s[k].toNat = 34) : tEnd s k = k + 1 := by rw [tEnd, dif_pos h, if_pos hc]
theorem tEnd_back {s : ByteArray} {k : Nat} (h : k < s.size) (hc : s[k].toNat = 92) : tEnd s k = tEnd s (k + 2) := by rw [tEnd, dif_pos h, if_neg (by omega), if_pos hc]
theorem tEnd_else {s : ByteArray} {k : Nat} (h : k < s.size) (h1 : ¬ s[k].toNat = 34) (h2 : ¬ s[k].toNat = 92) : tEnd s k = tEnd s (k + 1) := by rw [tEnd, dif_pos h, if_neg h1, if_neg h2]
theorem tEnd_out {s : ByteArray} {k : Nat} (h : s.size ≤ k) : tEnd s k = s.size := by rw [tEnd, dif_neg (by omega)]
theorem tEnd_bounds (s : ByteArray) (k : Nat) : tEnd s k ≤ s.size ∧ (k ≤ s.size → k ≤ tEnd s k) := by
  induction k using tEnd.induct (s := s) with
  | case1 k h hc => rw [tEnd_quote h hc]; omega
  | case2 k h h1 hc ih => rw [tEnd_back h hc]; exact ⟨ih.1, fun _ => by
    by_cases h2 : k + 2 ≤ s.size
    · have := ih.2 h2; omega
    · rw [tEnd_out (by omega)]; omega⟩
  | case3 k h h1 h2 ih => rw [tEnd_else h h1 h2]; exact ⟨ih.1, fun _ => by have := ih.2 (by omega); omega⟩
  | case4 k h => rw [tEnd_out (by omega)]; omega

def two (s : ByteArray) (k : Nat) (a b : UInt8) : Bool := [a, b].isPrefixOf (s.data.toList.drop k)
theorem take_two (l : List UInt8) (a b : UInt8) : (l.take 2 == [a, b]) = [a, b].isPrefixOf l := by
  match l with
  | [] => rfl
  | [x] => simp [List.isPrefixOf]
  | x :: y :: t =>
    show ([x, y] == [a, b]) = (a == x && (b == y && true))
    rw [Bool.eq_iff_iff, beq_iff_eq, Bool.and_eq_true, Bool.and_eq_true, beq_iff_eq, beq_iff_eq, List.cons.injEq, List.cons.injEq]
    exact ⟨fun h => ⟨h.1.symm, h.2.1.symm, rfl⟩, fun h => ⟨h.1.symm, h.2.1.symm, rfl⟩⟩
theorem ext_list (s : ByteArray) (i j : Nat) : (s.extract i j).data.toList = (s.data.toList.drop i).take (j - i) := by
  rw [ByteArray.data_extract, Array.toList_extract, List.extract_eq_take_drop]
theorem ext_two (s : ByteArray) (k : Nat) (a b : UInt8) : ((s.extract k (k + 2)).toList == [a, b]) = two s k a b := by
  rw [ByteArray.toList_eq, ext_list, show k + 2 - k = 2 from by omega, take_two]; rfl
theorem ext_min (s : ByteArray) (k : Nat) : s.extract k (min s.size (k + 2)) = s.extract k (k + 2) := by
  apply Go.WideShapes.bytes_inj
  rw [ext_list, ext_list]
  by_cases h : k + 2 ≤ s.size
  · rw [Nat.min_eq_right h]
  · have e : s.data.toList.length = s.size := Array.length_toList
    rw [Nat.min_eq_left (by omega), List.take_of_length_le (by rw [List.length_drop]; omega), List.take_of_length_le (by rw [List.length_drop]; omega)]
theorem ext_rest (s : ByteArray) (k : Nat) : (s.extract k s.size).data.toList = s.data.toList.drop k := by
  have e : s.data.toList.length = s.size := Array.length_toList
  rw [ext_list, List.take_of_length_le (by rw [List.length_drop]; omega)]
theorem pre_two (s : ByteArray) (k : Nat) (a b : UInt8) : Lib.hasPrefix (s.extract k s.size).data.toList [a, b] = two s k a b := by
  rw [ext_rest]; rfl
theorem two_room {s : ByteArray} {k : Nat} {a b : UInt8} (h : two s k a b = true) : k + 1 < s.size := by
  have e : s.data.toList.length = s.size := Array.length_toList
  have := List.IsPrefix.length_le (List.isPrefixOf_iff_prefix.1 h)
  simp only [List.length_cons, List.length_nil, List.length_drop] at this
  omega

/-- The place behind the end of a comment whose inside begins at k. -/
def cEnd (s : ByteArray) (k : Nat) : Int := if Lib.index (s.data.toList.drop k) [42, 47] < 0 then -1 else k + Lib.index (s.data.toList.drop k) [42, 47] + 2
theorem index_room : ∀ (l : List UInt8) {sub : List UInt8}, 0 ≤ Lib.index l sub → (Lib.index l sub).toNat + sub.length ≤ l.length
  | [], sub, h => by
    unfold Lib.index at *
    split at h
    · rename_i h1; have : sub = [] := by simpa using h1
      subst this; simp
    · omega
  | b :: l, sub, h => by
    unfold Lib.index at *
    split at h
    · rename_i h1
      rw [if_pos h1]
      have := List.IsPrefix.length_le (List.isPrefixOf_iff_prefix.1 h1)
      simpa using this
    · rename_i h1
      rw [if_neg h1]
      split at h
      · omega
      · rename_i h2
        rw [if_neg h2]
        have h3 := Lib.index_ge l sub
        have h4 : ¬ Lib.index l sub = -1 := by simpa using h2
        have := index_room l (sub := sub) (by omega)
        simp only [List.length_cons]
        omega
theorem cEnd_room {s : ByteArray} {k : Nat} (h : 0 ≤ cEnd s k) (hk : k ≤ s.size) : (k : Int) + 2 ≤ cEnd s k ∧ cEnd s k ≤ s.size := by
  unfold cEnd at *
  split at h
  · omega
  · rename_i h1
    rw [if_neg h1]
    have := index_room (s.data.toList.drop k) (sub := [42, 47]) (by omega)
    have e : s.data.toList.length = s.size := Array.length_toList
    simp only [List.length_cons, List.length_nil, List.length_drop] at this
    omega
theorem cEnd_ge (s : ByteArray) (k : Nat) : -1 ≤ cEnd s k := by
  unfold cEnd
  have := Lib.index_ge (s.data.toList.drop k) [42, 47]
  split <;> omega
def NoEnd (s : ByteArray) (k m : Nat) : Prop := ∀ j, k ≤ j → j < m → two s j 42 47 = false
theorem NoEnd.zero (s : ByteArray) (k : Nat) : NoEnd s k k := fun j h1 h2 => by omega
theorem NoEnd.succ {s : ByteArray} {k m : Nat} (h : NoEnd s k m) (h2 : two s m 42 47 = false) : NoEnd s k (m + 1) := by
  intro j h1 hj
  by_cases e : j = m
  · subst e; exact h2
  · exact h j h1 (by omega)
theorem NoEnd.hit {s : ByteArray} {k m : Nat} (h : NoEnd s k m) (hk : k ≤ m) (h2 : two s m 42 47 = true) : cEnd s k = m + 2 := by
  have hr := two_room h2
  have e : s.data.toList.length = s.size := Array.length_toList
  have : Lib.index (s.data.toList.drop k) [42, 47] = ((m - k : Nat) : Int) := by
    refine Lib.index_first (by rw [List.length_drop]; omega) ?_ ?_
    · unfold Lib.occAt; rw [List.drop_drop, show k + (m - k) = m from by omega]; exact h2
    · intro j hj; unfold Lib.occAt; rw [List.drop_drop]; exact h (k + j) (by omega) (by omega)
  unfold cEnd
  rw [this, if_neg (by omega)]
  omega
theorem NoEnd.miss {s : ByteArray} {k m : Nat} (h : NoEnd s k m) (hm : s.size ≤ m + 1) : cEnd s k = -1 := by
  have : Lib.index (s.data.toList.drop k) [42, 47] = -1 := by
    refine Lib.index_none fun j hj => ?_
    unfold Lib.occAt; rw [List.drop_drop]
    by_cases hj : k + j < m
    · exact h (k + j) (by omega) hj
    · cases hb : List.isPrefixOf [42, 47] (s.data.toList.drop (k + j))
      · rfl
      · have := two_room (s := s) (k := k + j) hb; omega
  unfold cEnd
  rw [this]; rfl

def strip1 (s : ByteArray) (k : Nat) : Option ByteArray :=
  if h : k < s.size then
    if two s k 47 47 = true then some ⟨#[]⟩
    else if two s k 47 42 = true then
      if cEnd s (k + 2) < 0 then none else (strip1 s (max (k + 1) (cEnd s (k + 2)).toNat)).map (⟨#[32]⟩ ++ ·)
    else if s[k].toNat = 34 then (strip1 s (max (k + 1) (tEnd s (k + 1)))).map (s.extract k (tEnd s (k + 1)) ++ ·)
    else (strip1 s (k + 1)).map (s.extract k (k + 1) ++ ·)
  else some ⟨#[]⟩
termination_by s.size - k

/-- What has come out when the place k is reached. -/
def At1 (s : ByteArray) (k : Nat) (out : ByteArray) : Prop := (strip1 s k).map (out ++ ·) = strip1 s 0 ∧ out.size ≤ k
theorem app_assoc (a b : ByteArray) (o : Option ByteArray) : (o.map (b ++ ·)).map (a ++ ·) = o.map ((a ++ b) ++ ·) := by
  rw [Option.map_map]; congr 1; funext x; simp [ByteArray.append_assoc]
theorem nil_app (a : ByteArray) : (⟨#[]⟩ : ByteArray) ++ a = a := by apply Go.WideShapes.bytes_inj; simp
theorem app_nil (a : ByteArray) : a ++ (⟨#[]⟩ : ByteArray) = a := by apply Go.WideShapes.bytes_inj; simp
theorem At1.zero (s : ByteArray) : At1 s 0 ⟨#[]⟩ := ⟨by
  have : (fun x : ByteArray => (⟨#[]⟩ : ByteArray) ++ x) = id := by funext x; exact nil_app x
  rw [this, Option.map_id]; rfl, by simp [ByteArray.size]⟩
theorem At1.line {s : ByteArray} {k : Nat} {out : ByteArray} (h : At1 s k out) (hk : k < s.size) (h1 : two s k 47 47 = true) : strip1 s 0 = some out := by
  rw [← h.1, strip1, dif_pos hk, if_pos h1, Option.map_some, app_nil]
theorem At1.done {s : ByteArray} {k : Nat} {out : ByteArray} (h : At1 s k out) (hk : s.size ≤ k) : strip1 s 0 = some out := by
  rw [← h.1, strip1, dif_neg (by omega), Option.map_some, app_nil]
theorem At1.open_ {s : ByteArray} {k : Nat} {out : ByteArray} (h : At1 s k out) (hk : k < s.size) (h1 : two s k 47 47 = false) (h2 : two s k 47 42 = true) (h3 : cEnd s (k + 2) < 0) : strip1 s 0 = none := by
  rw [← h.1, strip1, dif_pos hk, if_neg (by simp [h1]), if_pos h2, if_pos h3]; rfl
theorem At1.comment {s : ByteArray} {k : Nat} {out : ByteArray} (h : At1 s k out) (hk : k < s.size) (h1 : two s k 47 47 = false) (h2 : two s k 47 42 = true) (h3 : ¬ cEnd s (k + 2) < 0) : At1 s (cEnd s (k + 2)).toNat (out ++ ⟨#[32]⟩) := by
  have hr := two_room h2
  have hc := cEnd_room (s := s) (k := k + 2) (by omega) (by omega)
  refine ⟨?_, by rw [ByteArray.size_append]; have := h.2; show out.size + 1 ≤ _; omega⟩
  rw [← h.1, strip1.eq_def s k, dif_pos hk, if_neg (by simp [h1]), if_pos h2, if_neg h3, app_assoc, Nat.max_eq_right (by omega)]
theorem At1.text {s : ByteArray} {k : Nat} {out : ByteArray} (h : At1 s k out) (hk : k < s.size) (h1 : two s k 47 47 = false) (h2 : two s k 47 42 = false) (h3 : s[k].toNat = 34) : At1 s (tEnd s (k + 1)) (out ++ s.extract k (tEnd s (k + 1))) := by
  have hb := tEnd_bounds s (k + 1)
  have hb2 := hb.2 (by omega)
  refine ⟨?_, by rw [ByteArray.size_append, ByteArray.size_extract]; have := h.2; omega⟩
  rw [← h.1, strip1.eq_def s k, dif_pos hk, if_neg (by simp [h1]), if_neg (by simp [h2]), if_pos h3, app_assoc, Nat.max_eq_right (by omega)]
theorem At1.byte {s : ByteArray} {k : Nat} {out : ByteArray} (h : At1 s k out) (hk : k < s.size) (h1 : two s k 47 47 = false) (h2 : two s k 47 42 = false) (h3 : ¬ s[k].toNat = 34) : At1 s (k + 1) (out ++ s.extract k (k + 1)) := by
  refine ⟨?_, by rw [ByteArray.size_append, ByteArray.size_extract]; have := h.2; omega⟩
  rw [← h.1, strip1.eq_def s k, dif_pos hk, if_neg (by simp [h1]), if_neg (by simp [h2]), if_neg h3, app_assoc]

def stripRes (s : ByteArray) : ByteArray × Bool := if lineOk s = true then (match strip1 s 0 with | none => (⟨#[]⟩, false) | some x => (x, true)) else (⟨#[]⟩, false)
theorem stripRes_bad {s : ByteArray} (h : lineOk s = false) : stripRes s = (⟨#[]⟩, false) := by unfold stripRes; rw [h]; rfl
theorem stripRes_none {s : ByteArray} (h : strip1 s 0 = none) : stripRes s = (⟨#[]⟩, false) := by unfold stripRes; rw [h]; split <;> rfl
theorem stripRes_some {s x : ByteArray} (h0 : lineOk s = true) (h : strip1 s 0 = some x) : stripRes s = (x, true) := by unfold stripRes; rw [if_pos h0, h]
theorem lineOk_size {s : ByteArray} (h : lineOk s = true) : s.size ≤ 200 := by
  unfold lineOk at h
  rw [Bool.and_eq_true, decide_eq_true_eq] at h
  exact h.1
theorem ret_two {a : ByteArray × Bool} {x : ByteArray} {b : Bool} (h : a = (x, b)) : Ending.returned (.tuple #[.string x, .bool b]) = .returned (.tuple #[.string a.1, .bool a.2]) := by rw [h]

end Go.Proofs.Ytigbaeokccknaaa
