/- Joined lines, as lists: no program. -/
import Derived.Test.YtegpienbgmfghaaMark2
namespace Go.Proofs.Ytegpienbgmfghaa
open Go.RowKit

def ends (s : ByteArray) : Bool := if h : 0 < s.size then s[s.size - 1] == 92 else false
def strip (s : ByteArray) : ByteArray := s.extract 0 (s.size - 1)
def glue (p : ByteArray) (k : Int) : List (ByteArray × Int) → List (ByteArray × Int)
  | [] => [(p, k)]
  | x :: t => (p ++ x.1, k) :: t
def jgo : Int → List ByteArray → List (ByteArray × Int)
  | _, [] => []
  | k, x :: r => if ends x = true ∧ r ≠ [] then glue (strip x) k (jgo (k + 1) r) else (x, k) :: jgo (k + 1) r
def joinOk (l : List ByteArray) : Bool := linesOk l && (jgo 1 l).all fun p => decide (p.1.size ≤ 200)
def joinRes (l : List ByteArray) : List (ByteArray × Int) := if joinOk l = true then jgo 1 l else []

theorem ba_empty_append (a : ByteArray) : (⟨#[]⟩ : ByteArray) ++ a = a := by
  apply Go.WideShapes.bytes_inj; simp
theorem glue_glue (p q : ByteArray) (k m : Int) (X : List (ByteArray × Int)) : glue p k (glue q m X) = glue (p ++ q) k X := by
  cases X with
  | nil => rfl
  | cons x t => simp [glue, ByteArray.append_assoc]
theorem jgo_ne {k : Int} {l : List ByteArray} (h : l ≠ []) : jgo k l ≠ [] := by
  cases l with
  | nil => exact absurd rfl h
  | cons x r =>
    unfold jgo
    split
    · cases jgo (k + 1) r <;> simp [glue]
    · simp
theorem jgo_glue (k : Int) (l : List ByteArray) (h : l ≠ []) : glue ⟨#[]⟩ k (jgo k l) = jgo k l := by
  cases l with
  | nil => exact absurd rfl h
  | cons x r =>
    unfold jgo
    split
    · rw [glue_glue, ba_empty_append]
    · simp [glue, ba_empty_append]
theorem drop_cons {α : Type} (l : List α) (k : Nat) (h : k < l.length) : l.drop k = l[k] :: l.drop (k + 1) := List.drop_eq_getElem_cons h
/-- One step where the line goes on. -/
theorem jgo_on {l : List ByteArray} {k : Nat} (h : k + 1 < l.length) (he : ends l[k] = true) (m : Int) :
    jgo m (l.drop k) = glue (strip l[k]) m (jgo (m + 1) (l.drop (k + 1))) := by
  rw [drop_cons l k (by omega), jgo, if_pos ⟨he, by intro e; have := congrArg List.length e; simp at this; omega⟩]
/-- One step where it ends. -/
theorem jgo_off {l : List ByteArray} {k : Nat} (h : k < l.length) (he : k + 1 = l.length ∨ ends l[k] = false) (m : Int) :
    jgo m (l.drop k) = (l[k], m) :: jgo (m + 1) (l.drop (k + 1)) := by
  rw [drop_cons l k h, jgo, if_neg]
  rintro ⟨h1, h2⟩
  rcases he with e | e
  · exact h2 (List.drop_of_length_le (by omega))
  · rw [e] at h1; exact absurd h1 (by simp)
theorem joinOk_no {l : List ByteArray} {x : ByteArray × Int} (h : x ∈ jgo 1 l) (hs : 200 < x.1.size) : joinOk l = false := by
  unfold joinOk
  have : ((jgo 1 l).all fun p => decide (p.1.size ≤ 200)) = false := by
    rw [List.all_eq_false]
    exact ⟨x, h, by simp; omega⟩
  rw [this, Bool.and_false]
/-- All texts so far are short. -/
def Short (J : List (ByteArray × Int)) : Prop := ∀ x ∈ J, x.1.size ≤ 200
theorem Short.snoc {J : List (ByteArray × Int)} (h : Short J) {p : ByteArray} {m : Int} (hp : p.size ≤ 200) : Short (J ++ [(p, m)]) := by
  intro x hx
  rcases List.mem_append.1 hx with hx | hx
  · exact h x hx
  · simp at hx; subst hx; exact hp
theorem joinOk_yes {l : List ByteArray} (h0 : linesOk l = true) (h : Short (jgo 1 l)) : joinOk l = true := by
  unfold joinOk
  rw [h0, Bool.true_and, List.all_eq_true]
  intro x hx; simpa using h x hx
theorem strip_size (s : ByteArray) : (strip s).size = s.size - 1 := by simp [strip, ByteArray.size_extract]
theorem ends_pos {s : ByteArray} (h : ends s = true) : 0 < s.size := by
  unfold ends at h; split at h
  · assumption
  · exact absurd h (by simp)
/-- The joined text without its last byte, where the last line has one. -/
theorem strip_append (p s : ByteArray) (h : 0 < s.size) : (p ++ s).extract 0 ((p ++ s).size - 1) = p ++ strip s := by
  apply Go.WideShapes.bytes_inj
  simp only [strip, ByteArray.data_extract, ByteArray.data_append, ByteArray.size_append, Array.toList_extract, Array.toList_append, List.extract_eq_take_drop, List.drop_zero, Nat.sub_zero]
  have e : p.data.toList.length = p.size := Array.length_toList
  rw [List.take_append]
  rw [List.take_of_length_le (by omega), e]
  congr 2; omega
theorem linesOk_size {l : List ByteArray} (h : linesOk l = true) : l.length ≤ 40 ∧ ∀ i, (hi : i < l.length) → l[i].size ≤ 200 := by
  unfold linesOk at h
  rw [Bool.and_eq_true, decide_eq_true_eq, List.all_eq_true] at h
  refine ⟨h.1, fun i hi => ?_⟩
  have := h.2 _ (List.getElem_mem hi)
  unfold lineOk at this
  rw [Bool.and_eq_true, decide_eq_true_eq] at this
  exact this.1
/-- The pairs that the spec has made when it stands at line k. -/
def AtLine (l : List ByteArray) (J : List (ByteArray × Int)) (k : Nat) : Prop := J ++ jgo ((k : Int) + 1) (l.drop k) = jgo 1 l ∧ Short J
/-- .. and within a group that began with number m: the part p is there already. -/
def InLine (l : List ByteArray) (J : List (ByteArray × Int)) (p : ByteArray) (m : Int) (k : Nat) : Prop := J ++ glue p m (jgo ((k : Int) + 1) (l.drop k)) = jgo 1 l ∧ Short J
theorem AtLine.zero (l : List ByteArray) : AtLine l [] 0 := ⟨by simp, by intro x hx; simp at hx⟩
theorem AtLine.in_ {l : List ByteArray} {J : List (ByteArray × Int)} {k : Nat} (h : AtLine l J k) (hk : k < l.length) : InLine l J ⟨#[]⟩ (k + 1) k :=
  ⟨by rw [jgo_glue _ _ (by intro e; have := congrArg List.length e; simp at this; omega)]; exact h.1, h.2⟩
theorem InLine.on {l : List ByteArray} {J : List (ByteArray × Int)} {p : ByteArray} {m : Int} {k : Nat} (h : InLine l J p m k) (hk : k + 1 < l.length) (he : ends l[k] = true) : InLine l J (p ++ strip l[k]) m (k + 1) :=
  ⟨by rw [← h.1, jgo_on hk he, glue_glue]; rfl, h.2⟩
theorem InLine.off {l : List ByteArray} {J : List (ByteArray × Int)} {p : ByteArray} {m : Int} {k : Nat} (h : InLine l J p m k) (hk : k < l.length) (he : k + 1 = l.length ∨ ends l[k] = false) :
    (J ++ [(p ++ l[k], m)]) ++ jgo (((k + 1 : Nat) : Int) + 1) (l.drop (k + 1)) = jgo 1 l := by
  rw [← h.1, jgo_off hk he]
  simp [glue]
theorem InLine.done {l : List ByteArray} {J : List (ByteArray × Int)} {p : ByteArray} {m : Int} {k : Nat} (h : InLine l J p m k) (hk : k < l.length) (he : k + 1 = l.length ∨ ends l[k] = false) (hs : (p ++ l[k]).size ≤ 200) : AtLine l (J ++ [(p ++ l[k], m)]) (k + 1) :=
  ⟨h.off hk he, h.2.snoc hs⟩
theorem InLine.long {l : List ByteArray} {J : List (ByteArray × Int)} {p : ByteArray} {m : Int} {k : Nat} (h : InLine l J p m k) (hs : 200 < p.size) : joinOk l = false := by
  have h1 := h.1
  cases hj : jgo ((k : Int) + 1) (l.drop k) with
  | nil => rw [hj] at h1; exact joinOk_no (x := (p, m)) (by rw [← h1]; simp [glue]) hs
  | cons x t => rw [hj] at h1; exact joinOk_no (x := (p ++ x.1, m)) (by rw [← h1]; simp [glue]) (by simp [ByteArray.size_append]; omega)
theorem InLine.long2 {l : List ByteArray} {J : List (ByteArray × Int)} {p : ByteArray} {m : Int} {k : Nat} (h : InLine l J p m k) (hk : k < l.length) (he : k + 1 = l.length ∨ ends l[k] = false) (hs : 200 < (p ++ l[k]).size) : joinOk l = false :=
  joinOk_no (x := (p ++ l[k], m)) (by rw [← h.off hk he]; simp) hs
theorem AtLine.end_ {l : List ByteArray} {J : List (ByteArray × Int)} {k : Nat} (h : AtLine l J k) (hk : l.length ≤ k) (h0 : linesOk l = true) : joinOk l = true ∧ joinRes l = J := by
  have e : jgo 1 l = J := by rw [← h.1, List.drop_of_length_le hk]; simp [jgo]
  have e2 : joinOk l = true := joinOk_yes h0 (by rw [e]; exact h.2)
  exact ⟨e2, by unfold joinRes; rw [if_pos e2, e]⟩

end Go.Proofs.Ytegpienbgmfghaa
