/- Joined lines have all bytes: lists alone. -/
import Derived.Test.YtegpienbgmfghaaJoin0
namespace Go.Proofs.Ytegpienbgmfghaa
open Go.RowKit

def bytesOf : List ByteArray → Nat
  | [] => 0
  | s :: t => s.size + bytesOf t
theorem glue_bytes (p : ByteArray) (k : Int) (X : List (ByteArray × Int)) (h : X ≠ []) : bytesOf ((glue p k X).map (·.1)) = p.size + bytesOf (X.map (·.1)) ∧ (glue p k X).length = X.length := by
  cases X with
  | nil => exact absurd rfl h
  | cons x t => simp only [glue, List.map_cons, bytesOf, ByteArray.size_append, List.length_cons]; exact ⟨by omega, trivial⟩
theorem jgo_bytes : ∀ (l : List ByteArray) (k : Int), bytesOf l + (jgo k l).length = bytesOf ((jgo k l).map (·.1)) + l.length ∧ (jgo k l).length ≤ l.length
  | [], k => by simp [jgo, bytesOf]
  | x :: r, k => by
    have ih := jgo_bytes r (k + 1)
    unfold jgo
    split
    · rename_i h
      have hp := ends_pos h.1
      have hg := glue_bytes (strip x) k (jgo (k + 1) r) (jgo_ne h.2)
      rw [hg.1, hg.2, strip_size]
      simp only [bytesOf, List.length_cons]
      omega
    · simp only [bytesOf, List.length_cons, List.map_cons]
      omega
/-- The numbers ascend, all from k on. -/
def Asc (k : Int) : List Int → Prop
  | [] => True
  | x :: t => k ≤ x ∧ Asc (x + 1) t
theorem Asc.mono {k k' : Int} (h : k' ≤ k) : ∀ {l : List Int}, Asc k l → Asc k' l
  | [], _ => trivial
  | _ :: _, ⟨a, b⟩ => ⟨by omega, b⟩
theorem jgo_asc : ∀ (l : List ByteArray) (k : Int), Asc k ((jgo k l).map (·.2))
  | [], k => by simp [jgo, Asc]
  | x :: r, k => by
    have ih := jgo_asc r (k + 1)
    unfold jgo
    split
    · cases hj : jgo (k + 1) r with
      | nil => simp [glue, Asc]
      | cons y t =>
        rw [hj] at ih
        simp only [glue, List.map_cons, Asc] at ih ⊢
        exact ⟨by omega, Asc.mono (by omega) ih.2⟩
    · exact ⟨Int.le_refl _, ih⟩
theorem Asc.at {k : Int} : ∀ {l : List Int}, Asc k l → ∀ i, (h : i + 1 < l.length) → l[i] < l[i + 1]
  | x :: y :: t, ⟨_, b, _⟩, 0, _ => by show x < y; omega
  | x :: t, ⟨_, b⟩, i + 1, h => Asc.at b i (by simpa using h)
theorem joinRes_facts (l : List ByteArray) (h : joinOk l = true) :
    bytesOf l + (joinRes l).length = bytesOf ((joinRes l).map (·.1)) + l.length ∧ (joinRes l).length ≤ l.length ∧ Asc 1 ((joinRes l).map (·.2)) := by
  have e : joinRes l = jgo 1 l := by unfold joinRes; rw [if_pos h]
  rw [e]
  exact ⟨(jgo_bytes l 1).1, (jgo_bytes l 1).2, jgo_asc l 1⟩
theorem joinRes_no {l : List ByteArray} (h : joinOk l = false) : joinRes l = [] := by unfold joinRes; rw [h]; rfl
theorem bytes_take (l : List ByteArray) (k : Nat) (h : k < l.length) : bytesOf (l.take (k + 1)) = bytesOf (l.take k) + l[k].size := by
  induction l generalizing k with
  | nil => simp at h
  | cons x t ih =>
    cases k with
    | zero => simp [bytesOf]
    | succ k =>
      simp only [List.take_succ_cons, bytesOf, List.getElem_cons_succ]
      rw [ih k (by simpa using h)]; omega
theorem bytes_le (l : List ByteArray) (M : Nat) (h : ∀ s ∈ l, s.size ≤ M) : bytesOf l ≤ l.length * M := by
  induction l with
  | nil => simp [bytesOf]
  | cons x t ih =>
    have h1 := h x (by simp)
    have h2 := ih (fun s hs => h s (by simp [hs]))
    simp only [bytesOf, List.length_cons]
    rw [Nat.add_mul]; omega
theorem bytes_take_le (l : List ByteArray) (k : Nat) : bytesOf (l.take k) ≤ bytesOf l := by
  induction l generalizing k with
  | nil => simp
  | cons x t ih =>
    cases k with
    | zero => simp [bytesOf]
    | succ k => simp only [List.take_succ_cons, bytesOf]; have := ih k; omega

end Go.Proofs.Ytegpienbgmfghaa
