/- A row of structs that a call makes and fills, element by element. Over any program. -/
import Derived.Test.YtigbaeokccknaaaRecK
namespace Go.Proofs.Ytigbaeokccknaaa
open Go.RowKit

/-- Two blocks that were made one after another. -/
theorem alloc2_blk (w : World) (c0 c1 : Array Value) (t0 t1 : TypeId) :
    ((w.alloc (.cells c0 t0)).alloc (.cells c1 t1)).heap[w.heap.size]? = some (.cells c0 t0 (0, 0)) ∧
    ((w.alloc (.cells c0 t0)).alloc (.cells c1 t1)).heap[w.heap.size + 1]? = some (.cells c1 t1 (0, 0)) := by
  refine ⟨?_, ?_⟩
  · show ((w.heap.push _).push _)[_]? = _
    rw [Array.getElem?_push, if_neg (by simp), Array.getElem?_push, if_pos rfl]
  · show ((w.heap.push _).push _)[_]? = _
    rw [Array.getElem?_push, if_pos (by simp)]

/-- Cells stored one behind the other. -/
def putAll (w : World) (b : Nat) : Nat → List Value → World
  | _, [] => w
  | o, c :: cs => putAll (w.setCell ⟨b, o, none⟩ c) b (o + 1) cs
def setFrom : List Value → Nat → List Value → List Value
  | xs, _, [] => xs
  | xs, o, c :: cs => setFrom (xs.set o c) (o + 1) cs
theorem setFrom_app : ∀ (cs A Z R : List Value), Z.length = cs.length → setFrom (A ++ (Z ++ R)) A.length cs = A ++ (cs ++ R)
  | [], A, Z, R, h => by
    have : Z = [] := by simpa using h
    subst this; simp [setFrom]
  | c :: cs, A, [], R, h => by simp at h
  | c :: cs, A, z :: Z, R, h => by
    unfold setFrom
    have e : (A ++ (z :: Z ++ R)).set A.length c = (A ++ [c]) ++ (Z ++ R) := by simp
    rw [e]
    have e2 : A.length + 1 = (A ++ [c]).length := by simp
    rw [e2, setFrom_app cs (A ++ [c]) Z R (by simpa using h)]
    simp
theorem putAll_row {base e size n cap g : Nat} : ∀ (cs : List Value) (w : World) (xs : List Value) (o : Nat), w.ownsRow base e size (.slice (some ⟨g, 0, none⟩) n cap) n xs →
    (putAll w g o cs).ownsRow base e size (.slice (some ⟨g, 0, none⟩) n cap) n (setFrom xs o cs)
  | [], _, _, _, h => h
  | c :: cs, w, xs, o, h => putAll_row cs _ _ (o + 1) (h.stored o c).1
theorem putAll_below {B g : Nat} {a : World} (hg : B ≤ g) : ∀ (cs : List Value) (w : World) (o : Nat), Below B a w → Below B a (putAll w g o cs)
  | [], _, _, h => h
  | c :: cs, w, o, h => putAll_below hg cs _ (o + 1) (h.setCell (p := ⟨g, o, none⟩) hg c)
theorem putAll_kept {g : Nat} : ∀ (cs : List Value) (w : World) (o : Nat), Kept [g] w (putAll w g o cs)
  | [], w, _ => Kept.refl _ w
  | c :: cs, w, o => ((Kept.refl [g] w).setCell (p := ⟨g, o, none⟩) (by simp) c).trans (putAll_kept cs _ (o + 1))

/-- The row at block g (the first of the call's own): k elements are in it. -/
structure Filling {α : Type} (S : Shape α) (g : Nat) (e : TypeId) (l : List α) (k : Nat) (w : World) (L : List (Elem α)) (R : List Value) : Prop where
  row : w.ownsRow g e S.m (.slice (some ⟨g, 0, none⟩) l.length l.length) l.length (L.flatMap (·.cells) ++ R)
  dat : L.map (·.d) = l.take k
  len : ∀ x ∈ L, x.cells.length = S.m
  el : ∀ x ∈ L, S.R w x.cells x.d x.fp
  own : Own w (g + 1) (L.flatMap (·.fp))
section
variable {α : Type} {S : Shape α} {g e : Nat} {l : List α} {k : Nat} {w w' : World} {L : List (Elem α)} {R : List Value}
theorem Filling.start {xs : List Value} (h : w.ownsRow g e S.m (.slice (some ⟨g, 0, none⟩) l.length l.length) l.length xs) : Filling S g e l 0 w [] xs :=
  ⟨by simpa using h, by simp, by simp, by simp, Own.nil _ _⟩
theorem Filling.count (h : Filling S g e l k w L R) (hk : k ≤ l.length) : L.length = k := by
  have := congrArg List.length h.dat
  simpa [hk] using this
theorem Filling.cells (h : Filling S g e l k w L R) (hk : k ≤ l.length) : (L.flatMap (·.cells)).length = k * S.m := by rw [flatMap_len h.len, h.count hk]
theorem Filling.rest (h : Filling S g e l k w L R) (hk : k ≤ l.length) : R.length = (l.length - k) * S.m := by
  have h1 := h.row.1
  rw [List.length_append, h.cells hk] at h1
  have : (l.length - k) * S.m = l.length * S.m - k * S.m := Nat.sub_mul _ _ _
  omega
theorem Filling.lt (h : Filling S g e l k w L R) : g < w.heap.size := (h.row.lt g rfl).2
theorem Filling.below (h : Filling S g e l k w L R) (hb : Below w.heap.size w w') : Filling S g e l k w' L R where
  row := by
    refine ⟨h.row.1, ?_⟩
    rcases h.row.2 with h0 | ⟨g', cap, cur, h1, h2, h3, h4⟩
    · exact .inl h0
    · exact .inr ⟨g', cap, cur, h1, h2, (hb.block g' (Array.getElem?_eq_some_iff.1 h3).1).trans h3, h4⟩
  dat := h.dat
  len := h.len
  el := fun x hx => S.below (h.el x hx) hb
  own := h.own.grow hb
/-- The cells of the next element: there, not frozen. -/
theorem Filling.cell (h : Filling S g e l k w L R) (hk : k < l.length) {j : Nat} (hj : j < S.m) : ∃ u, w.cell? ⟨g, k * S.m + j, none⟩ = some u := by
  have h1 : (k + 1) * S.m ≤ l.length * S.m := Nat.mul_le_mul_right _ hk
  rw [Nat.succ_mul] at h1
  rw [h.row.cellAt (k * S.m + j) (by omega), List.getElem?_append_right (by rw [h.cells (by omega)]; omega), h.cells (by omega)]
  have h2 := h.rest (by omega)
  have h3 : (l.length - k) * S.m = l.length * S.m - k * S.m := Nat.sub_mul _ _ _
  exact ⟨R[k * S.m + j - k * S.m]'(by omega), List.getElem?_eq_getElem _⟩
theorem Filling.frozen (h : Filling S g e l k w L R) (o : Nat) : w.frozen? ⟨g, o, none⟩ = false := h.row.frozenAt o
theorem Filling.next {cs : List Value} {fp : List Nat} {w0 : World} (h0 : Filling S g e l k w0 L R) (hk : k < l.length) (hb : Below w0.heap.size w0 w) (hlen : cs.length = S.m) (hR : S.R w cs l[k] fp) (ho : Own w w0.heap.size fp) :
    ∃ R', Filling S g e l (k + 1) (putAll w g (k * S.m) cs) (L ++ [⟨cs, l[k], fp⟩]) R' := by
  have h := h0.below hb
  have hg0 := h0.lt
  have hap : ∀ x ∈ L, ∀ b ∈ x.fp, b ∈ L.flatMap (·.fp) := fun x hx b hb' => List.mem_flatMap.2 ⟨x, hx, hb'⟩
  have hn : ∀ b ∈ L.flatMap (·.fp), b ∉ [g] := fun b hb' => by have := (h.own.2 b hb').1; simp; omega
  have hn2 : ∀ b ∈ fp, b ∉ [g] := fun b hb' => by have := (ho.2 b hb').1; simp; omega
  have hK := putAll_kept (g := g) cs w (k * S.m)
  have hr := h.rest (by omega)
  have hsp : (l.length - k) * S.m = S.m + (l.length - (k + 1)) * S.m := by rw [show l.length - k = (l.length - (k + 1)) + 1 by omega, Nat.succ_mul]; omega
  refine ⟨R.drop S.m, ⟨?_, ?_, fun x hx => ?_, fun x hx => ?_, ?_⟩⟩
  · have := putAll_row cs w _ (k * S.m) h.row
    have e1 : L.flatMap (·.cells) ++ R = L.flatMap (·.cells) ++ (R.take S.m ++ R.drop S.m) := by rw [List.take_append_drop]
    rw [e1, ← h.cells (by omega), setFrom_app cs _ (R.take S.m) (R.drop S.m) (by rw [List.length_take, hlen]; omega)] at this
    rw [List.flatMap_append, List.flatMap_cons, List.flatMap_nil, List.append_nil, List.append_assoc, ← h.cells (by omega)]
    exact this
  · rw [List.map_append, h.dat, List.take_succ_eq_append_getElem hk]; rfl
  · rcases List.mem_append.1 hx with hx | hx
    · exact h.len x hx
    · obtain rfl := List.mem_singleton.1 hx; exact hlen
  · rcases List.mem_append.1 hx with hx | hx
    · exact S.kept (h.el x hx) (fun b hb' => hn b (hap x hx b hb')) hK
    · obtain rfl := List.mem_singleton.1 hx
      exact S.kept hR hn2 hK
  · rw [List.flatMap_append, List.flatMap_cons, List.flatMap_nil, List.append_nil]
    refine Own.app (h.own.kept hn hK) ((Own.lower ho (by omega)).kept hn2 hK) fun b hb1 hb2 => ?_
    have h1 := (ho.2 b hb2).1
    have h2 := h0.own.lt b hb1
    omega
theorem Filling.done (h : Filling S g e l k w L R) (hk : l.length = k) : ∃ fp, (sSlice S).R w [.slice (some ⟨g, 0, none⟩) l.length l.length] l fp ∧ Own w g fp := by
  have hc := h.count (by omega)
  have hr : R = [] := by
    have := h.rest (by omega)
    rw [hk, Nat.sub_self, Nat.zero_mul] at this
    exact List.length_eq_zero_iff.1 this
  have hd := h.dat
  rw [List.take_of_length_le (by omega)] at hd
  have hrow := h.row
  rw [hr, List.append_nil] at hrow
  have hL : L.length = l.length := by omega
  rw [← hL] at hrow
  obtain ⟨fp, h1, h2, h3⟩ := slice_of_row hrow (fun x hx => ⟨h.len x hx, h.el x hx⟩)
  rw [hd, hL] at h1
  exact ⟨fp, h1, h3 (Own.lower h.own (by omega)) (fun g' hg' hx => by
    simp only [Value.ownBlock, Option.some.injEq] at hg'
    have := (h.own.2 g' hx).1
    omega)⟩
end

/-- Weights of a list. -/
theorem wsum_succ {α : Type} (f : α → Nat) (l : List α) (k : Nat) (h : k < l.length) : ((l.take (k + 1)).map f).sum = ((l.take k).map f).sum + f l[k] := by
  rw [List.take_succ_eq_append_getElem h]; simp only [List.map_append, List.sum_append, List.map_cons, List.map_nil, List.sum_cons, List.sum_nil, Nat.add_zero]
theorem wsum_le {α : Type} (f : α → Nat) (l : List α) (k : Nat) : ((l.take k).map f).sum ≤ (l.map f).sum := by
  have := congrArg (fun l : List α => (l.map f).sum) (List.take_append_drop k l)
  simp only [List.map_append, List.sum_append] at this
  omega
theorem wsum_at {α : Type} (f : α → Nat) (l : List α) (k : Nat) (h : k < l.length) : f l[k] ≤ (l.map f).sum := by
  have h1 := wsum_succ f l k h
  have h2 := wsum_le f l (k + 1)
  omega

end Go.Proofs.Ytigbaeokccknaaa
