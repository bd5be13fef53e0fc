/- Rows of structs, element by element: what turns while one element is written. Over any program. -/
import Derived.Test.YtigbaeokccknaaaStruct
import Derived.Test.YtigbaeokccknaaaMark2
namespace Go.Proofs.Ytigbaeokccknaaa
open Go.RowKit

theorem alloc_below' (w : World) (o : Obj) : Below w.heap.size w (w.alloc o) := (Below.refl _ _).alloc (Nat.le_refl _) _
theorem boxcell {w w1 : World} {arr : Array Value} {ty : TypeId} {j : Nat} {v : Value} (hB : Below (w.alloc (.cells arr ty)).heap.size (w.alloc (.cells arr ty)) w1) (hj : arr[j]? = some v) : w1.cell? ⟨w.heap.size, j, none⟩ = some v :=
  (hB.cell (by simp)).trans (by rw [World.cell?_alloc_at _ _ _ _ rfl]; exact hj)
theorem elem_cell {w : World} {b off m i j : Nat} {es : List Value} {v : Value} (h : ElemAt w b off m i es) (hj : j < m) (hv : es[j]? = some v) : w.cell? ⟨b, off + i * m + j, none⟩ = some v := (h.2 j hj).trans hv
theorem elem_cell0 {w : World} {b off m i : Nat} {es : List Value} {v : Value} (h : ElemAt w b off m i es) (hj : 0 < m) (hv : es[0]? = some v) : w.cell? ⟨b, off + i * m, none⟩ = some v := (h.2 0 hj).trans hv

theorem blk_set {w : World} {g : Nat} {cs : Array Value} {t : TypeId} {fr : Nat × Nat} (h : w.heap[g]? = some (.cells cs t fr)) (j : Nat) (v : Value) : (w.setCell ⟨g, j, none⟩ v).heap[g]? = some (.cells (cs.setIfInBounds j v) t fr) := by
  simp [World.setCell, Array.getElem?_modify, h]
theorem blk_other {w : World} {g g' : Nat} {o : Obj} (h : w.heap[g]? = some o) (hn : g ≠ g') (j : Nat) (v : Value) : (w.setCell ⟨g', j, none⟩ v).heap[g]? = some o :=
  (Below.heap_setCell _ _ _ _ hn).trans h

/-- Blocks made one after another. -/
def allocs (w : World) (os : List Obj) : World := os.foldl World.alloc w
theorem allocs_list (os : List Obj) : ∀ w : World, (allocs w os).heap.toList = w.heap.toList ++ os := by
  induction os with
  | nil => intro w; simp [allocs]
  | cons o os ih =>
    intro w
    show (allocs (w.alloc o) os).heap.toList = _
    rw [ih]
    show (w.heap.push o).toList ++ os = _
    simp
theorem allocs_size (w : World) (os : List Obj) : (allocs w os).heap.size = w.heap.size + os.length := by
  have := congrArg List.length (allocs_list os w)
  simpa using this
theorem allocs_blk (w : World) (os : List Obj) (j : Nat) (hj : j < os.length) : (allocs w os).heap[w.heap.size + j]? = some os[j] := by
  rw [← Array.getElem?_toList, allocs_list, List.getElem?_append_right (by simp)]
  simp [List.getElem?_eq_getElem hj]
theorem allocs_below {B : Nat} {w0 : World} (os : List Obj) : ∀ w : World, Below B w0 w → B ≤ w.heap.size → Below B w0 (allocs w os) := by
  induction os with
  | nil => intro w h _; exact h
  | cons o os ih =>
    intro w h hs
    exact ih (w.alloc o) (h.alloc hs o) (by show B ≤ (w.heap.push o).size; simp; omega)

/-- Three blocks that were made one after another. -/
theorem alloc3_blk (w : World) (c0 c1 c2 : Array Value) (t0 t1 t2 : TypeId) :
    (((w.alloc (.cells c0 t0)).alloc (.cells c1 t1)).alloc (.cells c2 t2)).heap[w.heap.size + 1]? = some (.cells c1 t1 (0, 0)) ∧
    (((w.alloc (.cells c0 t0)).alloc (.cells c1 t1)).alloc (.cells c2 t2)).heap[w.heap.size + 1 + 1]? = some (.cells c2 t2 (0, 0)) ∧
    (((w.alloc (.cells c0 t0)).alloc (.cells c1 t1)).alloc (.cells c2 t2)).heap.size = w.heap.size + 1 + 1 + 1 := by
  refine ⟨?_, ?_, ?_⟩
  · show (((w.heap.push _).push _).push _)[_]? = _
    rw [Array.getElem?_push, if_neg (by simp), Array.getElem?_push, if_pos (by simp)]
  · show (((w.heap.push _).push _).push _)[_]? = _
    rw [Array.getElem?_push, if_pos (by simp)]
  · show (((w.heap.push _).push _).push _).size = _
    simp
theorem below3 (w : World) (c0 c1 c2 : Array Value) (t0 t1 t2 : TypeId) : Below w.heap.size w (((w.alloc (.cells c0 t0)).alloc (.cells c1 t1)).alloc (.cells c2 t2)) :=
  (((Below.refl _ _).alloc (Nat.le_refl _) _).alloc (by simp) _).alloc (by simp; omega) _

/-- From w to w' nothing has turned but the blocks fp and, of block b, the cells from lo to hi. -/
structure Turned (b lo hi : Nat) (fp : List Nat) (w w' : World) : Prop where
  kept : Kept (b :: fp) w w'
  cells : ∀ o, (o < lo ∨ hi ≤ o) → w'.cell? ⟨b, o, none⟩ = w.cell? ⟨b, o, none⟩
section
variable {b lo hi : Nat} {fp : List Nat} {w w1 w2 : World}
theorem Turned.refl (b lo hi : Nat) (fp : List Nat) (w : World) : Turned b lo hi fp w w := ⟨Kept.refl _ _, fun _ _ => rfl⟩
theorem Turned.set (h : Turned b lo hi fp w w1) {o : Nat} (h1 : lo ≤ o) (h2 : o < hi) (v : Value) : Turned b lo hi fp w (w1.setCell ⟨b, o, none⟩ v) :=
  ⟨h.kept.setCell (p := ⟨b, o, none⟩) (by simp) v, fun o' ho => by
    rw [World.cell?_setCell_other _ _ _ _ (by intro hh; simp only [Addr.mk.injEq] at hh; omega)]
    exact h.cells o' ho⟩
theorem Turned.below (h : Turned b lo hi fp w w1) (hb : b < w.heap.size) (hB : Below w1.heap.size w1 w2) : Turned b lo hi fp w w2 :=
  ⟨h.kept.trans (Kept.of_below hB), fun o ho => (hB.cell (p := ⟨b, o, none⟩) (Nat.lt_of_lt_of_le hb h.kept.size)).trans (h.cells o ho)⟩
theorem Turned.sub (h : Turned b lo hi fp w w1) (hb : b < w.heap.size) (hk : Kept fp w1 w2) (hn : b ∉ fp) : Turned b lo hi fp w w2 :=
  ⟨h.kept.trans (hk.mono fun x hx => by simp [hx]), fun o ho => (World.cell?_of_block (a := ⟨b, o, none⟩) (hk.block b (Nat.lt_of_lt_of_le hb h.kept.size) hn)).trans (h.cells o ho)⟩
theorem Turned.sub' {fp' : List Nat} (h : Turned b lo hi fp w w1) (hb : b < w.heap.size) (hk : Kept fp' w1 w2) (hs : ∀ x ∈ fp', x ∈ fp) (hn : b ∉ fp) : Turned b lo hi fp w w2 :=
  h.sub hb (hk.mono hs) hn
end

theorem nodup_flat {f : Nat → List Nat} : ∀ {ns : List Nat}, (ns.flatMap f).Nodup → (∀ i ∈ ns, (f i).Nodup) ∧ ns.Pairwise (fun i j => ∀ x ∈ f i, x ∉ f j)
  | [], _ => ⟨by simp, List.Pairwise.nil⟩
  | n :: ns, h => by
    rw [List.flatMap_cons] at h
    obtain ⟨h1, h2, h3⟩ := List.nodup_append.1 h
    obtain ⟨a, b⟩ := nodup_flat h2
    refine ⟨fun i hi => ?_, List.pairwise_cons.2 ⟨fun j hj x hx hx2 => h3 x hx x (List.mem_flatMap.2 ⟨j, hj, hx2⟩) rfl, b⟩⟩
    rcases List.mem_cons.1 hi with rfl | hi
    · exact h1
    · exact a i hi
theorem flat_apart {b n : Nat} {fps : Nat → List Nat} (h : (b :: (List.range n).flatMap fps).Nodup) {i : Nat} (hi : i < n) : b ∉ fps i ∧ ∀ j, j < n → j ≠ i → ∀ x ∈ fps j, x ∉ fps i := by
  obtain ⟨h1, h2⟩ := List.nodup_cons.1 h
  refine ⟨fun hx => h1 (List.mem_flatMap.2 ⟨i, by simpa using hi, hx⟩), fun j hj hne x hx hx2 => ?_⟩
  have hp := (nodup_flat h2).2
  rw [List.pairwise_iff_getElem] at hp
  rcases Nat.lt_or_gt_of_ne hne with hlt | hlt
  · have := hp j i (by simpa using hj) (by simpa using hi) hlt
    simp only [List.getElem_range] at this
    exact this x hx hx2
  · have := hp i j (by simpa using hi) (by simpa using hj) hlt
    simp only [List.getElem_range] at this
    exact this x hx2 hx

/-- The element i has turned: the row reads on, with another datum there. -/
theorem row_turned {α : Type} {S : Shape α} {w w' : World} {b off n cap : Nat} {l : List α} {fps : Nat → List Nat} (hn : l.length = n) (hc : n ≤ cap) (hm : cap ≤ maxLen) (hb : b < w.heap.size)
    (he : ∀ i, (hi : i < l.length) → ∃ es, ElemAt w b off S.m i es ∧ S.R w es l[i] (fps i)) {i : Nat} (hin : i < n) {d : α} {es' : List Value}
    (hnd : (b :: (List.range n).flatMap fps).Nodup) (hT : Turned b (off + i * S.m) (off + i * S.m + S.m) (fps i) w w')
    (hi' : ElemAt w' b off S.m i es') (hR : S.R w' es' d (fps i)) :
    (sSlice S).R w' [.slice (some ⟨b, off, none⟩) n cap] (l.set i d) (b :: (List.range n).flatMap fps) := by
  have hap := flat_apart hnd hin
  refine row_upd (w := w) hn hc hm (by omega) he (Nat.lt_of_lt_of_le hb hT.kept.size) (fun j k hj hji hk => hT.cells _ ?_) (fun j hj hji x hx => hT.kept.block x ?_ ?_) hi' hR
  · rcases Nat.lt_or_gt_of_ne hji with h | h
    · left
      have : (j + 1) * S.m ≤ i * S.m := Nat.mul_le_mul_right _ h
      rw [Nat.succ_mul] at this; omega
    · right
      have : (i + 1) * S.m ≤ j * S.m := Nat.mul_le_mul_right _ h
      rw [Nat.succ_mul] at this; omega
  · obtain ⟨es, _, h2⟩ := he j (by omega)
    exact S.lt h2 x hx
  · intro hx2
    rcases List.mem_cons.1 hx2 with rfl | hx2
    · exact (flat_apart hnd hj).1 hx
    · exact hap.2 j hj hji x hx hx2

/-- Blocks that are the call's own stay so while part of them is written. -/
theorem Own.part {w w' : World} {lo : Nat} {fp fp' : List Nat} (h : Own w lo fp) (hk : Kept fp' w w') (h' : Own w' lo fp') : Own w' lo fp :=
  ⟨h.1, fun b hb => by
    by_cases hx : b ∈ fp'
    · exact h'.2 b hx
    · obtain ⟨h1, cur, e, h2⟩ := h.2 b hb
      exact ⟨h1, cur, e, (hk.block b (Array.getElem?_eq_some_iff.1 h2).1 hx).trans h2⟩⟩
theorem Own.lower {w : World} {lo lo' : Nat} {fp : List Nat} (h : Own w lo fp) (hl : lo' ≤ lo) : Own w lo' fp := ⟨h.1, fun b hb => ⟨Nat.le_trans hl (h.2 b hb).1, (h.2 b hb).2⟩⟩
theorem Own.sub {w : World} {lo : Nat} {fp fp' : List Nat} (h : Own w lo fp) (hn : fp'.Nodup) (hs : ∀ x ∈ fp', x ∈ fp) : Own w lo fp' := ⟨hn, fun b hb => h.2 b (hs b hb)⟩
theorem flat_sub {b n : Nat} {fps : Nat → List Nat} {i : Nat} (hi : i < n) : ∀ x ∈ fps i, x ∈ (b :: (List.range n).flatMap fps) := fun x hx => by
  simp only [List.mem_cons, List.mem_flatMap, List.mem_range]; exact .inr ⟨i, hi, hx⟩
theorem flat_nodup {b n : Nat} {fps : Nat → List Nat} (h : (b :: (List.range n).flatMap fps).Nodup) {i : Nat} (hi : i < n) : (fps i).Nodup := by
  have h2 := (List.nodup_cons.1 h).2
  exact (nodup_flat h2).1 i (by simpa using hi)
theorem Turned.keptAll {b lo hi n : Nat} {fps : Nat → List Nat} {w w' : World} {i : Nat} (h : Turned b lo hi (fps i) w w') (hi' : i < n) : Kept (b :: (List.range n).flatMap fps) w w' :=
  h.kept.mono fun x hx => by
    rcases List.mem_cons.1 hx with rfl | hx
    · simp
    · exact flat_sub hi' x hx
/-- The cells of an element while they are stored one by one. -/
theorem ElemAt.set {w : World} {b off m i : Nat} {es : List Value} (h : ElemAt w b off m i es) {j : Nat} (hj : j < m) (v : Value) : ElemAt (w.setCell ⟨b, off + i * m + j, none⟩ v) b off m i (es.set j v) := by
  refine ⟨by simpa using h.1, fun x hx => ?_⟩
  by_cases e : x = j
  · subst e
    rw [List.getElem?_set_self (by have := h.1; omega)]
    obtain ⟨u, hu⟩ : ∃ u, w.cell? ⟨b, off + i * m + x, none⟩ = some u := ⟨es[x]'(by have := h.1; omega), by rw [h.2 x hx, List.getElem?_eq_getElem]⟩
    exact World.cell?_setCell_same _ _ _ hu
  · rw [List.getElem?_set_ne (fun h => e h.symm), World.cell?_setCell_other _ _ _ _ (by intro hh; simp only [Addr.mk.injEq] at hh; omega)]
    exact h.2 x hx
theorem ElemAt.set0 {w : World} {b off m i : Nat} {es : List Value} (h : ElemAt w b off m i es) (hj : 0 < m) (v : Value) : ElemAt (w.setCell ⟨b, off + i * m, none⟩ v) b off m i (es.set 0 v) := h.set (j := 0) hj v

/-- An element of a row of the call's own while it is written: what has turned since the round began, its cells, all blocks. -/
structure Wr (b off m j lo : Nat) (fpj fpA : List Nat) (wr W : World) (es : List Value) : Prop where
  t : Turned b (off + j * m) (off + j * m + m) fpj wr W
  e : ElemAt W b off m j es
  o : Own W lo fpA
  hb : b < wr.heap.size
  hA : b ∈ fpA
  hN : b ∉ fpj
section
variable {b off m j lo : Nat} {fpj fpA : List Nat} {wr W W' : World} {es : List Value}
theorem Wr.start (e : ElemAt wr b off m j es) (o : Own wr lo fpA) (hb : b < wr.heap.size) (hA : b ∈ fpA) (hN : b ∉ fpj) : Wr b off m j lo fpj fpA wr wr es := ⟨Turned.refl _ _ _ _ _, e, o, hb, hA, hN⟩
theorem Wr.set (h : Wr b off m j lo fpj fpA wr W es) (i : Nat) (hi : i < m) (v : Value) : Wr b off m j lo fpj fpA wr (W.setCell ⟨b, off + j * m + i, none⟩ v) (es.set i v) :=
  ⟨h.t.set (by omega) (by omega) v, h.e.set hi v, h.o.setCell _ _, h.hb, h.hA, h.hN⟩
theorem Wr.set0 (h : Wr b off m j lo fpj fpA wr W es) (hi : 0 < m) (v : Value) : Wr b off m j lo fpj fpA wr (W.setCell ⟨b, off + j * m, none⟩ v) (es.set 0 v) := h.set 0 hi v
theorem Wr.below (h : Wr b off m j lo fpj fpA wr W es) (hB : Below W.heap.size W W') : Wr b off m j lo fpj fpA wr W' es :=
  ⟨h.t.below h.hb hB, h.e.frame (hB.block b (Nat.lt_of_lt_of_le h.hb h.t.kept.size)), h.o.grow hB, h.hb, h.hA, h.hN⟩
theorem Wr.sub {fp' : List Nat} (h : Wr b off m j lo fpj fpA wr W es) (hk : Kept fp' W W') (ho : Own W' lo fp') (hs : ∀ x ∈ fp', x ∈ fpj) : Wr b off m j lo fpj fpA wr W' es :=
  ⟨h.t.sub' h.hb hk hs h.hN, h.e.frame (hk.block b (Nat.lt_of_lt_of_le h.hb h.t.kept.size) fun hx => h.hN (hs b hx)), h.o.part hk ho, h.hb, h.hA, h.hN⟩
theorem Wr.cell (h : Wr b off m j lo fpj fpA wr W es) (i : Nat) {v : Value} (hi : i < m) (hv : es[i]? = some v) : W.cell? ⟨b, off + j * m + i, none⟩ = some v := elem_cell h.e hi hv
theorem Wr.cell0 (h : Wr b off m j lo fpj fpA wr W es) {v : Value} (hi : 0 < m) (hv : es[0]? = some v) : W.cell? ⟨b, off + j * m, none⟩ = some v := elem_cell0 h.e hi hv
theorem Wr.frozen (h : Wr b off m j lo fpj fpA wr W es) (o : Nat) : W.frozen? ⟨b, o, none⟩ = false := h.o.frozen h.hA o
theorem Shape.setB {α : Type} (S : Shape α) {cs : List Value} {d : α} {fp : List Nat} {b : Nat} (h : S.R W cs d fp) (hn : b ∉ fp) (o : Nat) (v : Value) : S.R (W.setCell ⟨b, o, none⟩ v) cs d fp :=
  S.kept (fp := [b]) h (fun x hx he => by rw [List.mem_singleton] at he; exact hn (he ▸ hx)) ((Kept.refl _ _).setCell (p := ⟨b, o, none⟩) (by simp) v)
end

/-- Marks in a list, element by element. -/
def mkAll {α : Type} (f : Int → α → α) (c : α → Nat) : Int → List α → List α
  | _, [] => []
  | k, x :: l => f k x :: mkAll f c (k + c x) l
def cntAll {α : Type} (c : α → Nat) (l : List α) : Nat := (l.map c).sum
section
variable {α : Type} {f : Int → α → α} {c : α → Nat}
theorem mkAll_len : ∀ (k : Int) (l : List α), (mkAll f c k l).length = l.length
  | _, [] => rfl
  | k, x :: l => by simp [mkAll, mkAll_len (k + c x) l]
theorem cntAll_take {l : List α} {j : Nat} (h : j < l.length) : cntAll c (l.take (j + 1)) = cntAll c (l.take j) + c l[j] := by
  unfold cntAll
  rw [List.take_succ_eq_append_getElem h, List.map_append, List.sum_append]; simp
theorem cntAll_le (l : List α) (j : Nat) : cntAll c (l.take j) ≤ cntAll c l := by
  have := congrArg (cntAll c) (List.take_append_drop j l)
  unfold cntAll at *
  rw [List.map_append, List.sum_append] at this
  omega
theorem mkAll_get : ∀ {l : List α} (k : Int) (j : Nat) (h : j < l.length), (mkAll f c k l)[j]'(by rw [mkAll_len]; exact h) = f (k + cntAll c (l.take j)) l[j]
  | [], _, _, h => by simp at h
  | x :: l, k, 0, _ => by simp [mkAll, cntAll]
  | x :: l, k, j + 1, h => by
    have ih := mkAll_get (l := l) (k + c x) j (by simpa using h)
    have e : k + (c x : Int) + (cntAll c (l.take j) : Int) = k + (cntAll c ((x :: l).take (j + 1)) : Int) := by
      simp only [cntAll, List.take_succ_cons, List.map_cons, List.sum_cons]; omega
    rw [e] at ih
    exact ih
/-- The first j elements are marked, the others are as they were. -/
def MkUpto (f : Int → α → α) (c : α → Nat) (k : Int) (l : List α) (j : Nat) (L : List α) : Prop :=
  L.length = l.length ∧ ∀ i, (h : i < L.length) → (h' : i < l.length) → L[i] = if i < j then f (k + cntAll c (l.take i)) l[i] else l[i]
theorem MkUpto.zero (k : Int) (l : List α) : MkUpto f c k l 0 l := ⟨rfl, fun i h h' => by rw [if_neg (by omega)]⟩
theorem MkUpto.len {k : Int} {l L : List α} {j : Nat} (h : MkUpto f c k l j L) : L.length = l.length := h.1
theorem MkUpto.at {k : Int} {l L : List α} {j : Nat} (h : MkUpto f c k l j L) (hj : j < l.length) : L[j]'(by rw [h.1]; exact hj) = l[j] := by
  rw [h.2 j (by rw [h.1]; exact hj) hj, if_neg (by omega)]
theorem MkUpto.succ {k : Int} {l L : List α} {j : Nat} (h : MkUpto f c k l j L) (hj : j < l.length) : MkUpto f c k l (j + 1) (L.set j (f (k + cntAll c (l.take j)) l[j])) := by
  refine ⟨by rw [List.length_set]; exact h.1, fun i h1 h2 => ?_⟩
  by_cases e : i = j
  · subst e; rw [List.getElem_set_self, if_pos (by omega)]
  · rw [List.getElem_set_ne (fun h => e h.symm), h.2 i (by simpa using h1) h2]
    by_cases hlt : i < j
    · rw [if_pos hlt, if_pos (by omega)]
    · rw [if_neg hlt, if_neg (by omega)]
theorem MkUpto.done {k : Int} {l L : List α} {j : Nat} (h : MkUpto f c k l j L) (hj : l.length ≤ j) : L = mkAll f c k l := by
  refine List.ext_getElem (by rw [mkAll_len, h.1]) fun i h1 h2 => ?_
  have hl : i < l.length := by rw [← h.1]; exact h1
  rw [h.2 i h1 hl, if_pos (by omega), mkAll_get k i hl]
end

end Go.Proofs.Ytigbaeokccknaaa
