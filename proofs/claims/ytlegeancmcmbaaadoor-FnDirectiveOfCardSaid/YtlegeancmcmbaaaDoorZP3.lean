/- Texts that the proof of P stands on, in one file. -/
import Derived.Test.YtlegeancmcmbaaaDoorZP1
import Derived.Test.YtlegeancmcmbaaaDoorZP2
import Derived.Lib.AppendStr
import Derived.Laws.IdiomStrings
import Derived.Lib.Index
import Derived.Lib.Strings
import Derived.Laws.Cover1
set_option linter.unusedVariables false
set_option linter.unusedSimpArgs false
/- Rows of structs: elements of several cells. Over any program. -/
namespace Go.Proofs.YtlegeancmcmbaaaDoor
open Go.RowKit

theorem wp_append_cells {P : Program} {t e : TypeId} {z : Value} {size bytes : Nat} (ti : TI P t e z size bytes) (hzs : z.cells.size = size) (h0 : 0 < size) (w0 : World) (xs : List Value) (x : List Value) (hxl : x.length = size) (hx1 : ∀ u ∈ x, u.oneCell' = true) {ops : Array Oper} {rest : List Oper} {o : Oper} {a : Act} {Q : Exit → Act → World → Prop}
  (hg : o.guard = none) (s y : Operand) (ho : o.op = .call { callee := .builtin .append, args := #[s, y], argTypes := #[t, t] })
  (base : Nat) (v : Value) (n : Nat) (hs : a.eval s = v) (hown : w0.ownsRow base e size v n xs)
  (hy : a.eval y = .slice (some ⟨w0.heap.size, 0, none⟩) 1 1)
  (h63 : n + 1 ≤ maxLen) (hbytes : (n + 1) * bytes ≤ 140737488355328) (hbase : base ≤ w0.heap.size)
  (h : ∀ v' w', w'.ownsRow base e size v' (n + 1) (xs ++ x) → w0.grownBy w' v.ownBlock → wpList P ops Q rest (a.put o.dst v') w') : wpList P ops Q (o :: rest) a (w0.alloc (.cells x.toArray e)) := by
 obtain ⟨i, hi, hz0, hz1, hz2⟩ := info_parts ti.2
 refine wpList_append_own _ hg s y t ho base e i z size bytes ti.1 hi hz0 hz1 hz2 hzs h0 v n xs hs (hown.alloc _) ⟨w0.heap.size, 0, none⟩ 1 1 x hy (by omega) ?_ hx1 h63 hbytes (by simp; omega) fun v' w' a b _ => h v' w' a (grown_trans (World.grownBy_alloc _ _ _) b)
 intro j u hj
 rw [addr_add, Nat.zero_add]
 rw [World.cell?_alloc_at _ _ _ _ rfl]
 simpa using hj

theorem flatMap_at {α : Type} {f : α → List Value} {m : Nat} : ∀ {L : List α} (_ : ∀ x ∈ L, (f x).length = m) {i : Nat} (hi : i < L.length) {j : Nat} (_ : j < m), (L.flatMap f)[i * m + j]? = (f L[i])[j]?
 | [], _, i, hi, _, _ => by simp at hi
 |
  x :: L, hL, 0, _, j, hj => by
  rw [List.flatMap_cons, List.getElem?_append_left (by rw [hL x (by simp)]; omega)]
  simp
 |
  x :: L, hL, i + 1, hi, j, hj => by
  have hx := hL x (by simp)
  have e : (i + 1) * m + j = m + (i * m + j) := by rw [Nat.succ_mul]; omega
  rw [List.flatMap_cons, List.getElem?_append_right (by rw [hx, e]; omega), hx, e, Nat.add_sub_cancel_left]
  exact flatMap_at (fun y hy => hL y (by simp [hy])) (by simpa using hi) hj
theorem flatMap_len {α : Type} {f : α → List Value} {m : Nat} : ∀ {L : List α}, (∀ x ∈ L, (f x).length = m) → (L.flatMap f).length = L.length * m
 | [], _ => by simp
 | x :: L, hL => by rw [List.flatMap_cons, List.length_append, hL x (by simp), flatMap_len (fun y hy => hL y (by simp [hy])), List.length_cons, Nat.succ_mul, Nat.add_comm]

structure Elem (α : Type) where
 cells : List Value
 d : α
 fp : List Nat

theorem flat_range {L : List (List Nat)} : (List.range L.length).flatMap (fun i => L.getD i []) = L.flatten := by
 have : (List.range L.length).map (fun i => L.getD i []) = L := by
  apply List.ext_getElem (by simp)
  intro i h1 h2
  simp [List.getD_eq_getElem?_getD, List.getElem?_eq_getElem h2]
 rw [List.flatMap_def, this]

theorem slice_of_row {α : Type} {S : Shape α} {w : World} {base e : Nat} {v : Value} {L : List (Elem α)} (h : w.ownsRow base e S.m v L.length (L.flatMap (·.cells))) (hR : ∀ x ∈ L, x.cells.length = S.m ∧ S.R w x.cells x.d x.fp) :
  ∃ fp, (sSlice S).R w [v] (L.map (·.d)) fp ∧ (∀ b ∈ fp, v.ownBlock = some b ∨ b ∈ L.flatMap (·.fp)) ∧
   (Own w base (L.flatMap (·.fp)) → (∀ g, v.ownBlock = some g → g ∉ L.flatMap (·.fp)) → Own w base fp) := by
 by_cases h0 : L = []
 ·subst h0
  rcases h.2 with ⟨rfl, _⟩ | ⟨g, cap, cur, rfl, hb, hg, hnc, hcm, hcs, htake⟩
  ·exact ⟨[], ⟨none, 0, rfl, by simp, by simp, .inl ⟨rfl, rfl⟩⟩, by simp, fun _ _ => Own.nil _ _⟩
  ·exact ⟨[], ⟨_, cap, rfl, by simp, hcm, .inl ⟨rfl, rfl⟩⟩, by simp, fun _ _ => Own.nil _ _⟩
 ·have hpos : 0 < L.length := List.length_pos_iff.2 h0
  rcases h.2 with ⟨_, h1⟩ | ⟨g, cap, cur, rfl, hb, hg, hnc, hcm, hcs, htake⟩
  ·omega
  ·have hlt : g < w.heap.size := (Array.getElem?_eq_some_iff.1 hg).1
   have e1 : (List.range L.length).flatMap (fun i => (L.map (·.fp)).getD i []) = L.flatMap (·.fp) := by
    have := flat_range (L := L.map (·.fp))
    rw [List.length_map] at this
    rw [this, List.flatMap_def]
   refine ⟨g :: L.flatMap (·.fp), ⟨_, cap, by simp, by simpa using hnc, hcm, .inr ⟨by simpa using hpos, g, 0, fun i => (L.map (·.fp)).getD i [], rfl, by rw [List.length_map, e1], hlt, fun i hi => ?_⟩⟩, ?_, ?_⟩
   ·have hi' : i < L.length := by simpa using hi
    have hx := hR L[i] (List.getElem_mem hi')
    refine ⟨L[i].cells, ⟨hx.1, fun j hj => ?_⟩, ?_⟩
    ·rw [Nat.zero_add, h.cellAt (i * S.m + j) (by have : (i + 1) * S.m ≤ L.length * S.m := Nat.mul_le_mul_right _ hi'; rw [Nat.succ_mul] at this; omega)]
     exact flatMap_at (f := Elem.cells) (fun x hx => (hR x hx).1) hi' hj
    ·have e2 : (L.map (·.fp)).getD i [] = L[i].fp := by simp [List.getD_eq_getElem?_getD, List.getElem?_eq_getElem hi']
     show S.R w L[i].cells (L.map (·.d))[i] ((L.map (·.fp)).getD i [])
     rw [e2]
     simpa using hx.2
   ·intro b hb'
    rcases List.mem_cons.1 hb' with rfl | hb'
    ·exact .inl rfl
    ·exact .inr hb'
   ·intro ho hn
    exact ⟨List.nodup_cons.2 ⟨hn g rfl, ho.1⟩, fun b hb' => by
     rcases List.mem_cons.1 hb' with rfl | hb'
     ·exact ⟨hb, cur, e, hg⟩
     ·exact ho.2 b hb'⟩

theorem open_rows {α : Type} {S : Shape α} {w : World} {v : Value} {l : List α} {fp : List Nat} (H : (sSlice S).R w [v] l fp) :
  ∃ a cap, v = .slice a l.length cap ∧ l.length ≤ cap ∧ cap ≤ maxLen ∧ (0 < l.length → ∃ b off fps, a = some ⟨b, off, none⟩ ∧ b < w.heap.size ∧ fp = b :: (List.range l.length).flatMap fps ∧ ∀ i, (hi : i < l.length) → ∃ es, ElemAt w b off S.m i es ∧ S.R w es l[i] (fps i)) := by
 obtain ⟨a, cap, hv, hc, hm, h⟩ := H
 refine ⟨a, cap, by simpa using hv, hc, hm, fun h0 => ?_⟩
 rcases h with ⟨rfl, _⟩ | ⟨_, b, off, fps, rfl, rfl, hb, he⟩
 ·simp at h0
 ·exact ⟨b, off, fps, rfl, hb, rfl, he⟩

end Go.Proofs.YtlegeancmcmbaaaDoor

/- Rows of structs, element by element: what turns while one element is written. Over any program. -/
namespace Go.Proofs.YtlegeancmcmbaaaDoor
open Go.RowKit

theorem alloc_below' (w : World) (o : Obj) : Below w.heap.size w (w.alloc o) := (Below.refl _ _).alloc (Nat.le_refl _) _
theorem elem_cell {w : World} {b off m i j : Nat} {es : List Value} {v : Value} (h : ElemAt w b off m i es) (hj : j < m) (hv : es[j]? = some v) : w.cell? ⟨b, off + i * m + j, none⟩ = some v := (h.2 j hj).trans hv
theorem elem_cell0 {w : World} {b off m i : Nat} {es : List Value} {v : Value} (h : ElemAt w b off m i es) (hj : 0 < m) (hv : es[0]? = some v) : w.cell? ⟨b, off + i * m, none⟩ = some v := (h.2 0 hj).trans hv

theorem blk_set {w : World} {g : Nat} {cs : Array Value} {t : TypeId} {fr : Nat × Nat} (h : w.heap[g]? = some (.cells cs t fr)) (j : Nat) (v : Value) : (w.setCell ⟨g, j, none⟩ v).heap[g]? = some (.cells (cs.setIfInBounds j v) t fr) := by
 simp [World.setCell, Array.getElem?_modify, h]
theorem blk_other {w : World} {g g' : Nat} {o : Obj} (h : w.heap[g]? = some o) (hn : g ≠ g') (j : Nat) (v : Value) : (w.setCell ⟨g', j, none⟩ v).heap[g]? = some o :=
 (Below.heap_setCell _ _ _ _ hn).trans h

def allocs (w : World) (os : List Obj) : World := os.foldl World.alloc w
theorem allocs_list (os : List Obj) : ∀ w : World, (allocs w os).heap.toList = w.heap.toList ++ os := by
 induction os with
 | nil => intro w; simp [allocs]
 |
  cons o os ih =>
  intro w
  show (allocs (w.alloc o) os).heap.toList = _
  rw [ih]
  show (w.heap.push o).toList ++ os = _
  simp
theorem allocs_size (w : World) (os : List Obj) : (allocs w os).heap.size = w.heap.size + os.length := by
 have := congrArg List.length (allocs_list os w)
 simpa using this
theorem allocs_blk (w : World) (os : List Obj) (j : Nat) (hj : j < os.length) : (allocs w os).heap[w.heap.size + j]? = some os[j] := by
 rw [← Array.getElem?_toList, allocs_list, List.getElem?_append_right (by simp)]
 simp [List.getElem?_eq_getElem hj]
theorem allocs_below {B : Nat} {w0 : World} (os : List Obj) : ∀ w : World, Below B w0 w → B ≤ w.heap.size → Below B w0 (allocs w os) := by
 induction os with
 | nil => intro w h _; exact h
 |
  cons o os ih =>
  intro w h hs
  exact ih (w.alloc o) (h.alloc hs o) (by show B ≤ (w.heap.push o).size; simp; omega)

theorem alloc3_blk (w : World) (c0 c1 c2 : Array Value) (t0 t1 t2 : TypeId) :
  (((w.alloc (.cells c0 t0)).alloc (.cells c1 t1)).alloc (.cells c2 t2)).heap[w.heap.size + 1]? = some (.cells c1 t1 (0, 0)) ∧
  (((w.alloc (.cells c0 t0)).alloc (.cells c1 t1)).alloc (.cells c2 t2)).heap[w.heap.size + 1 + 1]? = some (.cells c2 t2 (0, 0)) ∧
  (((w.alloc (.cells c0 t0)).alloc (.cells c1 t1)).alloc (.cells c2 t2)).heap.size = w.heap.size + 1 + 1 + 1 := by
 refine ⟨?_, ?_, ?_⟩
 ·show (((w.heap.push _).push _).push _)[_]? = _
  rw [Array.getElem?_push, if_neg (by simp), Array.getElem?_push, if_pos (by simp)]
 ·show (((w.heap.push _).push _).push _)[_]? = _
  rw [Array.getElem?_push, if_pos (by simp)]
 ·show (((w.heap.push _).push _).push _).size = _
  simp
theorem below3 (w : World) (c0 c1 c2 : Array Value) (t0 t1 t2 : TypeId) : Below w.heap.size w (((w.alloc (.cells c0 t0)).alloc (.cells c1 t1)).alloc (.cells c2 t2)) :=
 (((Below.refl _ _).alloc (Nat.le_refl _) _).alloc (by simp) _).alloc (by simp; omega) _

structure Turned (b lo hi : Nat) (fp : List Nat) (w w' : World) : Prop where
 kept : Kept (b :: fp) w w'
 cells : ∀ o, (o < lo ∨ hi ≤ o) → w'.cell? ⟨b, o, none⟩ = w.cell? ⟨b, o, none⟩
section
variable {b lo hi : Nat} {fp : List Nat} {w w1 w2 : World}
theorem Turned.refl (b lo hi : Nat) (fp : List Nat) (w : World) : Turned b lo hi fp w w := ⟨Kept.refl _ _, fun _ _ => rfl⟩
theorem Turned.set (h : Turned b lo hi fp w w1) {o : Nat} (h1 : lo ≤ o) (h2 : o < hi) (v : Value) : Turned b lo hi fp w (w1.setCell ⟨b, o, none⟩ v) :=
 ⟨h.kept.setCell (p := ⟨b, o, none⟩) (by simp) v, fun o' ho => by
  rw [World.cell?_setCell_other _ _ _ _ (by intro hh; simp only [Addr.mk.injEq] at hh; omega)]
  exact h.cells o' ho⟩
theorem Turned.below (h : Turned b lo hi fp w w1) (hb : b < w.heap.size) (hB : Below w1.heap.size w1 w2) : Turned b lo hi fp w w2 :=
 ⟨h.kept.trans (Kept.of_below hB), fun o ho => (hB.cell (p := ⟨b, o, none⟩) (Nat.lt_of_lt_of_le hb h.kept.size)).trans (h.cells o ho)⟩
end
theorem Own.lower {w : World} {lo lo' : Nat} {fp : List Nat} (h : Own w lo fp) (hl : lo' ≤ lo) : Own w lo' fp := ⟨h.1, fun b hb => ⟨Nat.le_trans hl (h.2 b hb).1, (h.2 b hb).2⟩⟩
theorem ElemAt.set {w : World} {b off m i : Nat} {es : List Value} (h : ElemAt w b off m i es) {j : Nat} (hj : j < m) (v : Value) : ElemAt (w.setCell ⟨b, off + i * m + j, none⟩ v) b off m i (es.set j v) := by
 refine ⟨by simpa using h.1, fun x hx => ?_⟩
 by_cases e : x = j
 ·subst e
  rw [List.getElem?_set_self (by have := h.1; omega)]
  obtain ⟨u, hu⟩ : ∃ u, w.cell? ⟨b, off + i * m + x, none⟩ = some u := ⟨es[x]'(by have := h.1; omega), by rw [h.2 x hx, List.getElem?_eq_getElem]⟩
  exact World.cell?_setCell_same _ _ _ hu
 ·rw [List.getElem?_set_ne (fun h => e h.symm), World.cell?_setCell_other _ _ _ _ (by intro hh; simp only [Addr.mk.injEq] at hh; omega)]
  exact h.2 x hx
structure Wr (b off m j lo : Nat) (fpj fpA : List Nat) (wr W : World) (es : List Value) : Prop where
 t : Turned b (off + j * m) (off + j * m + m) fpj wr W
 e : ElemAt W b off m j es
 o : Own W lo fpA
 hb : b < wr.heap.size
 hA : b ∈ fpA
 hN : b ∉ fpj
section
variable {b off m j lo : Nat} {fpj fpA : List Nat} {wr W W' : World} {es : List Value}
theorem Wr.set (h : Wr b off m j lo fpj fpA wr W es) (i : Nat) (hi : i < m) (v : Value) : Wr b off m j lo fpj fpA wr (W.setCell ⟨b, off + j * m + i, none⟩ v) (es.set i v) :=
 ⟨h.t.set (by omega) (by omega) v, h.e.set hi v, h.o.setCell _ _, h.hb, h.hA, h.hN⟩
theorem Wr.below (h : Wr b off m j lo fpj fpA wr W es) (hB : Below W.heap.size W W') : Wr b off m j lo fpj fpA wr W' es :=
 ⟨h.t.below h.hb hB, h.e.frame (hB.block b (Nat.lt_of_lt_of_le h.hb h.t.kept.size)), h.o.grow hB, h.hb, h.hA, h.hN⟩
theorem Wr.cell (h : Wr b off m j lo fpj fpA wr W es) (i : Nat) {v : Value} (hi : i < m) (hv : es[i]? = some v) : W.cell? ⟨b, off + j * m + i, none⟩ = some v := elem_cell h.e hi hv
theorem Wr.frozen (h : Wr b off m j lo fpj fpA wr W es) (o : Nat) : W.frozen? ⟨b, o, none⟩ = false := h.o.frozen h.hA o
theorem Shape.setB {α : Type} (S : Shape α) {cs : List Value} {d : α} {fp : List Nat} {b : Nat} (h : S.R W cs d fp) (hn : b ∉ fp) (o : Nat) (v : Value) : S.R (W.setCell ⟨b, o, none⟩ v) cs d fp :=
 S.kept (fp := [b]) h (fun x hx he => by rw [List.mem_singleton] at he; exact hn (he ▸ hx)) ((Kept.refl _ _).setCell (p := ⟨b, o, none⟩) (by simp) v)
end

def mkAll {α : Type} (f : Int → α → α) (c : α → Nat) : Int → List α → List α
 | _, [] => []
 | k, x :: l => f k x :: mkAll f c (k + c x) l
def cntAll {α : Type} (c : α → Nat) (l : List α) : Nat := (l.map c).sum
section
variable {α : Type} {f : Int → α → α} {c : α → Nat}
theorem mkAll_len : ∀ (k : Int) (l : List α), (mkAll f c k l).length = l.length
 | _, [] => rfl
 | k, x :: l => by simp [mkAll, mkAll_len (k + c x) l]
theorem mkAll_get : ∀ {l : List α} (k : Int) (j : Nat) (h : j < l.length), (mkAll f c k l)[j]'(by rw [mkAll_len]; exact h) = f (k + cntAll c (l.take j)) l[j]
 | [], _, _, h => by simp at h
 | x :: l, k, 0, _ => by simp [mkAll, cntAll]
 |
  x :: l, k, j + 1, h => by
  have ih := mkAll_get (l := l) (k + c x) j (by simpa using h)
  have e : k + (c x : Int) + (cntAll c (l.take j) : Int) = k + (cntAll c ((x :: l).take (j + 1)) : Int) := by
   simp only [cntAll, List.take_succ_cons, List.map_cons, List.sum_cons]; omega
  rw [e] at ih
  exact ih
def MkUpto (f : Int → α → α) (c : α → Nat) (k : Int) (l : List α) (j : Nat) (L : List α) : Prop :=
 L.length = l.length ∧ ∀ i, (h : i < L.length) → (h' : i < l.length) → L[i] = if i < j then f (k + cntAll c (l.take i)) l[i] else l[i]
theorem MkUpto.len {k : Int} {l L : List α} {j : Nat} (h : MkUpto f c k l j L) : L.length = l.length := h.1
theorem MkUpto.at {k : Int} {l L : List α} {j : Nat} (h : MkUpto f c k l j L) (hj : j < l.length) : L[j]'(by rw [h.1]; exact hj) = l[j] := by
 rw [h.2 j (by rw [h.1]; exact hj) hj, if_neg (by omega)]
theorem MkUpto.done {k : Int} {l L : List α} {j : Nat} (h : MkUpto f c k l j L) (hj : l.length ≤ j) : L = mkAll f c k l := by
 refine List.ext_getElem (by rw [mkAll_len, h.1]) fun i h1 h2 => ?_
 have hl : i < l.length := by rw [← h.1]; exact h1
 rw [h.2 i h1 hl, if_pos (by omega), mkAll_get k i hl]
end

end Go.Proofs.YtlegeancmcmbaaaDoor

/- Rows of the call's own whose elements have memory behind them. Over any program. -/
namespace Go.Proofs.YtlegeancmcmbaaaDoor
open Go.RowKit

structure RowE {α : Type} (S : Shape α) (base : Nat) (e : TypeId) (v : Value) (L : List (Elem α)) (w : World) : Prop where
 row : w.ownsRow base e S.m v L.length (L.flatMap (·.cells))
 len : ∀ x ∈ L, x.cells.length = S.m
 el : ∀ x ∈ L, S.R w x.cells x.d x.fp
 lo : ∀ x ∈ L, ∀ b ∈ x.fp, base ≤ b
 ty : ∀ x ∈ L, ∀ b ∈ x.fp, ∃ cur t fr, w.heap[b]? = some (.cells cur t fr) ∧ t ≠ e

section
variable {α : Type} {S : Shape α} {base : Nat} {e : TypeId} {v v' : Value} {L : List (Elem α)} {w w' : World}
theorem ownsRow_same {n : Nat} {xs : List Value} {m : Nat} (h : w.ownsRow base e m v n xs) (hb : ∀ g, v.ownBlock = some g → w'.heap[g]? = w.heap[g]?) : w'.ownsRow base e m v n xs := by
 refine ⟨h.1, ?_⟩
 rcases h.2 with h0 | ⟨g, cap, cur, h1, h2, h3, h4⟩
 ·exact .inl h0
 ·exact .inr ⟨g, cap, cur, h1, h2, (hb g (by rw [h1]; rfl)).trans h3, h4⟩
theorem RowE.same (h : RowE S base e v L w) (hb : ∀ b, b < w.heap.size → base ≤ b → w'.heap[b]? = w.heap[b]?) : RowE S base e v L w' where
 row := ownsRow_same h.row fun g hg => by
  have := h.row.lt g hg
  exact hb g this.2 this.1
 len := h.len
 el := fun x hx => S.frame (fun b hb' => hb b (S.lt (h.el x hx) b hb') (h.lo x hx b hb')) (h.el x hx)
 lo := h.lo
 ty := fun x hx b hb' => by
  obtain ⟨cur, t, fr, h1, h2⟩ := h.ty x hx b hb'
  exact ⟨cur, t, fr, (hb b (S.lt (h.el x hx) b hb') (h.lo x hx b hb')).trans h1, h2⟩
theorem RowE.below (h : RowE S base e v L w) (hb : Below w.heap.size w w') : RowE S base e v L w' := h.same fun b hb' _ => hb.block b hb'
theorem RowE.keptR {rb : Nat} (h : RowE S base e v L w) (hk : Kept [rb] w w') (hr : rb < base) : RowE S base e v L w' := h.same fun b hb hl => hk.block b hb (by simp; omega)
theorem RowE.lower {base' : Nat} (h : RowE S base e v L w) (hl : base' ≤ base) : RowE S base' e v L w where
 row := ⟨h.row.1, by
  rcases h.row.2 with h0 | ⟨g, cap, cur, h1, h2, h3⟩
  ·exact .inl h0
  ·exact .inr ⟨g, cap, cur, h1, Nat.le_trans hl h2, h3⟩⟩
 len := h.len
 el := h.el
 lo := fun x hx b hb => Nat.le_trans hl (h.lo x hx b hb)
 ty := h.ty
theorem RowE.nil (S : Shape α) (base : Nat) (e : TypeId) (w : World) : RowE S base e (.slice none 0 0) [] w := ⟨World.ownsRow_nil _ _ _ _, by simp, by simp, by simp, by simp⟩
theorem RowE.val (h : RowE S base e v L w) : ∃ a cap, v = .slice a L.length cap ∧ L.length ≤ cap ∧ cap ≤ maxLen ∧ (0 < L.length → ∃ g, a = some ⟨g, 0, none⟩ ∧ base ≤ g ∧ g < w.heap.size) := by
 rcases h.row.2 with ⟨rfl, h0⟩ | ⟨g, cap, cur, rfl, hb, hg, hn, hc, _⟩
 ·exact ⟨none, 0, by rw [h0], by omega, by simp, fun h => by omega⟩
 ·exact ⟨_, cap, rfl, hn, hc, fun _ => ⟨g, rfl, hb, (Array.getElem?_eq_some_iff.1 hg).1⟩⟩
theorem RowE.mine (h : RowE S base e v L w) : ∀ b, v.ownBlock = some b → base ≤ b := fun b hb => (h.row.lt b hb).1
theorem RowE.slice (h : RowE S base e v L w) : ∃ fp, (sSlice S).R w [v] (L.map (·.d)) fp := by
 obtain ⟨fp, h1, _⟩ := slice_of_row h.row fun x hx => ⟨h.len x hx, h.el x hx⟩
 exact ⟨fp, h1⟩
theorem RowE.ap (h : RowE S base e v L w) {x : Elem α} (hx : x ∈ L) {b : Nat} (hb : b ∈ x.fp) : v.ownBlock ≠ some b := by
 intro hv
 obtain ⟨cur, t, fr, h1, h2⟩ := h.ty x hx b hb
 rcases h.row.2 with ⟨rfl, _⟩ | ⟨g, cap, cur', rfl, _, hg, _⟩
 ·simp [Value.ownBlock] at hv
 ·simp only [Value.ownBlock, Option.some.injEq] at hv
  subst hv
  rw [h1] at hg
  simp only [Option.some.injEq, Obj.cells.injEq] at hg
  exact h2 hg.2.1
theorem RowE.frozen {g n cap : Nat} (h : RowE S base e (.slice (some ⟨g, 0, none⟩) n cap) L w) (o : Nat) : w.frozen? ⟨g, o, none⟩ = false := by
 rcases h.row.2 with ⟨h', _⟩ | ⟨g', cap', cur, h', _, hg, _⟩
 ·cases h'
 ·simp only [Value.slice.injEq, Option.some.injEq, Addr.mk.injEq, and_true] at h'
  obtain ⟨rfl, _⟩ := h'
  exact frozen_of_row w g o cur e hg
theorem RowE.cellAt {g n cap : Nat} (h : RowE S base e (.slice (some ⟨g, 0, none⟩) n cap) L w) {k : Nat} (hk : k < L.length) {j : Nat} (hj : j < S.m) {u : Value} (hu : L[k].cells[j]? = some u) : w.cell? ⟨g, k * S.m + j, none⟩ = some u := by
 have hn : L.length = n := by
  rcases h.row.2 with ⟨h', _⟩ | ⟨g', cap', cur, h', _⟩
  ·cases h'
  ·simp only [Value.slice.injEq] at h'; exact h'.2.1.symm
 subst hn
 rw [h.row.cellAt (k * S.m + j) (by have : (k + 1) * S.m ≤ L.length * S.m := Nat.mul_le_mul_right _ hk; rw [Nat.succ_mul] at this; omega)]
 exact (flatMap_at (f := Elem.cells) h.len hk hj).trans hu
theorem flatMap_set {f : Elem α → List Value} {m : Nat} : ∀ {L : List (Elem α)} (_ : ∀ x ∈ L, (f x).length = m) {k : Nat} (hk : k < L.length) {j : Nat} (_ : j < m) (u : Value) (x' : Elem α) (_ : f x' = (f L[k]).set j u), (L.flatMap f).set (k * m + j) u = (L.set k x').flatMap f
 | [], _, k, hk, _, _, _, _, _ => by simp at hk
 |
  x :: L, hL, 0, _, j, hj, u, x', hx => by
  simp only [List.flatMap_cons, List.set_cons_zero, Nat.zero_mul, Nat.zero_add]
  rw [List.set_append_left _ _ (by rw [hL x (by simp)]; exact hj), hx]; rfl
 |
  x :: L, hL, k + 1, hk, j, hj, u, x', hx => by
  have hl := hL x (by simp)
  have e : (k + 1) * m + j = m + (k * m + j) := by rw [Nat.succ_mul]; omega
  simp only [List.flatMap_cons, List.set_cons_succ]
  rw [List.set_append_right _ _ (by rw [hl, e]; omega), hl, e, Nat.add_sub_cancel_left]
  rw [flatMap_set (fun y hy => hL y (by simp [hy])) (by simpa using hk) hj u x' (by simpa using hx)]
theorem RowE.set {g n cap : Nat} (h : RowE S base e (.slice (some ⟨g, 0, none⟩) n cap) L w) {k : Nat} (hk : k < L.length) {j : Nat} (hj : j < S.m) (u : Value) (x' : Elem α) (hx : x'.cells = L[k].cells.set j u)
  (hR : S.R w x'.cells x'.d x'.fp) (hlo : ∀ b ∈ x'.fp, base ≤ b) (hty : ∀ b ∈ x'.fp, ∃ cur t fr, w.heap[b]? = some (.cells cur t fr) ∧ t ≠ e) :
  RowE S base e (.slice (some ⟨g, 0, none⟩) n cap) (L.set k x') (w.setCell ⟨g, k * S.m + j, none⟩ u) := by
 have hne : ∀ b : Nat, (∃ cur t fr, w.heap[b]? = some (.cells cur t fr) ∧ t ≠ e) → b ≠ g := by
  rintro b ⟨cur, t, fr, h1, h2⟩ rfl
  rcases h.row.2 with ⟨h', _⟩ | ⟨g', cap', cur', h', _, hg, _⟩
  ·cases h'
  ·simp only [Value.slice.injEq, Option.some.injEq, Addr.mk.injEq, and_true] at h'
   obtain ⟨rfl, _⟩ := h'
   rw [h1] at hg
   simp only [Option.some.injEq, Obj.cells.injEq] at hg
   exact h2 hg.2.1
 have hblk : ∀ b : Nat, b ≠ g → (w.setCell ⟨g, k * S.m + j, none⟩ u).heap[b]? = w.heap[b]? := fun b hb => Below.heap_setCell _ _ _ _ hb
 have hmem : ∀ x ∈ L.set k x', x = x' ∨ x ∈ L := fun x hx => by
  rcases List.mem_or_eq_of_mem_set hx with h | h
  ·exact .inr h
  ·exact .inl h
 refine ⟨?_, fun x hx' => ?_, fun x hx' => ?_, fun x hx' => ?_, fun x hx' => ?_⟩
 ·have hn : L.length = n := by
   rcases h.row.2 with ⟨h', _⟩ | ⟨g', cap', cur, h', _⟩
   ·cases h'
   ·simp only [Value.slice.injEq] at h'; exact h'.2.1.symm
  have hrow := h.row
  rw [hn] at hrow
  have := (hrow.stored (k * S.m + j) u).1
  rw [flatMap_set h.len hk hj u x' hx] at this
  rw [List.length_set, hn]
  exact this
 ·rcases hmem x hx' with rfl | hx'
  ·rw [hx, List.length_set]; exact h.len _ (List.getElem_mem hk)
  ·exact h.len x hx'
 ·rcases hmem x hx' with rfl | hx'
  ·exact S.frame (fun b hb => hblk b (hne b (hty b hb))) hR
  ·exact S.frame (fun b hb => hblk b (hne b (h.ty x hx' b hb))) (h.el x hx')
 ·rcases hmem x hx' with rfl | hx'
  ·exact hlo
  ·exact h.lo x hx'
 ·intro b hb
  rcases hmem x hx' with rfl | hx'
  ·obtain ⟨cur, t, fr, h1, h2⟩ := hty b hb
   exact ⟨cur, t, fr, (hblk b (hne b ⟨cur, t, fr, h1, h2⟩)).trans h1, h2⟩
  ·obtain ⟨cur, t, fr, h1, h2⟩ := h.ty x hx' b hb
   exact ⟨cur, t, fr, (hblk b (hne b ⟨cur, t, fr, h1, h2⟩)).trans h1, h2⟩
theorem RowE.appended (h : RowE S base e v L w) {X : List (Elem α)} (hrow : w'.ownsRow base e S.m v' (L ++ X).length ((L ++ X).flatMap (·.cells))) (hg : w.grownBy w' v.ownBlock)
  (hlen : ∀ x ∈ X, x.cells.length = S.m) (hR : ∀ x ∈ X, S.R w x.cells x.d x.fp) (hlo : ∀ x ∈ X, ∀ b ∈ x.fp, base ≤ b) (hty : ∀ x ∈ X, ∀ b ∈ x.fp, ∃ cur t fr, w.heap[b]? = some (.cells cur t fr) ∧ t ≠ e) :
  RowE S base e v' (L ++ X) w' := by
 have hne : ∀ b : Nat, (∃ cur t fr, w.heap[b]? = some (.cells cur t fr) ∧ t ≠ e) → w'.heap[b]? = w.heap[b]? := by
  rintro b ⟨cur, t, fr, h1, h2⟩
  refine hg.block b (Array.getElem?_eq_some_iff.1 h1).1 fun hv => ?_
  rcases h.row.2 with ⟨rfl, _⟩ | ⟨g', cap', cur', rfl, _, hg', _⟩
  ·simp [Value.ownBlock] at hv
  ·simp only [Value.ownBlock, Option.some.injEq] at hv
   subst hv
   rw [h1] at hg'
   simp only [Option.some.injEq, Obj.cells.injEq] at hg'
   exact h2 hg'.2.1
 refine ⟨hrow, fun x hx => ?_, fun x hx => ?_, fun x hx => ?_, fun x hx b hb => ?_⟩ <;> rcases List.mem_append.1 hx with hx | hx
 ·exact h.len x hx
 ·exact hlen x hx
 ·exact S.frame (fun b hb => hne b (h.ty x hx b hb)) (h.el x hx)
 ·exact S.frame (fun b hb => hne b (hty x hx b hb)) (hR x hx)
 ·exact h.lo x hx
 ·exact hlo x hx
 ·obtain ⟨cur, t, fr, h1, h2⟩ := h.ty x hx b hb
  exact ⟨cur, t, fr, (hne b ⟨cur, t, fr, h1, h2⟩).trans h1, h2⟩
 ·obtain ⟨cur, t, fr, h1, h2⟩ := hty x hx b hb
  exact ⟨cur, t, fr, (hne b ⟨cur, t, fr, h1, h2⟩).trans h1, h2⟩
end

theorem wp_append_rowE {α : Type} {S : Shape α} {P : Program} {t e : TypeId} {z : Value} {bytes : Nat} (ti : TI P t e z S.m bytes) (hzs : z.cells.size = S.m) (h0 : 0 < S.m) (w : World) {L X : List (Elem α)} {ops : Array Oper} {rest : List Oper} {o : Oper} {a : Act} {Q : Exit → Act → World → Prop}
  (hg : o.guard = none) (s y : Operand) (ho : o.op = .call { callee := .builtin .append, args := #[s, y], argTypes := #[t, t] })
  (base : Nat) (v : Value) (hs : a.eval s = v) (hown : RowE S base e v L w) (g m c : Nat) (hy : a.eval y = .slice (some ⟨g, 0, none⟩) m c) (hm : X.length = m)
  (hlen : ∀ x ∈ X, x.cells.length = S.m) (h1 : ∀ x ∈ X, ∀ u ∈ x.cells, u.oneCell' = true) (hcell : ∀ j u, (X.flatMap (·.cells))[j]? = some u → w.cell? ⟨g, j, none⟩ = some u)
  (hR : ∀ x ∈ X, S.R w x.cells x.d x.fp) (hlo : ∀ x ∈ X, ∀ b ∈ x.fp, base ≤ b) (hty : ∀ x ∈ X, ∀ b ∈ x.fp, ∃ cur t fr, w.heap[b]? = some (.cells cur t fr) ∧ t ≠ e)
  (h63 : L.length + m ≤ maxLen) (hbytes : (L.length + m) * bytes ≤ 140737488355328) (hbase : base ≤ w.heap.size)
  (h : ∀ v' w', RowE S base e v' (L ++ X) w' → w.grownBy w' v.ownBlock → wpList P ops Q rest (a.put o.dst v') w') : wpList P ops Q (o :: rest) a w := by
 obtain ⟨i, hi, hz0, hz1, hz2⟩ := info_parts ti.2
 subst hm
 refine wpList_append_own _ hg s y t ho base e i z S.m bytes ti.1 hi hz0 hz1 hz2 hzs h0 v L.length _ hs hown.row ⟨g, 0, none⟩ X.length c (X.flatMap (·.cells)) hy (flatMap_len hlen) ?_ ?_ h63 hbytes hbase fun v' w' a b _ => h v' w' ?_ b
 ·intro j u hj
  rw [addr_add, Nat.zero_add]
  exact hcell j u hj
 ·intro u hu
  obtain ⟨x, hx, hu⟩ := List.mem_flatMap.1 hu
  exact h1 x hx u hu
 ·refine hown.appended ?_ b hlen hR hlo hty
  rw [List.length_append, List.flatMap_append]
  exact a

end Go.Proofs.YtlegeancmcmbaaaDoor

/- Rows of bytes of the call's own. -/
namespace Go.Proofs.YtlegeancmcmbaaaDoor
open Go.RowKit
def Bytes (base : Nat) (v : Value) (s : ByteArray) (w : World) : Prop := w.ownsRow base 5 1 v s.size (Lib.strCells s)
theorem Bytes.none (base : Nat) (w : World) : Bytes base (.slice Option.none 0 0) ⟨#[]⟩ w := World.ownsRow_nil _ _ _ _
end Go.Proofs.YtlegeancmcmbaaaDoor

/- The drawing of a line. -/
namespace Go.Proofs.YtlegeancmcmbaaaDoor
open Go.RowKit

def Drawn (rb p n M : Nat) (w : World) (e : Ending) (w' : World) : Prop := ∃ (s : ByteArray) (q : Nat), e = .returned (.string s) ∧ s.size ≤ M ∧ q ≤ p + n ∧ Rd w' rb q ∧ Kept [rb] w w'
def line_lits : List ByteArray := [⟨#[10]⟩, ⟨#[127]⟩, ⟨#[64]⟩, ⟨#[34, 115]⟩, ⟨#[97, 98, 99, 100, 101, 102, 103, 104, 105, 106, 107, 108, 109]⟩, ⟨#[92]⟩]
theorem line_lits_size : ∀ s ∈ line_lits, s.size ≤ 13 := by decide

set_option maxHeartbeats 8000000 in
theorem l20Line (rb p : Nat) (n : Int) (w : World) (H : Rd w rb p) (hp : p ≤ 100000) (hn : n ≤ 100) (hn0 : 0 ≤ n) :
  Calls Tryd.prog 93 #[.pointer (some ⟨rb, 0, none⟩), .int .i64 n] w (Drawn rb p 110 1000 w) := by
 go_enter Tryd.func93, Tryd.ntmps93
 go_wp2_with (go_at_call 29; refine (pick rb p _ _ H (by omega) (by omega) (by omega)).mono ?_; rintro e w2 ⟨r, rfl, h0, h1, hR2, hK⟩)
 go_loopw [5, 6] (fun o i wr => ∃ (k q : Nat) (out : ByteArray), k ≤ 6 ∧ q + 14 * k ≤ p + 100 ∧ out.size + 20 * k ≤ 500 ∧ o = .string out ∧ i = .int .i64 k ∧ Rd wr rb q ∧ Kept [rb] w wr) (fun _ i _ => (intOf i).toNat)
 case atStart => exact ⟨r.toNat, p + 1, _, by omega, by omega, by show 0 + _ ≤ _; omega, rfl, by go_num, hR2, hK⟩
 case round =>
  obtain ⟨k, q, out, hk, hq, ho, rfl, rfl, hR, hB⟩ := hrel
  clear hR2 hK
  by_cases hlt : 0 < k
  ·go_wp2
   refine wp_region_types (P := Tryd.prog) (by kernel_rfl) (by kernel_rfl) (Kept [rb]) [pVal (.string out), pLits [rb] 20 6, pVal (.pointer (some ⟨rb, 0, none⟩)), pInt 20, pPtr [rb] 6, pStr 6, pStr (out.size + 6), pLits [rb] 2 1, pVal (.pointer (some ⟨rb, 0, none⟩)), pInt 2, pPtr [rb] 1, pStr 1, pStr ((out.size + 6) + 1), pStr ((out.size + 6) + 1)] (stab_all ⟨stVal _, stLits _ _, stVal _, stInt _, stPtr _, stStr _, stStr _, stLits _ _, stVal _, stInt _, stPtr _, stStr _, stStr _, stStr _, trivial⟩) (jRd rb q wr) ?start (steps_all ⟨?s0, ?s1, ?s2, ?s3, ?s4, ?s5, ?s6, ?s7, ?s8, ?s9, ?s10, ?s11, ?s12, ?s13, trivial⟩) ?done
   case start => exact jRd.start hR
   case s0 =>
    intro xs w' m hl hm hJ hlast hf ho K hK
    replace hm : m < 14 := hm
    obtain ⟨x0, x1, x2, x3, x4, x5, x6, x7, x8, x9, x10, x11, x12, x13, rfl⟩ := len14 hl
    obtain rfl : x13 = .string out := by have := ho 13 _ rfl (.inr ⟨⟨0, .phase⟩, by simp, rfl, rfl⟩); simpa [origs] using this
    clear hlast
    clear hf ho
    simp only [fill, Act.put, List.map_cons, List.map_nil, List.setIfInBounds_toArray, List.set_cons_succ, List.set_cons_zero] at hK ⊢
    go_wp2
    exact hK _ _ (At.mk rfl rfl) (Kept.refl _ _) hJ.same
   case s1 =>
    intro xs w' m hl hm hJ hlast hf ho K hK
    replace hm : m < 14 := hm
    obtain ⟨x0, x1, x2, x3, x4, x5, x6, x7, x8, x9, x10, x11, x12, x13, rfl⟩ := len14 hl
    clear hlast
    clear hf ho
    simp only [fill, Act.put, List.map_cons, List.map_nil, List.setIfInBounds_toArray, List.set_cons_succ, List.set_cons_zero] at hK ⊢
    go_wp2
    exact hK _ _ (At.mk rfl (pLits_new [⟨#[97]⟩, ⟨#[98]⟩, ⟨#[102, 40]⟩, ⟨#[120]⟩, ⟨#[41]⟩, ⟨#[32]⟩, ⟨#[44]⟩, ⟨#[43]⟩, ⟨#[49]⟩, ⟨#[49, 50]⟩, ⟨#[34, 115, 34]⟩, ⟨#[103, 40, 49, 44, 50, 41]⟩, ⟨#[102, 40, 97, 41]⟩, ⟨#[40]⟩, ⟨#[65, 66]⟩, ⟨#[32, 45, 32]⟩, ⟨#[61, 61]⟩, ⟨#[104, 40, 98, 32, 99, 41]⟩, ⟨#[101, 40, 41]⟩, ⟨#[38, 38]⟩] 6 [rb] w' (by decide) hJ.lts 20 rfl)) (Kept.of_below ((Below.refl _ _).alloc (Nat.le_refl _) _)) (hJ.alloc _)
   case s2 =>
    intro xs w' m hl hm hJ hlast hf ho K hK
    replace hm : m < 14 := hm
    obtain ⟨x0, x1, x2, x3, x4, x5, x6, x7, x8, x9, x10, x11, x12, x13, rfl⟩ := len14 hl
    clear hlast
    clear hf ho
    simp only [fill, Act.put, List.map_cons, List.map_nil, List.setIfInBounds_toArray, List.set_cons_succ, List.set_cons_zero] at hK ⊢
    go_wp2
    exact hK _ _ (At.mk rfl rfl) (Kept.refl _ _) hJ.same
   case s3 =>
    intro xs w' m hl hm hJ hlast hf ho K hK
    replace hm : m < 14 := hm
    obtain ⟨x0, x1, x2, x3, x4, x5, x6, x7, x8, x9, x10, x11, x12, x13, rfl⟩ := len14 hl
    have f2 : pVal (.pointer (some ⟨rb, 0, none⟩)) x2 w' := hf ⟨2, .data⟩ (by simp) rfl _ rfl _ rfl
    clear hlast
    clear hf ho
    obtain rfl := f2
    obtain ⟨⟨p1, hp1, hR1⟩, hK1⟩ := hJ
    simp only [fill, Act.put, List.map_cons, List.map_nil, List.setIfInBounds_toArray, List.set_cons_succ, List.set_cons_zero] at hK ⊢
    go_wp2_with (go_at_call 29; refine (pick rb p1 _ _ hR1 (by omega) (by omega) (by omega)).mono ?_; rintro e w2 ⟨rr, rfl, hr0, hr1, hRq, hkq⟩)
    exact hK _ _ (At.mk rfl ⟨rr, rfl, hr0, by omega⟩) hkq ⟨⟨p1 + 1, by omega, hRq⟩, hK1.trans hkq⟩
   case s4 =>
    intro xs w' m hl hm hJ hlast hf ho K hK
    replace hm : m < 14 := hm
    obtain ⟨x0, x1, x2, x3, x4, x5, x6, x7, x8, x9, x10, x11, x12, x13, rfl⟩ := len14 hl
    have f1 : pLits [rb] 20 6 x1 w' := hf ⟨1, .data⟩ (by simp) rfl _ rfl _ rfl
    have f3 : pInt 20 x3 w' := hf ⟨3, .data⟩ (by simp) rfl _ rfl _ rfl
    clear hlast
    clear hf ho
    obtain ⟨ba, rfl, hnea, hba, hca⟩ := f1
    obtain ⟨ri, rfl, hii, hji⟩ := f3
    obtain ⟨s, hc1, hs1⟩ := hca ri.toNat (by omega)
    simp only [fill, Act.put, List.map_cons, List.map_nil, List.setIfInBounds_toArray, List.set_cons_succ, List.set_cons_zero] at hK ⊢
    go_wp2
    exact hK _ _ (At.mk rfl ⟨ba, _, s, rfl, hnea, hba, hc1, hs1⟩) (Kept.refl _ _) hJ.same
   case s5 =>
    intro xs w' m hl hm hJ hlast hf ho K hK
    replace hm : m < 14 := hm
    obtain ⟨x0, x1, x2, x3, x4, x5, x6, x7, x8, x9, x10, x11, x12, x13, rfl⟩ := len14 hl
    have f4 : pPtr [rb] 6 x4 w' := hf ⟨4, .data⟩ (by simp) rfl _ rfl _ rfl
    clear hlast
    clear hf ho
    obtain ⟨ba, ja, sa, rfl, hnea, hba, hca, hsa⟩ := f4
    simp only [fill, Act.put, List.map_cons, List.map_nil, List.setIfInBounds_toArray, List.set_cons_succ, List.set_cons_zero] at hK ⊢
    go_wp2
    exact hK _ _ (At.mk rfl ⟨_, rfl, hsa⟩) (Kept.refl _ _) hJ.same
   case s6 =>
    intro xs w' m hl hm hJ hlast hf ho K hK
    replace hm : m < 14 := hm
    obtain ⟨x0, x1, x2, x3, x4, x5, x6, x7, x8, x9, x10, x11, x12, x13, rfl⟩ := len14 hl
    have f0 : pVal (.string out) x0 w' := hf ⟨0, .data⟩ (by simp) rfl _ rfl _ rfl
    have f5 : pStr 6 x5 w' := hf ⟨5, .data⟩ (by simp) rfl _ rfl _ rfl
    clear hlast
    clear hf ho
    obtain rfl := f0
    obtain ⟨sb, rfl, hsb⟩ := f5
    have hadd := fun W => run_string_add_sum (P := Tryd.prog) W out sb (by omega)
    simp only [fill, Act.put, List.map_cons, List.map_nil, List.setIfInBounds_toArray, List.set_cons_succ, List.set_cons_zero] at hK ⊢
    go_wp2
    exact hK _ _ (At.mk rfl ⟨_, rfl, by rw [ByteArray.size_append]; omega⟩) (Kept.refl _ _) hJ.same
   case s7 =>
    intro xs w' m hl hm hJ hlast hf ho K hK
    replace hm : m < 14 := hm
    obtain ⟨x0, x1, x2, x3, x4, x5, x6, x7, x8, x9, x10, x11, x12, x13, rfl⟩ := len14 hl
    clear hlast
    clear hf ho
    simp only [fill, Act.put, List.map_cons, List.map_nil, List.setIfInBounds_toArray, List.set_cons_succ, List.set_cons_zero] at hK ⊢
    go_wp2
    exact hK _ _ (At.mk rfl (pLits_new [⟨#[]⟩, ⟨#[32]⟩] 1 [rb] w' (by decide) hJ.lts 2 rfl)) (Kept.of_below ((Below.refl _ _).alloc (Nat.le_refl _) _)) (hJ.alloc _)
   case s8 =>
    intro xs w' m hl hm hJ hlast hf ho K hK
    replace hm : m < 14 := hm
    obtain ⟨x0, x1, x2, x3, x4, x5, x6, x7, x8, x9, x10, x11, x12, x13, rfl⟩ := len14 hl
    clear hlast
    clear hf ho
    simp only [fill, Act.put, List.map_cons, List.map_nil, List.setIfInBounds_toArray, List.set_cons_succ, List.set_cons_zero] at hK ⊢
    go_wp2
    exact hK _ _ (At.mk rfl rfl) (Kept.refl _ _) hJ.same
   case s9 =>
    intro xs w' m hl hm hJ hlast hf ho K hK
    replace hm : m < 14 := hm
    obtain ⟨x0, x1, x2, x3, x4, x5, x6, x7, x8, x9, x10, x11, x12, x13, rfl⟩ := len14 hl
    have f8 : pVal (.pointer (some ⟨rb, 0, none⟩)) x8 w' := hf ⟨8, .data⟩ (by simp) rfl _ rfl _ rfl
    clear hlast
    clear hf ho
    obtain rfl := f8
    obtain ⟨⟨p1, hp1, hR1⟩, hK1⟩ := hJ
    simp only [fill, Act.put, List.map_cons, List.map_nil, List.setIfInBounds_toArray, List.set_cons_succ, List.set_cons_zero] at hK ⊢
    go_wp2_with (go_at_call 29; refine (pick rb p1 _ _ hR1 (by omega) (by omega) (by omega)).mono ?_; rintro e w2 ⟨rr, rfl, hr0, hr1, hRq, hkq⟩)
    exact hK _ _ (At.mk rfl ⟨rr, rfl, hr0, by omega⟩) hkq ⟨⟨p1 + 1, by omega, hRq⟩, hK1.trans hkq⟩
   case s10 =>
    intro xs w' m hl hm hJ hlast hf ho K hK
    replace hm : m < 14 := hm
    obtain ⟨x0, x1, x2, x3, x4, x5, x6, x7, x8, x9, x10, x11, x12, x13, rfl⟩ := len14 hl
    have f7 : pLits [rb] 2 1 x7 w' := hf ⟨7, .data⟩ (by simp) rfl _ rfl _ rfl
    have f9 : pInt 2 x9 w' := hf ⟨9, .data⟩ (by simp) rfl _ rfl _ rfl
    clear hlast
    clear hf ho
    obtain ⟨ba, rfl, hnea, hba, hca⟩ := f7
    obtain ⟨ri, rfl, hii, hji⟩ := f9
    obtain ⟨s, hc1, hs1⟩ := hca ri.toNat (by omega)
    simp only [fill, Act.put, List.map_cons, List.map_nil, List.setIfInBounds_toArray, List.set_cons_succ, List.set_cons_zero] at hK ⊢
    go_wp2
    exact hK _ _ (At.mk rfl ⟨ba, _, s, rfl, hnea, hba, hc1, hs1⟩) (Kept.refl _ _) hJ.same
   case s11 =>
    intro xs w' m hl hm hJ hlast hf ho K hK
    replace hm : m < 14 := hm
    obtain ⟨x0, x1, x2, x3, x4, x5, x6, x7, x8, x9, x10, x11, x12, x13, rfl⟩ := len14 hl
    have f10 : pPtr [rb] 1 x10 w' := hf ⟨10, .data⟩ (by simp) rfl _ rfl _ rfl
    clear hlast
    clear hf ho
    obtain ⟨ba, ja, sa, rfl, hnea, hba, hca, hsa⟩ := f10
    simp only [fill, Act.put, List.map_cons, List.map_nil, List.setIfInBounds_toArray, List.set_cons_succ, List.set_cons_zero] at hK ⊢
    go_wp2
    exact hK _ _ (At.mk rfl ⟨_, rfl, hsa⟩) (Kept.refl _ _) hJ.same
   case s12 =>
    intro xs w' m hl hm hJ hlast hf ho K hK
    replace hm : m < 14 := hm
    obtain ⟨x0, x1, x2, x3, x4, x5, x6, x7, x8, x9, x10, x11, x12, x13, rfl⟩ := len14 hl
    have f6 : pStr (out.size + 6) x6 w' := hf ⟨6, .data⟩ (by simp) rfl _ rfl _ rfl
    have f11 : pStr 1 x11 w' := hf ⟨11, .data⟩ (by simp) rfl _ rfl _ rfl
    clear hlast
    clear hf ho
    obtain ⟨sa, rfl, hsa⟩ := f6
    obtain ⟨sb, rfl, hsb⟩ := f11
    have hadd := fun W => run_string_add_sum (P := Tryd.prog) W sa sb (by omega)
    simp only [fill, Act.put, List.map_cons, List.map_nil, List.setIfInBounds_toArray, List.set_cons_succ, List.set_cons_zero] at hK ⊢
    go_wp2
    exact hK _ _ (At.mk rfl ⟨_, rfl, by rw [ByteArray.size_append]; omega⟩) (Kept.refl _ _) hJ.same
   case s13 =>
    intro xs w' m hl hm hJ hlast hf ho K hK
    replace hm : m < 14 := hm
    obtain ⟨x0, x1, x2, x3, x4, x5, x6, x7, x8, x9, x10, x11, x12, x13, rfl⟩ := len14 hl
    have f12 : pStr ((out.size + 6) + 1) x12 w' := hf ⟨12, .data⟩ (by simp) rfl _ rfl _ rfl
    clear hlast
    clear hf ho
    obtain ⟨sa, rfl, hsa⟩ := f12
    simp only [fill, Act.put, List.map_cons, List.map_nil, List.setIfInBounds_toArray, List.set_cons_succ, List.set_cons_zero] at hK ⊢
    go_wp2
    exact hK _ _ (At.mk rfl ⟨_, rfl, hsa⟩) (Kept.refl _ _) hJ.same
   case done =>
    intro xs w' hl hf hJ
    obtain ⟨x0, x1, x2, x3, x4, x5, x6, x7, x8, x9, x10, x11, x12, x13, rfl⟩ := len14 hl
    have f13 : pStr ((out.size + 6) + 1) x13 w' := hf 13 _ rfl _ rfl
    obtain ⟨sz, rfl, hsz⟩ := f13
    clear hf
    obtain ⟨⟨p1, hp1, hR1⟩, hK1⟩ := hJ
    replace hp1 : p1 ≤ q + 14 := hp1
    simp only [fill, Act.put, List.map_cons, List.map_nil, List.setIfInBounds_toArray, List.set_cons_succ, List.set_cons_zero]
    go_wp2
    go_roundw
    case rel => exact ⟨k - 1, p1, sz, by omega, by omega, by omega, rfl, by go_num, hR1, hB.trans hK1⟩
    case measure => simp [intOf]; omega
  ·go_wp2_with fail
   refine (odd rb q _ _ hR (by omega) (by omega) (by omega)).mono ?_
   rintro e w3 ⟨b, q2, rfl, hq1, hq2, hR3, hK3⟩
   cases b
   ·go_wp2
    go_ret
    exact ⟨out, q2, rfl, by omega, by omega, hR3, hB.trans hK3⟩
   ·go_wp2_with (go_at_call 29; refine (pick rb q2 _ _ (hR3.grow ((Below.refl _ _).alloc (Nat.le_refl _) _)) (by omega) (by omega) (by omega)).mono ?_; rintro e w4 ⟨r2, rfl, h20, h21, hR4, hK4⟩; obtain ⟨s, hs, hc⟩ := lit_pick line_lits 13 line_lits_size h20 (by show r2 < 6; omega) hR3.lt hK4; have hadd := fun W => run_string_add_sum (P := Tryd.prog) W out s (by omega))
    go_ret
    exact ⟨out ++ s, q2 + 1, rfl, by rw [ByteArray.size_append]; omega, by omega, hR4, (hB.trans hK3).trans ((Kept.of_below ((Below.refl _ _).alloc (Nat.le_refl _) _)).trans hK4)⟩

end Go.Proofs.YtlegeancmcmbaaaDoor

/- Lines without their comments: no program. -/
namespace Go.Proofs.YtlegeancmcmbaaaDoor
open Go.RowKit

def tEnd (s : ByteArray) (k : Nat) : Nat :=
 if h : k < s.size then (if s[k].toNat = 34 then k + 1 else if s[k].toNat = 92 then tEnd s (k + 2) else tEnd s (k + 1)) else s.size
termination_by s.size - k
theorem tEnd_quote {s : ByteArray} {k : Nat} (h : k < s.size) (hc : s[k].toNat = 34) : tEnd s k = k + 1 := by rw [tEnd, dif_pos h, if_pos hc]
theorem tEnd_back {s : ByteArray} {k : Nat} (h : k < s.size) (hc : s[k].toNat = 92) : tEnd s k = tEnd s (k + 2) := by rw [tEnd, dif_pos h, if_neg (by omega), if_pos hc]
theorem tEnd_else {s : ByteArray} {k : Nat} (h : k < s.size) (h1 : ¬ s[k].toNat = 34) (h2 : ¬ s[k].toNat = 92) : tEnd s k = tEnd s (k + 1) := by rw [tEnd, dif_pos h, if_neg h1, if_neg h2]
theorem tEnd_out {s : ByteArray} {k : Nat} (h : s.size ≤ k) : tEnd s k = s.size := by rw [tEnd, dif_neg (by omega)]
theorem tEnd_bounds (s : ByteArray) (k : Nat) : tEnd s k ≤ s.size ∧ (k ≤ s.size → k ≤ tEnd s k) := by
 induction k using tEnd.induct (s := s) with
 | case1 k h hc => rw [tEnd_quote h hc]; omega
 |
  case2 k h h1 hc ih => rw [tEnd_back h hc]; exact ⟨ih.1, fun _ => by
  by_cases h2 : k + 2 ≤ s.size
  ·have := ih.2 h2; omega
  ·rw [tEnd_out (by omega)]; omega⟩
 | case3 k h h1 h2 ih => rw [tEnd_else h h1 h2]; exact ⟨ih.1, fun _ => by have := ih.2 (by omega); omega⟩
 | case4 k h => rw [tEnd_out (by omega)]; omega

def two (s : ByteArray) (k : Nat) (a b : UInt8) : Bool := [a, b].isPrefixOf (s.data.toList.drop k)
theorem take_two (l : List UInt8) (a b : UInt8) : (l.take 2 == [a, b]) = [a, b].isPrefixOf l := by
 match l with
 | [] => rfl
 | [x] => simp [List.isPrefixOf]
 |
  x :: y :: t =>
  show ([x, y] == [a, b]) = (a == x && (b == y && true))
  rw [Bool.eq_iff_iff, beq_iff_eq, Bool.and_eq_true, Bool.and_eq_true, beq_iff_eq, beq_iff_eq, List.cons.injEq, List.cons.injEq]
  exact ⟨fun h => ⟨h.1.symm, h.2.1.symm, rfl⟩, fun h => ⟨h.1.symm, h.2.1.symm, rfl⟩⟩
theorem ext_list (s : ByteArray) (i j : Nat) : (s.extract i j).data.toList = (s.data.toList.drop i).take (j - i) := by
 rw [ByteArray.data_extract, Array.toList_extract, List.extract_eq_take_drop]
theorem ext_two (s : ByteArray) (k : Nat) (a b : UInt8) : ((s.extract k (k + 2)).toList == [a, b]) = two s k a b := by
 rw [ByteArray.toList_eq, ext_list, show k + 2 - k = 2 from by omega, take_two]; rfl
theorem ext_min (s : ByteArray) (k : Nat) : s.extract k (min s.size (k + 2)) = s.extract k (k + 2) := by
 apply Go.WideShapes.bytes_inj
 rw [ext_list, ext_list]
 by_cases h : k + 2 ≤ s.size
 ·rw [Nat.min_eq_right h]
 ·have e : s.data.toList.length = s.size := Array.length_toList
  rw [Nat.min_eq_left (by omega), List.take_of_length_le (by rw [List.length_drop]; omega), List.take_of_length_le (by rw [List.length_drop]; omega)]
theorem two_room {s : ByteArray} {k : Nat} {a b : UInt8} (h : two s k a b = true) : k + 1 < s.size := by
 have e : s.data.toList.length = s.size := Array.length_toList
 have := List.IsPrefix.length_le (List.isPrefixOf_iff_prefix.1 h)
 simp only [List.length_cons, List.length_nil, List.length_drop] at this
 omega

def cEnd (s : ByteArray) (k : Nat) : Int := if Lib.index (s.data.toList.drop k) [42, 47] < 0 then -1 else k + Lib.index (s.data.toList.drop k) [42, 47] + 2
theorem index_room : ∀ (l : List UInt8) {sub : List UInt8}, 0 ≤ Lib.index l sub → (Lib.index l sub).toNat + sub.length ≤ l.length
 |
  [], sub, h => by
  unfold Lib.index at *
  split at h
  ·rename_i h1; have : sub = [] := by simpa using h1
   subst this; simp
  ·omega
 |
  b :: l, sub, h => by
  unfold Lib.index at *
  split at h
  ·rename_i h1
   rw [if_pos h1]
   have := List.IsPrefix.length_le (List.isPrefixOf_iff_prefix.1 h1)
   simpa using this
  ·rename_i h1
   rw [if_neg h1]
   split at h
   ·omega
   ·rename_i h2
    rw [if_neg h2]
    have h3 := Lib.index_ge l sub
    have h4 : ¬ Lib.index l sub = -1 := by simpa using h2
    have := index_room l (sub := sub) (by omega)
    simp only [List.length_cons]
    omega
theorem cEnd_room {s : ByteArray} {k : Nat} (h : 0 ≤ cEnd s k) (hk : k ≤ s.size) : (k : Int) + 2 ≤ cEnd s k ∧ cEnd s k ≤ s.size := by
 unfold cEnd at *
 split at h
 ·omega
 ·rename_i h1
  rw [if_neg h1]
  have := index_room (s.data.toList.drop k) (sub := [42, 47]) (by omega)
  have e : s.data.toList.length = s.size := Array.length_toList
  simp only [List.length_cons, List.length_nil, List.length_drop] at this
  omega
def NoEnd (s : ByteArray) (k m : Nat) : Prop := ∀ j, k ≤ j → j < m → two s j 42 47 = false
theorem NoEnd.zero (s : ByteArray) (k : Nat) : NoEnd s k k := fun j h1 h2 => by omega
theorem NoEnd.succ {s : ByteArray} {k m : Nat} (h : NoEnd s k m) (h2 : two s m 42 47 = false) : NoEnd s k (m + 1) := by
 intro j h1 hj
 by_cases e : j = m
 ·subst e; exact h2
 ·exact h j h1 (by omega)
theorem NoEnd.hit {s : ByteArray} {k m : Nat} (h : NoEnd s k m) (hk : k ≤ m) (h2 : two s m 42 47 = true) : cEnd s k = m + 2 := by
 have hr := two_room h2
 have e : s.data.toList.length = s.size := Array.length_toList
 have : Lib.index (s.data.toList.drop k) [42, 47] = ((m - k : Nat) : Int) := by
  refine Lib.index_first (by rw [List.length_drop]; omega) ?_ ?_
  ·unfold Lib.occAt; rw [List.drop_drop, show k + (m - k) = m from by omega]; exact h2
  ·intro j hj; unfold Lib.occAt; rw [List.drop_drop]; exact h (k + j) (by omega) (by omega)
 unfold cEnd
 rw [this, if_neg (by omega)]
 omega
theorem NoEnd.miss {s : ByteArray} {k m : Nat} (h : NoEnd s k m) (hm : s.size ≤ m + 1) : cEnd s k = -1 := by
 have : Lib.index (s.data.toList.drop k) [42, 47] = -1 := by
  refine Lib.index_none fun j hj => ?_
  unfold Lib.occAt; rw [List.drop_drop]
  by_cases hj : k + j < m
  ·exact h (k + j) (by omega) hj
  ·cases hb : List.isPrefixOf [42, 47] (s.data.toList.drop (k + j))
   ·rfl
   ·have := two_room (s := s) (k := k + j) hb; omega
 unfold cEnd
 rw [this]; rfl

def strip1 (s : ByteArray) (k : Nat) : Option ByteArray :=
 if h : k < s.size then
  if two s k 47 47 = true then some ⟨#[]⟩
  else if two s k 47 42 = true then
   if cEnd s (k + 2) < 0 then none else (strip1 s (max (k + 1) (cEnd s (k + 2)).toNat)).map (⟨#[32]⟩ ++ ·)
  else if s[k].toNat = 34 then (strip1 s (max (k + 1) (tEnd s (k + 1)))).map (s.extract k (tEnd s (k + 1)) ++ ·)
  else (strip1 s (k + 1)).map (s.extract k (k + 1) ++ ·)
 else some ⟨#[]⟩
termination_by s.size - k

def At1 (s : ByteArray) (k : Nat) (out : ByteArray) : Prop := (strip1 s k).map (out ++ ·) = strip1 s 0 ∧ out.size ≤ k
theorem app_assoc (a b : ByteArray) (o : Option ByteArray) : (o.map (b ++ ·)).map (a ++ ·) = o.map ((a ++ b) ++ ·) := by
 rw [Option.map_map]; congr 1; funext x; simp [ByteArray.append_assoc]
theorem nil_app (a : ByteArray) : (⟨#[]⟩ : ByteArray) ++ a = a := by apply Go.WideShapes.bytes_inj; simp
theorem app_nil (a : ByteArray) : a ++ (⟨#[]⟩ : ByteArray) = a := by apply Go.WideShapes.bytes_inj; simp
theorem At1.zero (s : ByteArray) : At1 s 0 ⟨#[]⟩ := ⟨by
 have : (fun x : ByteArray => (⟨#[]⟩ : ByteArray) ++ x) = id := by funext x; exact nil_app x
 rw [this, Option.map_id]; rfl, by simp [ByteArray.size]⟩
theorem At1.line {s : ByteArray} {k : Nat} {out : ByteArray} (h : At1 s k out) (hk : k < s.size) (h1 : two s k 47 47 = true) : strip1 s 0 = some out := by
 rw [← h.1, strip1, dif_pos hk, if_pos h1, Option.map_some, app_nil]
theorem At1.done {s : ByteArray} {k : Nat} {out : ByteArray} (h : At1 s k out) (hk : s.size ≤ k) : strip1 s 0 = some out := by
 rw [← h.1, strip1, dif_neg (by omega), Option.map_some, app_nil]
theorem At1.open_ {s : ByteArray} {k : Nat} {out : ByteArray} (h : At1 s k out) (hk : k < s.size) (h1 : two s k 47 47 = false) (h2 : two s k 47 42 = true) (h3 : cEnd s (k + 2) < 0) : strip1 s 0 = none := by
 rw [← h.1, strip1, dif_pos hk, if_neg (by simp [h1]), if_pos h2, if_pos h3]; rfl
theorem At1.comment {s : ByteArray} {k : Nat} {out : ByteArray} (h : At1 s k out) (hk : k < s.size) (h1 : two s k 47 47 = false) (h2 : two s k 47 42 = true) (h3 : ¬ cEnd s (k + 2) < 0) : At1 s (cEnd s (k + 2)).toNat (out ++ ⟨#[32]⟩) := by
 have hr := two_room h2
 have hc := cEnd_room (s := s) (k := k + 2) (by omega) (by omega)
 refine ⟨?_, by rw [ByteArray.size_append]; have := h.2; show out.size + 1 ≤ _; omega⟩
 rw [← h.1, strip1.eq_def s k, dif_pos hk, if_neg (by simp [h1]), if_pos h2, if_neg h3, app_assoc, Nat.max_eq_right (by omega)]
theorem At1.text {s : ByteArray} {k : Nat} {out : ByteArray} (h : At1 s k out) (hk : k < s.size) (h1 : two s k 47 47 = false) (h2 : two s k 47 42 = false) (h3 : s[k].toNat = 34) : At1 s (tEnd s (k + 1)) (out ++ s.extract k (tEnd s (k + 1))) := by
 have hb := tEnd_bounds s (k + 1)
 have hb2 := hb.2 (by omega)
 refine ⟨?_, by rw [ByteArray.size_append, ByteArray.size_extract]; have := h.2; omega⟩
 rw [← h.1, strip1.eq_def s k, dif_pos hk, if_neg (by simp [h1]), if_neg (by simp [h2]), if_pos h3, app_assoc, Nat.max_eq_right (by omega)]
theorem At1.byte {s : ByteArray} {k : Nat} {out : ByteArray} (h : At1 s k out) (hk : k < s.size) (h1 : two s k 47 47 = false) (h2 : two s k 47 42 = false) (h3 : ¬ s[k].toNat = 34) : At1 s (k + 1) (out ++ s.extract k (k + 1)) := by
 refine ⟨?_, by rw [ByteArray.size_append, ByteArray.size_extract]; have := h.2; omega⟩
 rw [← h.1, strip1.eq_def s k, dif_pos hk, if_neg (by simp [h1]), if_neg (by simp [h2]), if_neg h3, app_assoc]

def stripRes (s : ByteArray) : ByteArray × Bool := if lineOk s = true then (match strip1 s 0 with | none => (⟨#[]⟩, false) | some x => (x, true)) else (⟨#[]⟩, false)
theorem stripRes_bad {s : ByteArray} (h : lineOk s = false) : stripRes s = (⟨#[]⟩, false) := by unfold stripRes; rw [h]; rfl
theorem stripRes_none {s : ByteArray} (h : strip1 s 0 = none) : stripRes s = (⟨#[]⟩, false) := by unfold stripRes; rw [h]; split <;> rfl
theorem stripRes_some {s x : ByteArray} (h0 : lineOk s = true) (h : strip1 s 0 = some x) : stripRes s = (x, true) := by unfold stripRes; rw [if_pos h0, h]
theorem lineOk_size {s : ByteArray} (h : lineOk s = true) : s.size ≤ 200 := by
 unfold lineOk at h
 rw [Bool.and_eq_true, decide_eq_true_eq] at h
 exact h.1
theorem ret_two {a : ByteArray × Bool} {x : ByteArray} {b : Bool} (h : a = (x, b)) : Ending.returned (.tuple #[.string x, .bool b]) = .returned (.tuple #[.string a.1, .bool a.2]) := by rw [h]

end Go.Proofs.YtlegeancmcmbaaaDoor

/- Tokens of a line: no program. -/
namespace Go.Proofs.YtlegeancmcmbaaaDoor
open Go.RowKit

structure Tok where
 kind : Int
 text : ByteArray
 spaced : Bool
 hidden : List ByteArray
theorem Tok.ext' {a b : Tok} (h1 : a.kind = b.kind) (h2 : a.text = b.text) (h3 : a.spaced = b.spaced) (h4 : a.hidden = b.hidden) : a = b := by
 cases a; cases b; simp_all
instance : DecidableEq Tok := fun a b =>
 if h1 : a.kind = b.kind then if h2 : a.text = b.text then if h3 : a.spaced = b.spaced then if h4 : a.hidden = b.hidden then isTrue (Tok.ext' h1 h2 h3 h4)
  else isFalse fun h => h4 (by rw [h]) else isFalse fun h => h3 (by rw [h]) else isFalse fun h => h2 (by rw [h]) else isFalse fun h => h1 (by rw [h])

def isLet (c : UInt8) : Bool := decide (97 ≤ c.toNat ∧ c.toNat ≤ 122 ∨ 65 ≤ c.toNat ∧ c.toNat ≤ 90 ∨ c.toNat = 95)
def isDig (c : UInt8) : Bool := decide (48 ≤ c.toNat ∧ c.toNat ≤ 57)
def isWord (c : UInt8) : Bool := isLet c || isDig c
theorem isLet_iff (c : UInt8) : isLet c = true ↔ (97 ≤ c.toNat ∧ c.toNat ≤ 122 ∨ 65 ≤ c.toNat ∧ c.toNat ≤ 90 ∨ c.toNat = 95) := by unfold isLet; exact decide_eq_true_iff
theorem isDig_iff (c : UInt8) : isDig c = true ↔ (48 ≤ c.toNat ∧ c.toNat ≤ 57) := by unfold isDig; exact decide_eq_true_iff
theorem isWord_iff (c : UInt8) : isWord c = true ↔ ((97 ≤ c.toNat ∧ c.toNat ≤ 122 ∨ 65 ≤ c.toNat ∧ c.toNat ≤ 90 ∨ c.toNat = 95) ∨ (48 ≤ c.toNat ∧ c.toNat ≤ 57)) := by
 unfold isWord; rw [Bool.or_eq_true, isLet_iff, isDig_iff]
def wEnd (s : ByteArray) (k : Nat) : Nat := if h : k < s.size then (if isWord s[k] = true then wEnd s (k + 1) else k) else k
termination_by s.size - k
theorem wEnd_in {s : ByteArray} {k : Nat} (h : k < s.size) (hc : isWord s[k] = true) : wEnd s k = wEnd s (k + 1) := by rw [wEnd, dif_pos h, if_pos hc]
theorem wEnd_stop {s : ByteArray} {k : Nat} (h : k < s.size) (hc : isWord s[k] = false) : wEnd s k = k := by rw [wEnd, dif_pos h, if_neg (by simp [hc])]
theorem wEnd_out {s : ByteArray} {k : Nat} (h : s.size ≤ k) : wEnd s k = k := by rw [wEnd, dif_neg (by omega)]
theorem wEnd_bounds (s : ByteArray) (k : Nat) : k ≤ wEnd s k ∧ (k ≤ s.size → wEnd s k ≤ s.size) := by
 induction k using wEnd.induct (s := s) with
 | case1 k h hc ih => rw [wEnd_in h hc]; exact ⟨by omega, fun _ => ih.2 (by omega)⟩
 | case2 k h hc => rw [wEnd_stop h (by simpa using hc)]; omega
 | case3 k h => rw [wEnd_out (by omega)]; omega

def tClose (s : ByteArray) (k : Nat) : Option Nat :=
 if h : k < s.size then (if s[k].toNat = 34 then some (k + 1) else if s[k].toNat = 92 then tClose s (k + 2) else tClose s (k + 1)) else none
termination_by s.size - k
theorem tClose_quote {s : ByteArray} {k : Nat} (h : k < s.size) (hc : s[k].toNat = 34) : tClose s k = some (k + 1) := by rw [tClose, dif_pos h, if_pos hc]
theorem tClose_back {s : ByteArray} {k : Nat} (h : k < s.size) (hc : s[k].toNat = 92) : tClose s k = tClose s (k + 2) := by rw [tClose, dif_pos h, if_neg (by omega), if_pos hc]
theorem tClose_else {s : ByteArray} {k : Nat} (h : k < s.size) (h1 : ¬ s[k].toNat = 34) (h2 : ¬ s[k].toNat = 92) : tClose s k = tClose s (k + 1) := by rw [tClose, dif_pos h, if_neg h1, if_neg h2]
theorem tClose_out {s : ByteArray} {k : Nat} (h : s.size ≤ k) : tClose s k = none := by rw [tClose, dif_neg (by omega)]
theorem tClose_some {s : ByteArray} {k e : Nat} (h : tClose s k = some e) : k + 1 ≤ e ∧ e ≤ s.size ∧ tEnd s k = e ∧ ∃ hh : e - 1 < s.size, s[e - 1].toNat = 34 := by
 induction k using tClose.induct (s := s) with
 |
  case1 k hk hc =>
  rw [tClose_quote hk hc, Option.some.injEq] at h
  subst h
  exact ⟨by omega, by omega, tEnd_quote hk hc, by simp; omega, hc⟩
 |
  case2 k hk h1 hc ih =>
  rw [tClose_back hk hc] at h
  obtain ⟨a, b, c, d⟩ := ih h
  exact ⟨by omega, b, by rw [tEnd_back hk hc, c], d⟩
 |
  case3 k hk h1 h2 ih =>
  rw [tClose_else hk h1 h2] at h
  obtain ⟨a, b, c, d⟩ := ih h
  exact ⟨by omega, b, by rw [tEnd_else hk h1 h2, c], d⟩
 | case4 k hk => rw [tClose_out (by omega)] at h; exact absurd h (by simp)
theorem tClose_none {s : ByteArray} {k : Nat} (h : tClose s k = none) : tEnd s k = s.size := by
 induction k using tClose.induct (s := s) with
 | case1 k hk hc => rw [tClose_quote hk hc] at h; simp at h
 | case2 k hk h1 hc ih => rw [tClose_back hk hc] at h; rw [tEnd_back hk hc, ih h]
 | case3 k hk h1 h2 ih => rw [tClose_else hk h1 h2] at h; rw [tEnd_else hk h1 h2, ih h]
 | case4 k hk => exact tEnd_out (by omega)

def plus (s : ByteArray) : ByteArray := s ++ ⟨#[32]⟩
theorem plus_size (s : ByteArray) : (plus s).size = s.size + 1 := by unfold plus; rw [ByteArray.size_append]; rfl
theorem plus_at (s : ByteArray) (k : Nat) (h : k < s.size) : (plus s)[k]'(by rw [plus_size]; omega) = s[k] := by
 unfold plus; rw [ByteArray.getElem_append_left h]
theorem plus_end (s : ByteArray) : (plus s)[s.size]'(by rw [plus_size]; omega) = 32 := by
 unfold plus; rw [ByteArray.getElem_append_right (Nat.le_refl _)]; simp; rfl
theorem tEnd_plus (s : ByteArray) (k : Nat) (hk : k ≤ s.size + 1) : tEnd (plus s) k = match tClose s k with | some e => e | none => s.size + 1 := by
 induction k using tClose.induct (s := s) with
 |
  case1 k h hc =>
  rw [tClose_quote h hc, tEnd_quote (by rw [plus_size]; omega) (by rw [plus_at s k h]; exact hc)]
 |
  case2 k h h1 hc ih =>
  rw [tClose_back h hc, tEnd_back (by rw [plus_size]; omega) (by rw [plus_at s k h]; exact hc)]
  exact ih (by omega)
 |
  case3 k h h1 h2 ih =>
  rw [tClose_else h h1 h2, tEnd_else (by rw [plus_size]; omega) (by rw [plus_at s k h]; exact h1) (by rw [plus_at s k h]; exact h2)]
  exact ih (by omega)
 |
  case4 k h =>
  rw [tClose_out (by omega)]
  by_cases e : k = s.size
  ·subst e
   rw [tEnd_else (by rw [plus_size]; omega) (by rw [plus_end]; decide) (by rw [plus_end]; decide), tEnd_out (by rw [plus_size]; omega), plus_size]
  ·rw [tEnd_out (by rw [plus_size]; omega), plus_size]

def bk (s : ByteArray) (k e : Nat) : Nat := if h : k < e ∧ k < s.size then (if s[k].toNat = 92 then bk s (k + 2) e else bk s (k + 1) e) else k
termination_by e - k
theorem bk_back {s : ByteArray} {k e : Nat} (h : k < e) (h' : k < s.size) (hc : s[k].toNat = 92) : bk s k e = bk s (k + 2) e := by rw [bk, dif_pos ⟨h, h'⟩, if_pos hc]
theorem bk_else {s : ByteArray} {k e : Nat} (h : k < e) (h' : k < s.size) (hc : ¬ s[k].toNat = 92) : bk s k e = bk s (k + 1) e := by rw [bk, dif_pos ⟨h, h'⟩, if_neg hc]
theorem bk_out {s : ByteArray} {k e : Nat} (h : e ≤ k) : bk s k e = k := by rw [bk, dif_neg (by omega)]
theorem bk_closed {s : ByteArray} {k e : Nat} (h : tClose s k = some e) : bk s k (e - 1) = e - 1 := by
 induction k using tClose.induct (s := s) with
 |
  case1 k hk hc =>
  rw [tClose_quote hk hc, Option.some.injEq] at h
  subst h
  rw [bk_out (by omega)]; omega
 |
  case2 k hk h1 hc ih =>
  rw [tClose_back hk hc] at h
  have := tClose_some h
  rw [bk_back (by omega) hk hc]
  exact ih h
 |
  case3 k hk h1 h2 ih =>
  rw [tClose_else hk h1 h2] at h
  have := tClose_some h
  rw [bk_else (by omega) hk h2]
  exact ih h
 | case4 k hk => rw [tClose_out (by omega)] at h; exact absurd h (by simp)
theorem bk_open {s : ByteArray} {k : Nat} (h : tClose s k = none) (hk : k < s.size) (hq : s[s.size - 1].toNat = 34) : bk s k (s.size - 1) ≠ s.size - 1 := by
 induction k using tClose.induct (s := s) with
 | case1 k hk hc => rw [tClose_quote hk hc] at h; simp at h
 |
  case2 k hk' h1 hc ih =>
  rw [tClose_back hk' hc] at h
  have hn : k ≠ s.size - 1 := by rintro rfl; omega
  rw [bk_back (by omega) hk' hc]
  by_cases h2 : k + 2 < s.size
  ·exact ih h h2 hq
  ·rw [bk_out (by omega)]; omega
 |
  case3 k hk' h1 h2 ih =>
  rw [tClose_else hk' h1 h2] at h
  have hn : k ≠ s.size - 1 := by rintro rfl; omega
  rw [bk_else (by omega) hk' h2]
  exact ih h (by omega) hq
 | case4 k hk' => omega

def twoAt (s : ByteArray) (k : Nat) : Bool := two s k 61 61 || two s k 33 61 || two s k 60 61 || two s k 62 61 || two s k 38 38 || two s k 124 124 || two s k 35 35
def marks1 : List UInt8 := [43, 45, 42, 47, 37, 60, 62, 61, 33, 38, 124, 40, 41, 44, 35, 59, 63, 58, 123, 125, 91, 93, 46]
def mLen (s : ByteArray) (k : Nat) : Nat := if twoAt s k = true then 2 else if h : k < s.size then (if s[k] ∈ marks1 then 1 else 0) else 0
theorem twoAt_room {s : ByteArray} {k : Nat} (h : twoAt s k = true) : k + 1 < s.size := by
 unfold twoAt at h
 simp only [Bool.or_eq_true] at h
 rcases h with (((((h | h) | h) | h) | h) | h) | h <;> exact two_room h
theorem mLen_room {s : ByteArray} {k : Nat} (hk : k < s.size) : k + mLen s k ≤ s.size ∧ mLen s k ≤ 2 := by
 unfold mLen
 split
 ·rename_i h; have := twoAt_room h; omega
 ·split <;> (try split) <;> omega

def wordTo (s : ByteArray) (k : Nat) : Int := if 12 < wEnd s k - k then -1 else (wEnd s k : Int)
theorem wordTo_long {s : ByteArray} {k0 k : Nat} (h : k = wEnd s k0) (h1 : 12 < (k : Int) - (k0 : Int)) : (-1 : Int) = wordTo s k0 := by unfold wordTo; rw [← h, if_pos (by omega)]
theorem wordTo_short {s : ByteArray} {k0 k : Nat} (h : k = wEnd s k0) (h1 : ¬ 12 < (k : Int) - (k0 : Int)) : (k : Int) = wordTo s k0 := by unfold wordTo; rw [← h, if_neg (by omega)]
def closeTo (s : ByteArray) (k : Nat) : Int := match tClose s k with | some e => (e : Int) | none => -1
theorem closeTo_some {s : ByteArray} {k e : Nat} (h : tClose s k = some e) : closeTo s k = e := by unfold closeTo; rw [h]
theorem closeTo_none {s : ByteArray} {k : Nat} (h : tClose s k = none) : closeTo s k = -1 := by unfold closeTo; rw [h]
def markTo (s : ByteArray) (k : Nat) : Int := if mLen s k = 0 then -1 else ((k + mLen s k : Nat) : Int)
def cutKind (c : UInt8) : Int := if isDig c = true then 2 else if isLet c = true then 1 else if c.toNat = 34 then 3 else 4
def cutEnd (s : ByteArray) (k : Nat) : Int :=
 if h : k < s.size then
  if isWord s[k] = true then wordTo s k
  else if s[k].toNat = 34 then closeTo s (k + 1)
  else markTo s k
 else -1
theorem cutEnd_word {s : ByteArray} {k : Nat} (h : k < s.size) (hw : isWord s[k] = true) : cutEnd s k = if 12 < wEnd s k - k then -1 else (wEnd s k : Int) := by rw [cutEnd, dif_pos h, if_pos hw]; rfl
theorem cutEnd_text {s : ByteArray} {k : Nat} (h : k < s.size) (hw : isWord s[k] = false) (hq : s[k].toNat = 34) : cutEnd s k = match tClose s (k + 1) with | some e => (e : Int) | none => -1 := by rw [cutEnd, dif_pos h, if_neg (by simp [hw]), if_pos hq]; rfl
theorem cutEnd_mark {s : ByteArray} {k : Nat} (h : k < s.size) (hw : isWord s[k] = false) (hq : ¬ s[k].toNat = 34) : cutEnd s k = if mLen s k = 0 then -1 else ((k + mLen s k : Nat) : Int) := by rw [cutEnd, dif_pos h, if_neg (by simp [hw]), if_neg hq]; rfl
theorem cutEnd_room {s : ByteArray} {k : Nat} (h : 0 ≤ cutEnd s k) : (k : Int) + 1 ≤ cutEnd s k ∧ cutEnd s k ≤ s.size ∧ k < s.size := by
 by_cases hk : k < s.size
 ·refine ⟨?_, ?_, hk⟩ <;>
  ·cases hw : isWord s[k]
   ·by_cases hq : s[k].toNat = 34
    ·rw [cutEnd_text hk hw hq] at h ⊢
     cases hc : tClose s (k + 1) with
     | none => rw [hc] at h; exact absurd h (by decide)
     | some e => have := tClose_some hc; show _ ≤ _; simp only; omega
    ·rw [cutEnd_mark hk hw hq] at h ⊢
     have := mLen_room hk
     split at h
     ·omega
     ·rename_i h0; rw [if_neg h0]; omega
   ·rw [cutEnd_word hk hw] at h ⊢
    have h1 := wEnd_bounds s (k + 1)
    rw [← wEnd_in hk hw] at h1
    have := h1.2 (by omega)
    split at h
    ·omega
    ·rename_i h0; rw [if_neg h0]; omega
 ·rw [cutEnd, dif_neg hk] at h; omega
theorem cutEnd_ge (s : ByteArray) (k : Nat) : cutEnd s k < 0 ∨ ∃ e : Nat, cutEnd s k = e ∧ k < e ∧ e ≤ s.size := by
 by_cases h : cutEnd s k < 0
 ·exact .inl h
 ·have := cutEnd_room (s := s) (k := k) (by omega)
  exact .inr ⟨(cutEnd s k).toNat, by omega, by omega, by omega⟩

def sCut (s : ByteArray) (k : Nat) : Int × Int :=
 if h : k < s.size then
  if isWord s[k] = true then (if isLet s[k] = true then 1 else 2, wEnd s (k + 1))
  else if s[k].toNat = 34 then (match tClose s (k + 1) with | some e => (3, (e : Int)) | none => (0, k))
  else (4, (k + mLen s k : Nat))
 else (0, k)
def SBad (k : Nat) (c : Int × Int) : Prop := c.2 = k ∨ c.1 = 0 ∨ (c.1 = 1 ∨ c.1 = 2) ∧ 12 < c.2 - k
theorem let_dig {c : UInt8} (h : isLet c = true) : isDig c = false := by
 rw [isLet_iff] at h
 cases hd : isDig c
 ·rfl
 ·rw [isDig_iff] at hd; omega
theorem sCut_word {s : ByteArray} {k : Nat} (h : k < s.size) (hw : isWord s[k] = true) : sCut s k = (if isLet s[k] = true then 1 else 2, (wEnd s (k + 1) : Int)) := by rw [sCut, dif_pos h, if_pos hw]
theorem sCut_closed {s : ByteArray} {k e : Nat} (h : k < s.size) (hw : isWord s[k] = false) (hq : s[k].toNat = 34) (hc : tClose s (k + 1) = some e) : sCut s k = (3, (e : Int)) := by rw [sCut, dif_pos h, if_neg (by simp [hw]), if_pos hq, hc]
theorem sCut_open {s : ByteArray} {k : Nat} (h : k < s.size) (hw : isWord s[k] = false) (hq : s[k].toNat = 34) (hc : tClose s (k + 1) = none) : sCut s k = (0, (k : Int)) := by rw [sCut, dif_pos h, if_neg (by simp [hw]), if_pos hq, hc]
theorem sCut_mark {s : ByteArray} {k : Nat} (h : k < s.size) (hw : isWord s[k] = false) (hq : ¬ s[k].toNat = 34) : sCut s k = (4, ((k + mLen s k : Nat) : Int)) := by rw [sCut, dif_pos h, if_neg (by simp [hw]), if_neg hq]
theorem sCut_bad {s : ByteArray} {k : Nat} (hk : k < s.size) (h : cutEnd s k < 0) : SBad k (sCut s k) := by
 unfold SBad
 cases hw : isWord s[k]
 ·by_cases hq : s[k].toNat = 34
  ·rw [cutEnd_text hk hw hq] at h
   cases hc : tClose s (k + 1) with
   | none => rw [sCut_open hk hw hq hc]; exact .inl rfl
   | some e => rw [hc] at h; simp only at h; omega
  ·rw [cutEnd_mark hk hw hq] at h
   rw [sCut_mark hk hw hq]
   split at h
   ·rename_i h0; left; simp only; omega
   ·omega
 ·rw [cutEnd_word hk hw] at h
  rw [sCut_word hk hw, ← wEnd_in hk hw]
  split at h
  ·rename_i h0
   refine .inr (.inr ⟨?_, by simp only; omega⟩)
   simp only; split <;> simp
  ·omega
theorem sCut_good {s : ByteArray} {k : Nat} (hk : k < s.size) (h : 0 ≤ cutEnd s k) : ¬ SBad k (sCut s k) ∧ sCut s k = (cutKind s[k], cutEnd s k) := by
 have hr := cutEnd_room h
 unfold SBad
 cases hw : isWord s[k]
 ·have hd : isDig s[k] = false := by unfold isWord at hw; simp only [Bool.or_eq_false_iff] at hw; exact hw.2
  have hl : isLet s[k] = false := by unfold isWord at hw; simp only [Bool.or_eq_false_iff] at hw; exact hw.1
  have hkind : cutKind s[k] = if s[k].toNat = 34 then 3 else 4 := by unfold cutKind; rw [if_neg (by simp [hd]), if_neg (by simp [hl])]
  by_cases hq : s[k].toNat = 34
  ·rw [hkind, if_pos hq]
   rw [cutEnd_text hk hw hq] at h hr ⊢
   cases hc : tClose s (k + 1) with
   | none => rw [hc] at h; exact absurd h (by decide)
   |
    some e =>
    have := tClose_some hc
    rw [sCut_closed hk hw hq hc]
    refine ⟨?_, rfl⟩
    simp only; omega
  ·rw [hkind, if_neg hq]
   rw [cutEnd_mark hk hw hq] at h hr ⊢
   rw [sCut_mark hk hw hq]
   split at h
   ·omega
   ·rename_i h0
    rw [if_neg h0] at hr ⊢
    refine ⟨?_, rfl⟩
    simp only; omega
 ·have hkind : cutKind s[k] = if isLet s[k] = true then 1 else 2 := by
   unfold cutKind
   cases hl : isLet s[k]
   ·have hd : isDig s[k] = true := by unfold isWord at hw; rw [hl] at hw; simpa using hw
    rw [if_pos hd]; rfl
   ·rw [if_neg (by simp [let_dig hl]), if_pos rfl, if_pos rfl]
  rw [hkind]
  rw [cutEnd_word hk hw] at h hr ⊢
  rw [sCut_word hk hw, ← wEnd_in hk hw]
  split at h
  ·omega
  ·rename_i h0
   rw [if_neg h0] at hr ⊢
   refine ⟨?_, rfl⟩
   simp only; split <;> omega

def toks (s : ByteArray) (k : Nat) (sp : Bool) (n : Nat) : Option (List Tok) :=
 if h : k < s.size then
  if s[k].toNat = 32 then toks s (k + 1) true n
  else if cutEnd s k < 0 ∨ n = 60 then none
  else (toks s (max (k + 1) (cutEnd s k).toNat) false (n + 1)).map (⟨cutKind s[k], s.extract k (cutEnd s k).toNat, sp, []⟩ :: ·)
 else some []
termination_by s.size - k
def AtT (s : ByteArray) (k : Nat) (sp : Bool) (out : List Tok) : Prop := (toks s k sp out.length).map (out ++ ·) = toks s 0 false 0 ∧ out.length ≤ 60
theorem AtT.zero (s : ByteArray) : AtT s 0 false [] := ⟨by simp, by simp⟩
theorem AtT.space {s : ByteArray} {k : Nat} {sp : Bool} {out : List Tok} (h : AtT s k sp out) (hk : k < s.size) (hc : s[k].toNat = 32) : AtT s (k + 1) true out :=
 ⟨by rw [← h.1, toks.eq_def s k, dif_pos hk, if_pos hc], h.2⟩
theorem AtT.bad {s : ByteArray} {k : Nat} {sp : Bool} {out : List Tok} (h : AtT s k sp out) (hk : k < s.size) (hc : ¬ s[k].toNat = 32) (hb : cutEnd s k < 0 ∨ out.length = 60) : toks s 0 false 0 = none := by
 rw [← h.1, toks, dif_pos hk, if_neg hc, if_pos hb]; rfl
theorem AtT.tok {s : ByteArray} {k e : Nat} {sp : Bool} {out : List Tok} (h : AtT s k sp out) (hk : k < s.size) (hc : ¬ s[k].toNat = 32) (he : cutEnd s k = e) (hn : out.length ≠ 60) : AtT s e false (out ++ [⟨cutKind s[k], s.extract k e, sp, []⟩]) := by
 have hr := cutEnd_room (s := s) (k := k) (by omega)
 refine ⟨?_, by have := h.2; simp; omega⟩
 rw [← h.1, toks.eq_def s k, dif_pos hk, if_neg hc, if_neg (by omega), he, Int.toNat_natCast, Nat.max_eq_right (by omega), Option.map_map]
 rw [List.length_append]
 congr 1
 funext x
 simp
theorem AtT.done {s : ByteArray} {k : Nat} {sp : Bool} {out : List Tok} (h : AtT s k sp out) (hk : s.size ≤ k) : toks s 0 false 0 = some out := by
 rw [← h.1, toks, dif_neg (by omega)]; simp

def tokRes (s : ByteArray) : List Tok × Bool := if lineOk s = true then (match toks s 0 false 0 with | some l => (l, true) | none => ([], false)) else ([], false)
theorem tokRes_bad {s : ByteArray} (h : lineOk s = false) : tokRes s = ([], false) := by unfold tokRes; rw [if_neg (by simp [h])]
theorem tokRes_none {s : ByteArray} (h : toks s 0 false 0 = none) : tokRes s = ([], false) := by unfold tokRes; rw [h]; split <;> rfl
theorem tokRes_some {s : ByteArray} {l : List Tok} (h0 : lineOk s = true) (h : toks s 0 false 0 = some l) : tokRes s = (l, true) := by unfold tokRes; rw [if_pos h0, h]
def Fresh (B : Nat) (l : List Tok) : Prop := ∀ t ∈ l, t.text.size ≤ B ∧ t.hidden = [] ∧ 1 ≤ t.kind ∧ t.kind ≤ 4
theorem cutKind_in (c : UInt8) : 1 ≤ cutKind c ∧ cutKind c ≤ 4 := by unfold cutKind; split <;> (try split) <;> (try split) <;> omega
theorem Fresh.nil (B : Nat) : Fresh B [] := by intro t h; simp at h
theorem Fresh.snoc {B : Nat} {l : List Tok} {s : ByteArray} {k e : Nat} {sp : Bool} {c : UInt8} (h : Fresh B l) (hB : s.size ≤ B) : Fresh B (l ++ [⟨cutKind c, s.extract k e, sp, []⟩]) := by
 intro t ht
 rcases List.mem_append.1 ht with ht | ht
 ·exact h t ht
 ·have := cutKind_in c
  obtain rfl := List.mem_singleton.1 ht
  exact ⟨by show (s.extract k e).size ≤ B; rw [ByteArray.size_extract]; omega, rfl, this⟩

end Go.Proofs.YtlegeancmcmbaaaDoor

/- TokenValid: no program. -/
namespace Go.Proofs.YtlegeancmcmbaaaDoor
open Go.RowKit

theorem bytesLess_flip : ∀ (x y : List UInt8), Op.bytesLess x y = !(Op.bytesLess y x || y == x)
 | [], [] => rfl
 | _ :: _, [] => by simp [Op.bytesLess]
 | [], _ :: _ => by simp [Op.bytesLess]
 |
  a :: x, b :: y => by
  have ih := bytesLess_flip x y
  simp only [Op.bytesLess, ih]
  by_cases h : a = b
  ·subst h
   have h1 : decide (a < a) = false := by simp [UInt8.lt_irrefl]
   rw [h1]
   cases hL : Op.bytesLess y x <;> by_cases hE : y = x <;> simp [hE]
  ·have h2 : (a == b) = false := by simp [h]
   have h3 : (b == a) = false := by simp [Ne.symm h]
   have h4 : ((b :: y) == (a :: x)) = false := by simp [Ne.symm h]
   rw [h2, h3, h4]
   have : decide (a < b) = !decide (b < a) := by
    by_cases hl : a < b
    ·have := UInt8.lt_asymm hl; simp [hl, this]
    ·have : b < a := by
      rw [UInt8.lt_iff_toNat_lt] at hl ⊢
      have : a.toNat ≠ b.toNat := fun e => h (UInt8.toNat_inj.1 e)
      omega
     simp [hl, this]
   rw [this]; simp

def sLess (a b : ByteArray) : Bool := Op.bytesLess a.toList b.toList
theorem sLess_no {a b : ByteArray} (h : sLess a b = false) : (Op.bytesLess b.toList a.toList || b.toList == a.toList) = true := by
 unfold sLess at h; rw [bytesLess_flip] at h; cases hx : (Op.bytesLess b.toList a.toList || b.toList == a.toList)
 ·rw [hx] at h; exact absurd h (by decide)
 ·rfl
theorem sLess_yes {a b : ByteArray} (h : sLess a b = true) : (Op.bytesLess b.toList a.toList || b.toList == a.toList) = false := by
 unfold sLess at h; rw [bytesLess_flip] at h; simpa using h

theorem toks_fit (s : ByteArray) : ∀ (k : Nat) (sp : Bool) (n : Nat) (l : List Tok), toks s k sp n = some l → k ≤ s.size → ∀ t ∈ l, t.text.size ≤ s.size - k := by
 intro k sp n
 induction k, sp, n using toks.induct (s := s) with
 |
  case1 k sp n hk h32 ih =>
  intro l h hks t ht
  rw [toks, dif_pos hk, if_pos h32] at h
  have := ih l h (by omega) t ht
  omega
 |
  case2 k sp n hk h32 hb =>
  intro l h hks t ht
  rw [toks, dif_pos hk, if_neg h32, if_pos hb] at h
  exact absurd h (by simp)
 |
  case3 k sp n hk h32 hb ih =>
  intro l h hks t ht
  rw [toks, dif_pos hk, if_neg h32, if_neg hb] at h
  have hr := cutEnd_room (s := s) (k := k) (by omega)
  rw [Option.map_eq_some_iff] at h
  obtain ⟨l', h1, rfl⟩ := h
  rcases List.mem_cons.1 ht with rfl | ht
  ·show (s.extract k (cutEnd s k).toNat).size ≤ _; rw [ByteArray.size_extract]; omega
  ·have := ih l' h1 (by omega) t ht
   omega
 |
  case4 k sp n hk =>
  intro l h hks t ht
  rw [toks, dif_neg hk] at h
  simp only [Option.some.injEq] at h
  subst h; simp at ht
theorem toks_first {s : ByteArray} {t : Tok} {l : List Tok} (h : toks s 0 false 0 = some (t :: l)) (ht : t.text = s) : t.spaced = false := by
 by_cases h0 : 0 < s.size
 ·by_cases h32 : s[0].toNat = 32
  ·rw [toks, dif_pos h0, if_pos h32] at h
   have := toks_fit s 1 true 0 _ h (by omega) t (by simp)
   rw [ht] at this
   omega
  ·rw [toks, dif_pos h0, if_neg h32] at h
   split at h
   ·simp at h
   ·rw [Option.map_eq_some_iff] at h
    obtain ⟨l', _, h2⟩ := h
    simp only [List.cons.injEq] at h2
    rw [← h2.1]
 ·rw [toks, dif_neg h0] at h; simp at h
theorem tokRes_true {s : ByteArray} {l : List Tok} (h : tokRes s = (l, true)) : toks s 0 false 0 = some l ∧ lineOk s = true := by
 unfold tokRes at h
 cases h0 : lineOk s
 ·rw [h0, if_neg (by simp)] at h; simp at h
 ·rw [h0, if_pos rfl] at h
  cases h1 : toks s 0 false 0 with
  | none => rw [h1] at h; simp at h
  | some l' => rw [h1] at h; simp at h; rw [h]; exact ⟨rfl, rfl⟩
theorem tokRes_false {s : ByteArray} {l : List Tok} (h : tokRes s = (l, false)) : l = [] := by
 unfold tokRes at h
 split at h
 ·split at h
  ·simp at h
  ·simp at h; exact h
 ·simp at h; exact h

def oneTok (x : ByteArray) (k : Int) : Bool := (tokRes x).2 && decide ((tokRes x).1.length = 1) && (tokRes x).1.all (fun t => decide (t.kind = k) && decide (t.text = x))
theorem one_ways (x : ByteArray) (k : Int) :
  (tokRes x = ([], false) ∧ Hid (oneTok x k = false)) ∨
  (∃ l, tokRes x = (l, true) ∧ l.length ≠ 1 ∧ Hid (oneTok x k = false)) ∨
  (∃ t, tokRes x = ([t], true) ∧ t.kind ≠ k ∧ Hid (oneTok x k = false)) ∨
  (∃ t, tokRes x = ([t], true) ∧ t.kind = k ∧ t.text ≠ x ∧ Hid (oneTok x k = false)) ∨
  (∃ t, tokRes x = ([t], true) ∧ t.kind = k ∧ t.text = x ∧ t.spaced = false ∧ Hid (oneTok x k = true)) := by
 rcases hr : tokRes x with ⟨l, ok⟩
 cases ok
 ·obtain rfl := tokRes_false hr
  exact .inl ⟨rfl, by simp [Hid, oneTok, hr]⟩
 ·by_cases h1 : l.length = 1
  ·obtain ⟨t, rfl⟩ := List.length_eq_one_iff.1 h1
   by_cases h2 : t.kind = k
   ·by_cases h3 : t.text = x
    ·exact .inr (.inr (.inr (.inr ⟨t, rfl, h2, h3, toks_first (tokRes_true hr).1 h3, by simp [Hid, oneTok, hr, h2, h3]⟩)))
    ·exact .inr (.inr (.inr (.inl ⟨t, rfl, h2, h3, by simp [Hid, oneTok, hr, h2, h3]⟩)))
   ·exact .inr (.inr (.inl ⟨t, rfl, h2, by simp [Hid, oneTok, hr, h2]⟩))
  ·exact .inr (.inl ⟨l, rfl, h1, by simp [Hid, oneTok, hr, h1]⟩)

def hidOkAt (l : List ByteArray) (i : Nat) : Bool := if h : i < l.length then oneTok l[i] 1 && (decide (i = 0) || sLess (l[i - 1]'(by omega)) l[i]) else true
def hidOk (l : List ByteArray) : Bool := decide (l.length ≤ 60) && (List.range l.length).all (hidOkAt l)
def HidUpto (l : List ByteArray) (k : Nat) : Prop := ∀ j, j < k → hidOkAt l j = true
theorem HidUpto.zero (l : List ByteArray) : HidUpto l 0 := by intro j h; omega
theorem HidUpto.succ {l : List ByteArray} {k : Nat} (h : HidUpto l k) (h1 : hidOkAt l k = true) : HidUpto l (k + 1) := by
 intro j hj
 by_cases e : j = k
 ·subst e; exact h1
 ·exact h j (by omega)
theorem hidOk_long {l : List ByteArray} (h : 60 < l.length) : hidOk l = false := by unfold hidOk; rw [decide_eq_false (by omega)]; rfl
theorem hidOk_no {l : List ByteArray} {k : Nat} (hk : k < l.length) (h : hidOkAt l k = false) : hidOk l = false := by
 unfold hidOk
 have : (List.range l.length).all (hidOkAt l) = false := by
  rw [List.all_eq_false]; exact ⟨k, by simpa using hk, by simp [h]⟩
 rw [this, Bool.and_false]
theorem hidOk_yes {l : List ByteArray} {k : Nat} (h : HidUpto l k) (hk : l.length ≤ k) (hl : l.length ≤ 60) : hidOk l = true := by
 unfold hidOk
 rw [decide_eq_true hl, Bool.true_and, List.all_eq_true]
 intro i hi
 have : i < l.length := by simpa using hi
 exact h i (by omega)
theorem hidAt_name {l : List ByteArray} {k : Nat} (hk : k < l.length) (h : oneTok l[k] 1 = false) : hidOkAt l k = false := by unfold hidOkAt; rw [dif_pos hk, h]; rfl
theorem hidAt_less {l : List ByteArray} {k : Nat} (hk : k < l.length) (h0 : 0 < k) (h : sLess (l[k - 1]'(by omega)) l[k] = false) : hidOkAt l k = false := by
 unfold hidOkAt; rw [dif_pos hk, h, decide_eq_false (by omega)]; simp
theorem hidAt_first {l : List ByteArray} (hk : 0 < l.length) (h : oneTok l[0] 1 = true) : hidOkAt l 0 = true := by unfold hidOkAt; rw [dif_pos hk, h]; simp
theorem hidAt_later {l : List ByteArray} {k : Nat} (hk : k < l.length) (h0 : 0 < k) (h : oneTok l[k] 1 = true) (h2 : sLess (l[k - 1]'(by omega)) l[k] = true) : hidOkAt l k = true := by
 unfold hidOkAt; rw [dif_pos hk, h, h2]; simp
theorem hid_ways {l : List ByteArray} {k : Nat} (hk : k < l.length) :
  (oneTok l[k] 1 = false ∧ Hid (hidOkAt l k = false)) ∨ (oneTok l[k] 1 = true ∧ k = 0 ∧ Hid (hidOkAt l k = true)) ∨
  (∃ hp : 0 < k, oneTok l[k] 1 = true ∧ sLess (l[k - 1]'(by omega)) l[k] = false ∧ Hid (hidOkAt l k = false)) ∨
  (∃ hp : 0 < k, oneTok l[k] 1 = true ∧ sLess (l[k - 1]'(by omega)) l[k] = true ∧ Hid (hidOkAt l k = true)) := by
 cases h : oneTok l[k] 1
 ·exact .inl ⟨rfl, hidAt_name hk h⟩
 ·by_cases h0 : k = 0
  ·subst h0; exact .inr (.inl ⟨rfl, rfl, hidAt_first hk h⟩)
  ·cases h2 : sLess (l[k - 1]'(by omega)) l[k]
   ·exact .inr (.inr (.inl ⟨by omega, rfl, h2, hidAt_less hk (by omega) h2⟩))
   ·exact .inr (.inr (.inr ⟨by omega, rfl, h2, hidAt_later hk (by omega) h h2⟩))

def tokOk (t : Tok) : Bool := oneTok t.text t.kind && hidOk t.hidden

end Go.Proofs.YtlegeancmcmbaaaDoor
