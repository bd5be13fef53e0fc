/- Rows of structs: elements of several cells. Over any program. -/
import Derived.Test.YtigbaeokccknaaaMake
import Derived.Test.YtigbaeokccknaaaLive
import Derived.Test.YtigbaeokccknaaaOpen
namespace Go.Proofs.Ytigbaeokccknaaa
open Go.RowKit

/-- append of one element of several cells, out of the literal's own block. -/
theorem wp_append_cells {P : Program} {t e : TypeId} {z : Value} {size bytes : Nat} (ti : TI P t e z size bytes) (hzs : z.cells.size = size) (h0 : 0 < size) (w0 : World) (xs : List Value) (x : List Value) (hxl : x.length = size) (hx1 : ∀ u ∈ x, u.oneCell' = true) {ops : Array Oper} {rest : List Oper} {o : Oper} {a : Act} {Q : Exit → Act → World → Prop}
    (hg : o.guard = none) (s y : Operand) (ho : o.op = .call { callee := .builtin .append, args := #[s, y], argTypes := #[t, t] })
    (base : Nat) (v : Value) (n : Nat) (hs : a.eval s = v) (hown : w0.ownsRow base e size v n xs)
    (hy : a.eval y = .slice (some ⟨w0.heap.size, 0, none⟩) 1 1)
    (h63 : n + 1 ≤ maxLen) (hbytes : (n + 1) * bytes ≤ 140737488355328) (hbase : base ≤ w0.heap.size)
    (h : ∀ v' w', w'.ownsRow base e size v' (n + 1) (xs ++ x) → w0.grownBy w' v.ownBlock → wpList P ops Q rest (a.put o.dst v') w') : wpList P ops Q (o :: rest) a (w0.alloc (.cells x.toArray e)) := by
  obtain ⟨i, hi, hz0, hz1, hz2⟩ := info_parts ti.2
  refine wpList_append_own _ hg s y t ho base e i z size bytes ti.1 hi hz0 hz1 hz2 hzs h0 v n xs hs (hown.alloc _) ⟨w0.heap.size, 0, none⟩ 1 1 x hy (by omega) ?_ hx1 h63 hbytes (by simp; omega) fun v' w' a b _ => h v' w' a (grown_trans (World.grownBy_alloc _ _ _) b)
  intro j u hj
  rw [addr_add, Nat.zero_add]
  rw [World.cell?_alloc_at _ _ _ _ rfl]
  simpa using hj

theorem flatMap_at {α : Type} {f : α → List Value} {m : Nat} : ∀ {L : List α} (_ : ∀ x ∈ L, (f x).length = m) {i : Nat} (hi : i < L.length) {j : Nat} (_ : j < m), (L.flatMap f)[i * m + j]? = (f L[i])[j]?
  | [], _, i, hi, _, _ => by simp at hi
  | x :: L, hL, 0, _, j, hj => by
    rw [List.flatMap_cons, List.getElem?_append_left (by rw [hL x (by simp)]; omega)]
    simp
  | x :: L, hL, i + 1, hi, j, hj => by
    have hx := hL x (by simp)
    have e : (i + 1) * m + j = m + (i * m + j) := by rw [Nat.succ_mul]; omega
    rw [List.flatMap_cons, List.getElem?_append_right (by rw [hx, e]; omega), hx, e, Nat.add_sub_cancel_left]
    exact flatMap_at (fun y hy => hL y (by simp [hy])) (by simpa using hi) hj
theorem flatMap_len {α : Type} {f : α → List Value} {m : Nat} : ∀ {L : List α}, (∀ x ∈ L, (f x).length = m) → (L.flatMap f).length = L.length * m
  | [], _ => by simp
  | x :: L, hL => by rw [List.flatMap_cons, List.length_append, hL x (by simp), flatMap_len (fun y hy => hL y (by simp [hy])), List.length_cons, Nat.succ_mul, Nat.add_comm]

/-- An element, its cells and the blocks behind them. -/
structure Elem (α : Type) where
  cells : List Value
  d : α
  fp : List Nat

theorem flat_range {L : List (List Nat)} : (List.range L.length).flatMap (fun i => L.getD i []) = L.flatten := by
  have : (List.range L.length).map (fun i => L.getD i []) = L := by
    apply List.ext_getElem (by simp)
    intro i h1 h2
    simp [List.getD_eq_getElem?_getD, List.getElem?_eq_getElem h2]
  rw [List.flatMap_def, this]

/-- A row of the call's own, as a slice; the blocks that it reads. -/
theorem slice_of_row {α : Type} {S : Shape α} {w : World} {base e : Nat} {v : Value} {L : List (Elem α)} (h : w.ownsRow base e S.m v L.length (L.flatMap (·.cells))) (hR : ∀ x ∈ L, x.cells.length = S.m ∧ S.R w x.cells x.d x.fp) :
    ∃ fp, (sSlice S).R w [v] (L.map (·.d)) fp ∧ (∀ b ∈ fp, v.ownBlock = some b ∨ b ∈ L.flatMap (·.fp)) ∧
      (Own w base (L.flatMap (·.fp)) → (∀ g, v.ownBlock = some g → g ∉ L.flatMap (·.fp)) → Own w base fp) := by
  by_cases h0 : L = []
  · subst h0
    rcases h.2 with ⟨rfl, _⟩ | ⟨g, cap, cur, rfl, hb, hg, hnc, hcm, hcs, htake⟩
    · exact ⟨[], ⟨none, 0, rfl, by simp, by simp, .inl ⟨rfl, rfl⟩⟩, by simp, fun _ _ => Own.nil _ _⟩
    · exact ⟨[], ⟨_, cap, rfl, by simp, hcm, .inl ⟨rfl, rfl⟩⟩, by simp, fun _ _ => Own.nil _ _⟩
  · have hpos : 0 < L.length := List.length_pos_iff.2 h0
    rcases h.2 with ⟨_, h1⟩ | ⟨g, cap, cur, rfl, hb, hg, hnc, hcm, hcs, htake⟩
    · omega
    · have hlt : g < w.heap.size := (Array.getElem?_eq_some_iff.1 hg).1
      have e1 : (List.range L.length).flatMap (fun i => (L.map (·.fp)).getD i []) = L.flatMap (·.fp) := by
        have := flat_range (L := L.map (·.fp))
        rw [List.length_map] at this
        rw [this, List.flatMap_def]
      refine ⟨g :: L.flatMap (·.fp), ⟨_, cap, by simp, by simpa using hnc, hcm, .inr ⟨by simpa using hpos, g, 0, fun i => (L.map (·.fp)).getD i [], rfl, by rw [List.length_map, e1], hlt, fun i hi => ?_⟩⟩, ?_, ?_⟩
      · have hi' : i < L.length := by simpa using hi
        have hx := hR L[i] (List.getElem_mem hi')
        refine ⟨L[i].cells, ⟨hx.1, fun j hj => ?_⟩, ?_⟩
        · rw [Nat.zero_add, h.cellAt (i * S.m + j) (by have : (i + 1) * S.m ≤ L.length * S.m := Nat.mul_le_mul_right _ hi'; rw [Nat.succ_mul] at this; omega)]
          exact flatMap_at (f := Elem.cells) (fun x hx => (hR x hx).1) hi' hj
        · have e2 : (L.map (·.fp)).getD i [] = L[i].fp := by simp [List.getD_eq_getElem?_getD, List.getElem?_eq_getElem hi']
          show S.R w L[i].cells (L.map (·.d))[i] ((L.map (·.fp)).getD i [])
          rw [e2]
          simpa using hx.2
      · intro b hb'
        rcases List.mem_cons.1 hb' with rfl | hb'
        · exact .inl rfl
        · exact .inr hb'
      · intro ho hn
        exact ⟨List.nodup_cons.2 ⟨hn g rfl, ho.1⟩, fun b hb' => by
          rcases List.mem_cons.1 hb' with rfl | hb'
          · exact ⟨hb, cur, e, hg⟩
          · exact ho.2 b hb'⟩

/-- A slice of structs, opened: its value, its elements' cells. -/
theorem open_rows {α : Type} {S : Shape α} {w : World} {v : Value} {l : List α} {fp : List Nat} (H : (sSlice S).R w [v] l fp) :
    ∃ a cap, v = .slice a l.length cap ∧ l.length ≤ cap ∧ cap ≤ maxLen ∧ (0 < l.length → ∃ b off fps, a = some ⟨b, off, none⟩ ∧ b < w.heap.size ∧ fp = b :: (List.range l.length).flatMap fps ∧ ∀ i, (hi : i < l.length) → ∃ es, ElemAt w b off S.m i es ∧ S.R w es l[i] (fps i)) := by
  obtain ⟨a, cap, hv, hc, hm, h⟩ := H
  refine ⟨a, cap, by simpa using hv, hc, hm, fun h0 => ?_⟩
  rcases h with ⟨rfl, _⟩ | ⟨_, b, off, fps, rfl, rfl, hb, he⟩
  · simp at h0
  · exact ⟨b, off, fps, rfl, hb, rfl, he⟩

/-- The element i turns (its cells in block b, what lies behind it); all else of the row stands. -/
theorem row_upd {α : Type} {S : Shape α} {w w' : World} {b off n cap : Nat} {l : List α} {fps : Nat → List Nat} (hn : l.length = n) (hc : n ≤ cap) (hm : cap ≤ maxLen) (h0 : 0 < n)
    (he : ∀ i, (hi : i < l.length) → ∃ es, ElemAt w b off S.m i es ∧ S.R w es l[i] (fps i)) {i : Nat} {d : α} {es' : List Value}
    (hb : b < w'.heap.size) (hcell : ∀ j k, j < n → j ≠ i → k < S.m → w'.cell? ⟨b, off + j * S.m + k, none⟩ = w.cell? ⟨b, off + j * S.m + k, none⟩)
    (hother : ∀ j, j < n → j ≠ i → ∀ x ∈ fps j, w'.heap[x]? = w.heap[x]?)
    (hi' : ElemAt w' b off S.m i es') (hR : S.R w' es' d (fps i)) :
    (sSlice S).R w' [.slice (some ⟨b, off, none⟩) n cap] (l.set i d) (b :: (List.range n).flatMap fps) := by
  subst hn
  refine ⟨_, cap, by simp, by simpa using hc, hm, .inr ⟨by simpa using h0, b, off, fps, rfl, by simp, hb, fun j hj => ?_⟩⟩
  have hj' : j < l.length := by simpa using hj
  by_cases e : j = i
  · subst e
    rw [List.getElem_set_self]
    exact ⟨es', hi', hR⟩
  · obtain ⟨es, h1, h2⟩ := he j hj'
    rw [List.getElem_set_ne (fun h => e h.symm)]
    exact ⟨es, ⟨h1.1, fun k hk => (hcell j k hj' e hk).trans (h1.2 k hk)⟩, S.frame (hother j hj' e) h2⟩

end Go.Proofs.Ytigbaeokccknaaa
