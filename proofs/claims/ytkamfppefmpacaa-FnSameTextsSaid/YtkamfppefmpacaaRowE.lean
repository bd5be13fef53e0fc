/- Rows of the call's own whose elements have memory behind them. Over any program. -/
import Derived.Test.YtkamfppefmpacaaRecK
namespace Go.Proofs.Ytkamfppefmpacaa
open Go.RowKit

structure RowE {α : Type} (S : Shape α) (base : Nat) (e : TypeId) (v : Value) (L : List (Elem α)) (w : World) : Prop where
  row : w.ownsRow base e S.m v L.length (L.flatMap (·.cells))
  len : ∀ x ∈ L, x.cells.length = S.m
  el : ∀ x ∈ L, S.R w x.cells x.d x.fp
  lo : ∀ x ∈ L, ∀ b ∈ x.fp, base ≤ b
  ty : ∀ x ∈ L, ∀ b ∈ x.fp, ∃ cur t fr, w.heap[b]? = some (.cells cur t fr) ∧ t ≠ e

section
variable {α : Type} {S : Shape α} {base : Nat} {e : TypeId} {v v' : Value} {L : List (Elem α)} {w w' : World}
theorem ownsRow_same {n : Nat} {xs : List Value} {m : Nat} (h : w.ownsRow base e m v n xs) (hb : ∀ g, v.ownBlock = some g → w'.heap[g]? = w.heap[g]?) : w'.ownsRow base e m v n xs := by
  refine ⟨h.1, ?_⟩
  rcases h.2 with h0 | ⟨g, cap, cur, h1, h2, h3, h4⟩
  · exact .inl h0
  · exact .inr ⟨g, cap, cur, h1, h2, (hb g (by rw [h1]; rfl)).trans h3, h4⟩
theorem RowE.same (h : RowE S base e v L w) (hb : ∀ b, b < w.heap.size → base ≤ b → w'.heap[b]? = w.heap[b]?) : RowE S base e v L w' where
  row := ownsRow_same h.row fun g hg => by
    have := h.row.lt g hg
    exact hb g this.2 this.1
  len := h.len
  el := fun x hx => S.frame (fun b hb' => hb b (S.lt (h.el x hx) b hb') (h.lo x hx b hb')) (h.el x hx)
  lo := h.lo
  ty := fun x hx b hb' => by
    obtain ⟨cur, t, fr, h1, h2⟩ := h.ty x hx b hb'
    exact ⟨cur, t, fr, (hb b (S.lt (h.el x hx) b hb') (h.lo x hx b hb')).trans h1, h2⟩
theorem RowE.below (h : RowE S base e v L w) (hb : Below w.heap.size w w') : RowE S base e v L w' := h.same fun b hb' _ => hb.block b hb'
theorem RowE.keptR {rb : Nat} (h : RowE S base e v L w) (hk : Kept [rb] w w') (hr : rb < base) : RowE S base e v L w' := h.same fun b hb hl => hk.block b hb (by simp; omega)
theorem RowE.lower {base' : Nat} (h : RowE S base e v L w) (hl : base' ≤ base) : RowE S base' e v L w where
  row := ⟨h.row.1, by
    rcases h.row.2 with h0 | ⟨g, cap, cur, h1, h2, h3⟩
    · exact .inl h0
    · exact .inr ⟨g, cap, cur, h1, Nat.le_trans hl h2, h3⟩⟩
  len := h.len
  el := h.el
  lo := fun x hx b hb => Nat.le_trans hl (h.lo x hx b hb)
  ty := h.ty
theorem RowE.nil (S : Shape α) (base : Nat) (e : TypeId) (w : World) : RowE S base e (.slice none 0 0) [] w := ⟨World.ownsRow_nil _ _ _ _, by simp, by simp, by simp, by simp⟩
theorem RowE.val (h : RowE S base e v L w) : ∃ a cap, v = .slice a L.length cap ∧ L.length ≤ cap ∧ cap ≤ maxLen ∧ (0 < L.length → ∃ g, a = some ⟨g, 0, none⟩ ∧ base ≤ g ∧ g < w.heap.size) := by
  rcases h.row.2 with ⟨rfl, h0⟩ | ⟨g, cap, cur, rfl, hb, hg, hn, hc, _⟩
  · exact ⟨none, 0, by rw [h0], by omega, by simp, fun h => by omega⟩
  · exact ⟨_, cap, rfl, hn, hc, fun _ => ⟨g, rfl, hb, (Array.getElem?_eq_some_iff.1 hg).1⟩⟩
theorem RowE.mine (h : RowE S base e v L w) : ∀ b, v.ownBlock = some b → base ≤ b := fun b hb => (h.row.lt b hb).1
theorem RowE.slice (h : RowE S base e v L w) : ∃ fp, (sSlice S).R w [v] (L.map (·.d)) fp := by
  obtain ⟨fp, h1, _⟩ := slice_of_row h.row fun x hx => ⟨h.len x hx, h.el x hx⟩
  exact ⟨fp, h1⟩
/-- The blocks behind an element are not the row's. -/
theorem RowE.ap (h : RowE S base e v L w) {x : Elem α} (hx : x ∈ L) {b : Nat} (hb : b ∈ x.fp) : v.ownBlock ≠ some b := by
  intro hv
  obtain ⟨cur, t, fr, h1, h2⟩ := h.ty x hx b hb
  rcases h.row.2 with ⟨rfl, _⟩ | ⟨g, cap, cur', rfl, _, hg, _⟩
  · simp [Value.ownBlock] at hv
  · simp only [Value.ownBlock, Option.some.injEq] at hv
    subst hv
    rw [h1] at hg
    simp only [Option.some.injEq, Obj.cells.injEq] at hg
    exact h2 hg.2.1
theorem RowE.frozen {g n cap : Nat} (h : RowE S base e (.slice (some ⟨g, 0, none⟩) n cap) L w) (o : Nat) : w.frozen? ⟨g, o, none⟩ = false := by
  rcases h.row.2 with ⟨h', _⟩ | ⟨g', cap', cur, h', _, hg, _⟩
  · cases h'
  · simp only [Value.slice.injEq, Option.some.injEq, Addr.mk.injEq, and_true] at h'
    obtain ⟨rfl, _⟩ := h'
    exact frozen_of_row w g o cur e hg
/-- An element's cells. -/
theorem RowE.cellAt {g n cap : Nat} (h : RowE S base e (.slice (some ⟨g, 0, none⟩) n cap) L w) {k : Nat} (hk : k < L.length) {j : Nat} (hj : j < S.m) {u : Value} (hu : L[k].cells[j]? = some u) : w.cell? ⟨g, k * S.m + j, none⟩ = some u := by
  have hn : L.length = n := by
    rcases h.row.2 with ⟨h', _⟩ | ⟨g', cap', cur, h', _⟩
    · cases h'
    · simp only [Value.slice.injEq] at h'; exact h'.2.1.symm
  subst hn
  rw [h.row.cellAt (k * S.m + j) (by have : (k + 1) * S.m ≤ L.length * S.m := Nat.mul_le_mul_right _ hk; rw [Nat.succ_mul] at this; omega)]
  exact (flatMap_at (f := Elem.cells) h.len hk hj).trans hu
theorem flatMap_set {f : Elem α → List Value} {m : Nat} : ∀ {L : List (Elem α)} (_ : ∀ x ∈ L, (f x).length = m) {k : Nat} (hk : k < L.length) {j : Nat} (_ : j < m) (u : Value) (x' : Elem α) (_ : f x' = (f L[k]).set j u), (L.flatMap f).set (k * m + j) u = (L.set k x').flatMap f
  | [], _, k, hk, _, _, _, _, _ => by simp at hk
  | x :: L, hL, 0, _, j, hj, u, x', hx => by
    simp only [List.flatMap_cons, List.set_cons_zero, Nat.zero_mul, Nat.zero_add]
    rw [List.set_append_left _ _ (by rw [hL x (by simp)]; exact hj), hx]; rfl
  | x :: L, hL, k + 1, hk, j, hj, u, x', hx => by
    have hl := hL x (by simp)
    have e : (k + 1) * m + j = m + (k * m + j) := by rw [Nat.succ_mul]; omega
    simp only [List.flatMap_cons, List.set_cons_succ]
    rw [List.set_append_right _ _ (by rw [hl, e]; omega), hl, e, Nat.add_sub_cancel_left]
    rw [flatMap_set (fun y hy => hL y (by simp [hy])) (by simpa using hk) hj u x' (by simpa using hx)]
/-- A store into an element. -/
theorem RowE.set {g n cap : Nat} (h : RowE S base e (.slice (some ⟨g, 0, none⟩) n cap) L w) {k : Nat} (hk : k < L.length) {j : Nat} (hj : j < S.m) (u : Value) (x' : Elem α) (hx : x'.cells = L[k].cells.set j u)
    (hR : S.R w x'.cells x'.d x'.fp) (hlo : ∀ b ∈ x'.fp, base ≤ b) (hty : ∀ b ∈ x'.fp, ∃ cur t fr, w.heap[b]? = some (.cells cur t fr) ∧ t ≠ e) :
    RowE S base e (.slice (some ⟨g, 0, none⟩) n cap) (L.set k x') (w.setCell ⟨g, k * S.m + j, none⟩ u) := by
  have hne : ∀ b : Nat, (∃ cur t fr, w.heap[b]? = some (.cells cur t fr) ∧ t ≠ e) → b ≠ g := by
    rintro b ⟨cur, t, fr, h1, h2⟩ rfl
    rcases h.row.2 with ⟨h', _⟩ | ⟨g', cap', cur', h', _, hg, _⟩
    · cases h'
    · simp only [Value.slice.injEq, Option.some.injEq, Addr.mk.injEq, and_true] at h'
      obtain ⟨rfl, _⟩ := h'
      rw [h1] at hg
      simp only [Option.some.injEq, Obj.cells.injEq] at hg
      exact h2 hg.2.1
  have hblk : ∀ b : Nat, b ≠ g → (w.setCell ⟨g, k * S.m + j, none⟩ u).heap[b]? = w.heap[b]? := fun b hb => Below.heap_setCell _ _ _ _ hb
  have hmem : ∀ x ∈ L.set k x', x = x' ∨ x ∈ L := fun x hx => by
    rcases List.mem_or_eq_of_mem_set hx with h | h
    · exact .inr h
    · exact .inl h
  refine ⟨?_, fun x hx' => ?_, fun x hx' => ?_, fun x hx' => ?_, fun x hx' => ?_⟩
  · have hn : L.length = n := by
      rcases h.row.2 with ⟨h', _⟩ | ⟨g', cap', cur, h', _⟩
      · cases h'
      · simp only [Value.slice.injEq] at h'; exact h'.2.1.symm
    have hrow := h.row
    rw [hn] at hrow
    have := (hrow.stored (k * S.m + j) u).1
    rw [flatMap_set h.len hk hj u x' hx] at this
    rw [List.length_set, hn]
    exact this
  · rcases hmem x hx' with rfl | hx'
    · rw [hx, List.length_set]; exact h.len _ (List.getElem_mem hk)
    · exact h.len x hx'
  · rcases hmem x hx' with rfl | hx'
    · exact S.frame (fun b hb => hblk b (hne b (hty b hb))) hR
    · exact S.frame (fun b hb => hblk b (hne b (h.ty x hx' b hb))) (h.el x hx')
  · rcases hmem x hx' with rfl | hx'
    · exact hlo
    · exact h.lo x hx'
  · intro b hb
    rcases hmem x hx' with rfl | hx'
    · obtain ⟨cur, t, fr, h1, h2⟩ := hty b hb
      exact ⟨cur, t, fr, (hblk b (hne b ⟨cur, t, fr, h1, h2⟩)).trans h1, h2⟩
    · obtain ⟨cur, t, fr, h1, h2⟩ := h.ty x hx' b hb
      exact ⟨cur, t, fr, (hblk b (hne b ⟨cur, t, fr, h1, h2⟩)).trans h1, h2⟩
/-- Elements appended. -/
theorem RowE.appended (h : RowE S base e v L w) {X : List (Elem α)} (hrow : w'.ownsRow base e S.m v' (L ++ X).length ((L ++ X).flatMap (·.cells))) (hg : w.grownBy w' v.ownBlock)
    (hlen : ∀ x ∈ X, x.cells.length = S.m) (hR : ∀ x ∈ X, S.R w x.cells x.d x.fp) (hlo : ∀ x ∈ X, ∀ b ∈ x.fp, base ≤ b) (hty : ∀ x ∈ X, ∀ b ∈ x.fp, ∃ cur t fr, w.heap[b]? = some (.cells cur t fr) ∧ t ≠ e) :
    RowE S base e v' (L ++ X) w' := by
  have hne : ∀ b : Nat, (∃ cur t fr, w.heap[b]? = some (.cells cur t fr) ∧ t ≠ e) → w'.heap[b]? = w.heap[b]? := by
    rintro b ⟨cur, t, fr, h1, h2⟩
    refine hg.block b (Array.getElem?_eq_some_iff.1 h1).1 fun hv => ?_
    rcases h.row.2 with ⟨rfl, _⟩ | ⟨g', cap', cur', rfl, _, hg', _⟩
    · simp [Value.ownBlock] at hv
    · simp only [Value.ownBlock, Option.some.injEq] at hv
      subst hv
      rw [h1] at hg'
      simp only [Option.some.injEq, Obj.cells.injEq] at hg'
      exact h2 hg'.2.1
  refine ⟨hrow, fun x hx => ?_, fun x hx => ?_, fun x hx => ?_, fun x hx b hb => ?_⟩ <;> rcases List.mem_append.1 hx with hx | hx
  · exact h.len x hx
  · exact hlen x hx
  · exact S.frame (fun b hb => hne b (h.ty x hx b hb)) (h.el x hx)
  · exact S.frame (fun b hb => hne b (hty x hx b hb)) (hR x hx)
  · exact h.lo x hx
  · exact hlo x hx
  · obtain ⟨cur, t, fr, h1, h2⟩ := h.ty x hx b hb
    exact ⟨cur, t, fr, (hne b ⟨cur, t, fr, h1, h2⟩).trans h1, h2⟩
  · obtain ⟨cur, t, fr, h1, h2⟩ := hty x hx b hb
    exact ⟨cur, t, fr, (hne b ⟨cur, t, fr, h1, h2⟩).trans h1, h2⟩
end

/-- append of elements out of a literal's own block, or of any row that can be read. -/
theorem wp_append_rowE {α : Type} {S : Shape α} {P : Program} {t e : TypeId} {z : Value} {bytes : Nat} (ti : TI P t e z S.m bytes) (hzs : z.cells.size = S.m) (h0 : 0 < S.m) (w : World) {L X : List (Elem α)} {ops : Array Oper} {rest : List Oper} {o : Oper} {a : Act} {Q : Exit → Act → World → Prop}
    (hg : o.guard = none) (s y : Operand) (ho : o.op = .call { callee := .builtin .append, args := #[s, y], argTypes := #[t, t] })
    (base : Nat) (v : Value) (hs : a.eval s = v) (hown : RowE S base e v L w) (g m c : Nat) (hy : a.eval y = .slice (some ⟨g, 0, none⟩) m c) (hm : X.length = m)
    (hlen : ∀ x ∈ X, x.cells.length = S.m) (h1 : ∀ x ∈ X, ∀ u ∈ x.cells, u.oneCell' = true) (hcell : ∀ j u, (X.flatMap (·.cells))[j]? = some u → w.cell? ⟨g, j, none⟩ = some u)
    (hR : ∀ x ∈ X, S.R w x.cells x.d x.fp) (hlo : ∀ x ∈ X, ∀ b ∈ x.fp, base ≤ b) (hty : ∀ x ∈ X, ∀ b ∈ x.fp, ∃ cur t fr, w.heap[b]? = some (.cells cur t fr) ∧ t ≠ e)
    (h63 : L.length + m ≤ maxLen) (hbytes : (L.length + m) * bytes ≤ 140737488355328) (hbase : base ≤ w.heap.size)
    (h : ∀ v' w', RowE S base e v' (L ++ X) w' → w.grownBy w' v.ownBlock → wpList P ops Q rest (a.put o.dst v') w') : wpList P ops Q (o :: rest) a w := by
  obtain ⟨i, hi, hz0, hz1, hz2⟩ := info_parts ti.2
  subst hm
  refine wpList_append_own _ hg s y t ho base e i z S.m bytes ti.1 hi hz0 hz1 hz2 hzs h0 v L.length _ hs hown.row ⟨g, 0, none⟩ X.length c (X.flatMap (·.cells)) hy (flatMap_len hlen) ?_ ?_ h63 hbytes hbase fun v' w' a b _ => h v' w' ?_ b
  · intro j u hj
    rw [addr_add, Nat.zero_add]
    exact hcell j u hj
  · intro u hu
    obtain ⟨x, hx, hu⟩ := List.mem_flatMap.1 hu
    exact h1 x hx u hu
  · refine hown.appended ?_ b hlen hR hlo hty
    rw [List.length_append, List.flatMap_append]
    exact a

end Go.Proofs.Ytkamfppefmpacaa
