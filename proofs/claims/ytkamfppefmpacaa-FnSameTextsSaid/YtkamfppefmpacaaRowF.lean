/- Rows of the call's own: literals, whole elements stored, rows behind rows. Over any program. -/
import Derived.Test.YtkamfppefmpacaaRowE
import Derived.Test.YtkamfppefmpacaaFill
import Derived.Laws.AppendOwnNone
namespace Go.Proofs.Ytkamfppefmpacaa
open Go.RowKit

section
variable {α : Type} {S : Shape α} {base : Nat} {e : TypeId} {v v' : Value} {L : List (Elem α)} {w w' : World}
/-- A literal's row. -/
theorem RowE.lit (X : List (Elem α)) (hlen : ∀ x ∈ X, x.cells.length = S.m) (hR : ∀ x ∈ X, S.R w x.cells x.d x.fp) (hlo : ∀ x ∈ X, ∀ b ∈ x.fp, base ≤ b) (hty : ∀ x ∈ X, ∀ b ∈ x.fp, ∃ cur t fr, w.heap[b]? = some (.cells cur t fr) ∧ t ≠ e)
    (hb : base ≤ w.heap.size) (hn : X.length ≤ 1000000) : RowE S base e (.slice (some ⟨w.heap.size, 0, none⟩) X.length X.length) X (w.alloc (.cells (X.flatMap (·.cells)).toArray e)) where
  row := World.ownsRow_lit (base := base) (e := e) (size := S.m) w (X.flatMap (·.cells)).toArray X.length hb (by unfold maxLen; omega) (by simpa using flatMap_len hlen)
  len := hlen
  el := fun x hx => S.below (hR x hx) (alloc_below' _ _)
  lo := hlo
  ty := fun x hx b hb' => by
    obtain ⟨cur, t, fr, h1, h2⟩ := hty x hx b hb'
    exact ⟨cur, t, fr, ((alloc_below' w _).block b (Array.getElem?_eq_some_iff.1 h1).1).trans h1, h2⟩
/-- What a row's slice reads, and in which blocks. -/
theorem RowE.read (h : RowE S base e v L w) : ∃ fp, (sSlice S).R w [v] (L.map (·.d)) fp ∧ ∀ b ∈ fp, base ≤ b := by
  obtain ⟨fp, h1, h2, _⟩ := slice_of_row h.row fun x hx => ⟨h.len x hx, h.el x hx⟩
  refine ⟨fp, h1, fun b hb => ?_⟩
  rcases h2 b hb with h3 | h3
  · exact h.mine b h3
  · obtain ⟨x, hx, hb'⟩ := List.mem_flatMap.1 h3
    exact h.lo x hx b hb'
theorem setFrom_flat : ∀ {L : List (Elem α)} {m : Nat} (_ : ∀ x ∈ L, x.cells.length = m) {k : Nat} (hk : k < L.length) (x' : Elem α) (_ : x'.cells.length = m), setFrom (L.flatMap (·.cells)) (k * m) x'.cells = (L.set k x').flatMap (·.cells) := by
  intro L m hL k hk x' hx'
  have h1 : L = L.take k ++ (L[k] :: L.drop (k + 1)) := by rw [List.getElem_cons_drop, List.take_append_drop]
  have h2 : (L.take k).length = k := by rw [List.length_take]; omega
  have h3 : ((L.take k).flatMap (·.cells)).length = k * m := by rw [flatMap_len (m := m) (fun x hx => hL x (List.mem_of_mem_take hx)), h2]
  have h4 : L.flatMap (·.cells) = (L.take k).flatMap (·.cells) ++ (L[k].cells ++ (L.drop (k + 1)).flatMap (·.cells)) := by
    conv => lhs; rw [h1]
    rw [List.flatMap_append, List.flatMap_cons]
  have h5 : L.set k x' = L.take k ++ (x' :: L.drop (k + 1)) := by rw [List.set_eq_take_append_cons_drop, if_pos hk]
  rw [h4, ← h3, setFrom_app _ _ _ _ (by rw [hL _ (List.getElem_mem hk), hx']), h5, List.flatMap_append, List.flatMap_cons]
/-- A whole element is stored. -/
theorem RowE.put {g n cap : Nat} (h : RowE S base e (.slice (some ⟨g, 0, none⟩) n cap) L w) {k : Nat} (hk : k < L.length) (x' : Elem α) (hl : x'.cells.length = S.m)
    (hR : S.R w x'.cells x'.d x'.fp) (hlo : ∀ b ∈ x'.fp, base ≤ b) (hty : ∀ b ∈ x'.fp, ∃ cur t fr, w.heap[b]? = some (.cells cur t fr) ∧ t ≠ e) :
    RowE S base e (.slice (some ⟨g, 0, none⟩) n cap) (L.set k x') (putAll w g (k * S.m) x'.cells) := by
  have hne : ∀ b : Nat, (∃ cur t fr, w.heap[b]? = some (.cells cur t fr) ∧ t ≠ e) → b ≠ g := by
    rintro b ⟨cur, t, fr, h1, h2⟩ rfl
    rcases h.row.2 with ⟨h', _⟩ | ⟨g', cap', cur', h', _, hg, _⟩
    · cases h'
    · simp only [Value.slice.injEq, Option.some.injEq, Addr.mk.injEq, and_true] at h'
      obtain ⟨rfl, _⟩ := h'
      rw [h1] at hg
      simp only [Option.some.injEq, Obj.cells.injEq] at hg
      exact h2 hg.2.1
  have hK := putAll_kept (g := g) x'.cells w (k * S.m)
  have hblk : ∀ b : Nat, b < w.heap.size → b ≠ g → (putAll w g (k * S.m) x'.cells).heap[b]? = w.heap[b]? := fun b hb hn => hK.block b hb (by simpa using hn)
  have hmem : ∀ x ∈ L.set k x', x = x' ∨ x ∈ L := fun x hx => by
    rcases List.mem_or_eq_of_mem_set hx with h | h
    · exact .inr h
    · exact .inl h
  refine ⟨?_, fun x hx' => ?_, fun x hx' => ?_, fun x hx' => ?_, fun x hx' => ?_⟩
  · have hn : L.length = n := by
      rcases h.row.2 with ⟨h', _⟩ | ⟨g', cap', cur, h', _⟩
      · cases h'
      · simp only [Value.slice.injEq] at h'; exact h'.2.1.symm
    have hrow := h.row
    rw [hn] at hrow
    have := putAll_row x'.cells w _ (k * S.m) hrow
    rw [setFrom_flat h.len hk x' hl] at this
    rw [List.length_set, hn]
    exact this
  · rcases hmem x hx' with rfl | hx'
    · exact hl
    · exact h.len x hx'
  · rcases hmem x hx' with rfl | hx'
    · exact S.frame (fun b hb => hblk b (S.lt hR b hb) (hne b (hty b hb))) hR
    · exact S.frame (fun b hb => hblk b (S.lt (h.el x hx') b hb) (hne b (h.ty x hx' b hb))) (h.el x hx')
  · rcases hmem x hx' with rfl | hx'
    · exact hlo
    · exact h.lo x hx'
  · intro b hb
    rcases hmem x hx' with rfl | hx'
    · obtain ⟨cur, t, fr, h1, h2⟩ := hty b hb
      exact ⟨cur, t, fr, (hblk b (Array.getElem?_eq_some_iff.1 h1).1 (hne b ⟨cur, t, fr, h1, h2⟩)).trans h1, h2⟩
    · obtain ⟨cur, t, fr, h1, h2⟩ := h.ty x hx' b hb
      exact ⟨cur, t, fr, (hblk b (Array.getElem?_eq_some_iff.1 h1).1 (hne b ⟨cur, t, fr, h1, h2⟩)).trans h1, h2⟩
end

/-- append(s, row...), the row one of the call's own. -/
theorem wp_append_rows {α : Type} {S : Shape α} {P : Program} {t e : TypeId} {z : Value} {bytes : Nat} (ti : TI P t e z S.m bytes) (hzs : z.cells.size = S.m) (h0 : 0 < S.m) (w : World) {L M : List (Elem α)} {ops : Array Oper} {rest : List Oper} {o : Oper} {a : Act} {Q : Exit → Act → World → Prop}
    (hg : o.guard = none) (s y : Operand) (ho : o.op = .call { callee := .builtin .append, args := #[s, y], argTypes := #[t, t] })
    (base : Nat) (v u : Value) (hs : a.eval s = v) (hown : RowE S base e v L w) (hy : a.eval y = u) (HM : RowE S base e u M w) (h1 : ∀ x ∈ M, ∀ u ∈ x.cells, u.oneCell' = true)
    (h63 : L.length + M.length ≤ maxLen) (hbytes : (L.length + M.length) * bytes ≤ 140737488355328) (hbase : base ≤ w.heap.size)
    (h : ∀ v' w', RowE S base e v' (L ++ M) w' → w.grownBy w' v.ownBlock → wpList P ops Q rest (a.put o.dst v') w') : wpList P ops Q (o :: rest) a w := by
  rcases HM.row.2 with ⟨rfl, hz⟩ | ⟨g, cap, cur, rfl, _⟩
  · have hM : M = [] := List.length_eq_zero_iff.1 hz
    subst hM
    obtain ⟨i, hi, hz0, hz1, hz2⟩ := info_parts ti.2
    refine wpList_append_own_none hg s y t ho base e i S.m ti.1 hi v L.length _ hs hown.row hy ?_
    exact h v w (by simpa using hown) ⟨rfl, rfl, rfl, Nat.le_refl _, fun _ _ _ => rfl⟩
  · refine wp_append_rowE ti hzs h0 w (X := M) hg s y ho base v hs hown g M.length cap hy rfl HM.len h1 ?_ HM.el HM.lo HM.ty h63 hbytes hbase h
    intro j u hj
    have hlt : j < (M.flatMap (·.cells)).length := (List.getElem?_eq_some_iff.1 hj).1
    rw [flatMap_len HM.len] at hlt
    rw [HM.row.cellAt j hlt]
    exact hj

/-- An operation whose guard holds is walked as one without. -/
theorem wpList_guarded {P : Program} {ops : Array Oper} {rest : List Oper} {a : Act} {w : World} {Q : Exit → Act → World → Prop} {d : Option Tmp} {op : Op} {ty : TypeId} {pos : String} {after : Array Edge} {g : Option (Nat × Bool)}
    (hw : Region.wanted (Oper.mk d op ty pos after g) (yielded ops a.tmps) = true) (h : wpList P ops Q (Oper.mk d op ty pos after none :: rest) a w) : wpList P ops Q (Oper.mk d op ty pos after g :: rest) a w := by
  unfold wpList at h ⊢
  rw [if_pos hw]
  rw [if_pos (show Region.wanted (Oper.mk d op ty pos after none) (yielded ops a.tmps) = true from rfl)] at h
  exact h

/-- .. and where the row lies then. -/
theorem wp_append_rowsB {α : Type} {S : Shape α} {P : Program} {t e : TypeId} {z : Value} {bytes : Nat} (ti : TI P t e z S.m bytes) (hzs : z.cells.size = S.m) (h0 : 0 < S.m) (w : World) {L M : List (Elem α)} {ops : Array Oper} {rest : List Oper} {o : Oper} {a : Act} {Q : Exit → Act → World → Prop}
    (hg : o.guard = none) (s y : Operand) (ho : o.op = .call { callee := .builtin .append, args := #[s, y], argTypes := #[t, t] })
    (base top : Nat) (v u : Value) (hs : a.eval s = v) (hown : RowE S base e v L w) (hy : a.eval y = u) (HM : RowE S base e u M w) (h1 : ∀ x ∈ M, ∀ u ∈ x.cells, u.oneCell' = true)
    (h63 : L.length + M.length ≤ maxLen) (hbytes : (L.length + M.length) * bytes ≤ 140737488355328) (hbase : base ≤ top) (htop : top ≤ w.heap.size) (hv : ∀ b, v.ownBlock = some b → top ≤ b)
    (h : ∀ v' w', RowE S base e v' (L ++ M) w' → w.grownBy w' v.ownBlock → (∀ b, v'.ownBlock = some b → top ≤ b) → wpList P ops Q rest (a.put o.dst v') w') : wpList P ops Q (o :: rest) a w := by
  obtain ⟨i, hi, hz0, hz1, hz2⟩ := info_parts ti.2
  rcases HM.row.2 with ⟨rfl, hz⟩ | ⟨g, cap, cur, rfl, _⟩
  · have hM : M = [] := List.length_eq_zero_iff.1 hz
    subst hM
    refine wpList_append_own_none hg s y t ho base e i S.m ti.1 hi v L.length _ hs hown.row hy ?_
    exact h v w (by simpa using hown) ⟨rfl, rfl, rfl, Nat.le_refl _, fun _ _ _ => rfl⟩ hv
  · have hrow2 : w.ownsRow top e S.m v L.length (L.flatMap (·.cells)) := ⟨hown.row.1, by
      rcases hown.row.2 with h0 | ⟨g, cap, cur, h1, h2, h3⟩
      · exact .inl h0
      · exact .inr ⟨g, cap, cur, h1, hv g (by rw [h1]; rfl), h3⟩⟩
    refine wpList_append_own _ hg s y t ho top e i z S.m bytes ti.1 hi hz0 hz1 hz2 hzs h0 v L.length _ hs hrow2 ⟨g, 0, none⟩ M.length cap (M.flatMap (·.cells)) hy (flatMap_len HM.len) ?_ ?_ h63 hbytes htop fun v' w' a b _ => h v' w' ?_ b (fun g hg => (a.lt g hg).1)
    · intro j u hj
      rw [addr_add, Nat.zero_add]
      have hlt : j < (M.flatMap (·.cells)).length := (List.getElem?_eq_some_iff.1 hj).1
      rw [flatMap_len HM.len] at hlt
      rw [HM.row.cellAt j hlt]
      exact hj
    · intro u hu
      obtain ⟨x, hx, hu⟩ := List.mem_flatMap.1 hu
      exact h1 x hx u hu
    · refine hown.appended ?_ b HM.len HM.el HM.lo HM.ty
      rw [List.length_append, List.flatMap_append]
      refine ⟨a.1, ?_⟩
      rcases a.2 with h0 | ⟨g, cap, cur, h1, h2, h3⟩
      · exact .inl h0
      · exact .inr ⟨g, cap, cur, h1, Nat.le_trans hbase h2, h3⟩

end Go.Proofs.Ytkamfppefmpacaa
