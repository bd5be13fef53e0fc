/- Texts that the proof of U stands on, in one file. -/
import Derived.Test.YtbkmapaieillmaaZU8
import Derived.Test.YtbkmapaieillmaaZU6
import Derived.Test.YtbkmapaieillmaaShelf
import Derived.Test.YtbkmapaieillmaaZU1
import Derived.Laws.AppendOwnNone
import Derived.Test.YtbkmapaieillmaaZU7
set_option linter.unusedVariables false
set_option linter.unusedSimpArgs false
/- A macro's copy, and a table's, as the call's own memory. (Made by gen_ownm.py.) -/
namespace Go.Proofs.Ytbkmapaieillmaa
open Go.RowKit
/-- Four cells of a result. -/
def setM (w : World) (g : Nat) (v0 v1 v2 v3 : Value) : World := (((w.setCell ⟨g, 0, none⟩ v0).setCell ⟨g, 1, none⟩ v1).setCell ⟨g, 2, none⟩ v2).setCell ⟨g, 3, none⟩ v3
theorem setM_at {w : World} {g : Nat} {z0 z1 z2 z3 : Value} {ty : TypeId} (h : w.heap[g]? = some (.cells #[z0, z1, z2, z3] ty (0, 0))) (v0 v1 v2 v3 : Value) :
    (setM w g v0 v1 v2 v3).heap[g]? = some (.cells #[v0, v1, v2, v3] ty (0, 0)) := blk_set (blk_set (blk_set (blk_set h 0 _) 1 _) 2 _) 3 _
theorem setM_far {w : World} {g b : Nat} (h : b ≠ g) (v0 v1 v2 v3 : Value) : (setM w g v0 v1 v2 v3).heap[b]? = w.heap[b]? := by
  unfold setM
  rw [Below.heap_setCell _ _ _ _ h, Below.heap_setCell _ _ _ _ h, Below.heap_setCell _ _ _ _ h, Below.heap_setCell _ _ _ _ h]
theorem setM_below {B : Nat} {w0 w : World} (hB : Below B w0 w) {g : Nat} (hg : B ≤ g) (v0 v1 v2 v3 : Value) : Below B w0 (setM w g v0 v1 v2 v3) :=
  ((((hB).setCell (p := ⟨g, 0, none⟩) hg v0).setCell (p := ⟨g, 1, none⟩) hg v1).setCell (p := ⟨g, 2, none⟩) hg v2).setCell (p := ⟨g, 3, none⟩) hg v3
end Go.Proofs.Ytbkmapaieillmaa

/- A table's copy, as the call's own memory (spec). -/
namespace Go.Proofs.Ytbkmapaieillmaa
open Go.RowKit
theorem mac_one (w : World) (cs : List Value) (x : DMacro) (fp : List Nat) (h : sMacro.R w cs x fp) : ∀ u ∈ cs, u.oneCell' = true := by
  obtain ⟨h2, h3, p2, p3, rfl, -, K2, K3, -⟩ := h
  obtain ⟨a2, c2, rfl, -⟩ := open_strs K2
  obtain ⟨a3, c3, rfl, -⟩ := open_rows K3
  intro u hu
  simp only [List.mem_cons, List.not_mem_nil, or_false] at hu
  rcases hu with rfl | rfl | rfl | rfl <;> rfl
/-- A macro of no great size. -/
def MacSm (x : DMacro) : Prop := x.params.length ≤ 2000000 ∧ x.body.length ≤ 1048576 ∧ ∀ k, (hk : k < x.body.length) → x.body[k].hidden.length ≤ 2000000
/-- A table's copy. -/
def OwnTab (l : List DMacro) (w : World) (e : Ending) (w' : World) : Prop := ∃ v fp, e = .returned v ∧ (sSlice sMacro).R w' [v] l fp ∧ (∀ b ∈ fp, w.heap.size ≤ b) ∧ Below w.heap.size w w'

end Go.Proofs.Ytbkmapaieillmaa

/- Undefine (spec). -/
namespace Go.Proofs.Ytbkmapaieillmaa
open Go.RowKit

def keepN (nm : ByteArray) (m : DMacro) : Bool := !(m.name.toList == nm.toList)
def unDef (l : List DMacro) (nm : ByteArray) : List DMacro := if tabOk l = true then l.filter (keepN nm) else []
/-- A table that a call returns. -/
def RetTab (l : List DMacro) (w : World) (e : Ending) (w' : World) : Prop := ∃ v fp, e = .returned v ∧ (sSlice sMacro).R w' [v] l fp ∧ (∀ b ∈ fp, w.heap.size ≤ b) ∧ Below w.heap.size w w'
theorem filter_take {α : Type} (p : α → Bool) {l : List α} {k : Nat} (h : k < l.length) : (l.take (k + 1)).filter p = if p l[k] = true then (l.take k).filter p ++ [l[k]] else (l.take k).filter p := by
  rw [List.take_succ_eq_append_getElem h, List.filter_append]
  cases hp : p l[k] <;> simp [hp]

end Go.Proofs.Ytbkmapaieillmaa

/- SameMacro of both. -/
namespace Go.Proofs.Ytbkmapaieillmaa
open Go.RowKit

/-! ### Lists that agree at every place -/
def EqU {α β : Type} (f : α → β) (a b : List α) (k : Nat) : Prop := ∀ j, (h : j < a.length) → (h' : j < b.length) → j < k → f a[j] = f b[j]
section
variable {α β : Type} {f : α → β} {a b : List α} {k : Nat}
theorem EqU.zero (f : α → β) (a b : List α) : EqU f a b 0 := by intro j _ _ h; omega
theorem EqU.succ (h : EqU f a b k) (h1 : k < a.length) (h2 : k < b.length) (e : f a[k] = f b[k]) : EqU f a b (k + 1) := by
  intro j hj hj' hjk
  by_cases e' : j = k
  · subst e'; exact e
  · exact h j hj hj' (by omega)
theorem EqU.yes (h : EqU f a b k) (hl : a.length = b.length) (hk : a.length ≤ k) : a.map f = b.map f := by
  refine List.ext_getElem (by simpa using hl) fun i h1 h2 => ?_
  simp only [List.length_map] at h1 h2
  rw [List.getElem_map, List.getElem_map]
  exact h i h1 h2 (by omega)
theorem eqU_no (h1 : k < a.length) (h2 : k < b.length) (e : f a[k] ≠ f b[k]) : a.map f ≠ b.map f := by
  intro e'
  have := List.getElem_of_eq e' (i := k) (by simpa using h1)
  rw [List.getElem_map, List.getElem_map] at this
  exact e this
end

def spOf (t : Tok) : Bool := t.spaced
def bodySame (a b : List Tok) : Bool := sameTx a b && decide (a.map spOf = b.map spOf)
def sameMac (x y : DMacro) : Bool := decide (x.name = y.name) && decide (x.function = y.function) && decide (x.params = y.params) && bodySame x.body y.body
theorem sameTx_len {a b : List Tok} (h : sameTx a b = true) : a.length = b.length := by
  by_cases e : a.length = b.length
  · exact e
  · rw [same_len e] at h; simp at h
theorem sameMac_name {x y : DMacro} (h : x.name ≠ y.name) : sameMac x y = false := by unfold sameMac; rw [decide_eq_false h]; rfl
theorem sameMac_fun {x y : DMacro} (h : x.function ≠ y.function) : sameMac x y = false := by unfold sameMac; rw [decide_eq_false h, Bool.and_false]; rfl
theorem sameMac_par {x y : DMacro} (h : x.params ≠ y.params) : sameMac x y = false := by unfold sameMac; rw [decide_eq_false h, Bool.and_false]; rfl
theorem sameMac_bod {x y : DMacro} (h : bodySame x.body y.body = false) : sameMac x y = false := by unfold sameMac; rw [h, Bool.and_false]
theorem sameMac_yes {x y : DMacro} (h0 : x.name = y.name) (h1 : x.function = y.function) (h2 : x.params = y.params) (h3 : bodySame x.body y.body = true) : sameMac x y = true := by
  unfold sameMac; rw [h3, decide_eq_true h0, decide_eq_true h1, decide_eq_true h2]; rfl
theorem bodySame_tx {a b : List Tok} (h : sameTx a b = false) : bodySame a b = false := by unfold bodySame; rw [h]; rfl
theorem bodySame_sp {a b : List Tok} (h : a.map spOf ≠ b.map spOf) : bodySame a b = false := by unfold bodySame; rw [decide_eq_false h, Bool.and_false]
theorem bodySame_yes {a b : List Tok} (h : sameTx a b = true) (h2 : a.map spOf = b.map spOf) : bodySame a b = true := by unfold bodySame; rw [h, decide_eq_true h2]; rfl

/-! ### slices.Equal at texts -/
theorem getD_at {l : List ByteArray} {j : Nat} (h : j < l.length) (d : ByteArray) : l.getD j d = l[j] := by simp [List.getD_eq_getElem?_getD, List.getElem?_eq_getElem h]
theorem blk2 {w w' : World} {a b : Nat} {x y : Obj} (h : w.heap[a]? = some x ∧ w.heap[b]? = some y) (hb : Below w.heap.size w w') : w'.heap[a]? = some x ∧ w'.heap[b]? = some y :=
  ⟨(hb.block _ (Array.getElem?_eq_some_iff.1 h.1).1).trans h.1, (hb.block _ (Array.getElem?_eq_some_iff.1 h.2).1).trans h.2⟩

end Go.Proofs.Ytbkmapaieillmaa

/- Parts of slices, and slices behind other ones. -/
namespace Go.Proofs.Ytbkmapaieillmaa
open Go.RowKit

theorem slice_drop {α : Type} {S : Shape α} {w : World} {a : Option Addr} {len cap : Nat} {l : List α} {fp : List Nat} (i : Nat) (hi : i ≤ l.length) (H : (sSlice S).R w [.slice a len cap] l fp) :
    ∃ fp', (sSlice S).R w [.slice (if cap = i then a else a.map (·.add (i * S.m))) (len - i) (cap - i)] (l.drop i) fp' ∧ ∀ b ∈ fp', b ∈ fp := by
  obtain ⟨a', cap', hv, hc, hm, h⟩ := H
  simp only [List.cons.injEq, Value.slice.injEq, and_true] at hv
  obtain ⟨rfl, rfl, rfl⟩ := hv
  have hl : (l.drop i).length = l.length - i := by simp
  by_cases h0 : i = l.length
  · refine ⟨[], ⟨_, _, by rw [hl], by rw [hl]; omega, by omega, .inl ⟨?_, rfl⟩⟩, by simp⟩
    subst h0; simp
  · rcases h with ⟨rfl, _⟩ | ⟨_, b, off, fps, ha, rfl, hb, he⟩
    · simp at hi; simp at h0; omega
    · subst ha
      refine ⟨b :: (List.range (l.length - i)).flatMap fun j => fps (i + j), ⟨_, _, by rw [hl], by rw [hl]; omega, by omega, .inr ⟨by omega, b, off + i * S.m, fun j => fps (i + j), ?_, by rw [hl], hb, fun j hj => ?_⟩⟩, ?_⟩
      · rw [if_neg (by omega), Option.map_some, Addr.add_lit]
      · rw [hl] at hj
        obtain ⟨es, h1, h2⟩ := he (i + j) (by omega)
        refine ⟨es, ⟨h1.1, fun x hx => ?_⟩, by rw [List.getElem_drop]; exact h2⟩
        rw [← h1.2 x hx]
        congr 2
        rw [Nat.add_mul]; omega
      · intro x hx
        rcases List.mem_cons.1 hx with rfl | hx
        · simp
        · obtain ⟨j, hj, hx⟩ := List.mem_flatMap.1 hx
          refine List.mem_cons_of_mem _ (List.mem_flatMap.2 ⟨i + j, ?_, hx⟩)
          simp only [List.mem_range] at hj ⊢
          omega

/-- append(s, texts...), the texts a row of the call's own. -/
theorem wp_append_strs {w0 : World} {ops : Array Oper} {rest : List Oper} {o : Oper} {a : Act} {Q : Exit → Act → World → Prop} (hg : o.guard = none) (s y : Operand)
    (ho : o.op = .call { callee := .builtin .append, args := #[s, y], argTypes := #[23, 23] })
    (base B : Nat) (v u : Value) (L M : List ByteArray) (hs : a.eval s = v) (hown : w0.ownsRow base 9 1 v L.length (L.map Value.string)) (hy : a.eval y = u) (HM : w0.ownsRow B 9 1 u M.length (M.map Value.string))
    (h63 : L.length + M.length ≤ 1000000) (hbase : base ≤ w0.heap.size)
    (h : ∀ v' w', w'.ownsRow base 9 1 v' (L ++ M).length ((L ++ M).map Value.string) → w0.grownBy w' v.ownBlock → wpList Try.prog ops Q rest (a.put o.dst v') w') : wpList Try.prog ops Q (o :: rest) a w0 := by
  obtain ⟨i, hi, hz0, hz1, hz2⟩ := info_parts ti27.2
  rcases HM.2 with ⟨rfl, h0⟩ | ⟨g, cap, cur, rfl, _⟩
  · have hM : M = [] := by simpa using h0
    subst hM
    refine wpList_append_own_none hg s y 23 ho base 9 i 1 ti27.1 hi v L.length (L.map Value.string) hs hown hy ?_
    exact h v w0 (by simpa using hown) ⟨rfl, rfl, rfl, Nat.le_refl _, fun _ _ _ => rfl⟩
  · have hat := fun j hj => HM.cellAt j hj
    refine wpList_append_own _ hg s y 23 ho base 9 i _ 1 16 ti27.1 hi hz0 hz1 hz2 rfl (by decide) v L.length (L.map Value.string) hs hown ⟨g, 0, none⟩ M.length cap (M.map Value.string) hy (by simp) ?_ ?_ (by unfold maxLen; omega) (by omega) hbase fun v' w' h1 h2 _ => h v' w' ?_ h2
    · intro j x hj
      have hj' : j < M.length := by have := (List.getElem?_eq_some_iff.1 hj).1; simpa using this
      rw [Addr.add_lit, Nat.zero_add]
      exact (hat j (by omega)).trans hj
    · intro x hx
      obtain ⟨s, _, rfl⟩ := List.mem_map.1 hx
      rfl
    · simpa using h1

/-- A literal's row. -/
theorem lit_own (w : World) (e : TypeId) (L : List Value) (hL : L.length ≤ 1000000) :
    (w.alloc (.cells L.toArray e)).ownsRow w.heap.size e 1 (.slice (some ⟨w.heap.size, 0, none⟩) L.length L.length) L.length L :=
  ⟨by simp, .inr ⟨w.heap.size, L.length, L.toArray, rfl, Nat.le_refl _, by show (w.heap.push _)[w.heap.size]? = _; simp, Nat.le_refl _, by unfold maxLen; omega, by simp, by simp⟩⟩

end Go.Proofs.Ytbkmapaieillmaa

/- append in a drawn region that is taken by hand (as RowG's laws, at one operation). Over any program. -/
namespace Go.Proofs.Ytbkmapaieillmaa
open Go.RowKit

/-- append of elements that stand somewhere. -/
theorem step_append_rowG {α : Type} {S : Shape α} {P : Program} {t e : TypeId} {z : Value} {bytes : Nat} (ti : TI P t e z S.m bytes) (hzs : z.cells.size = S.m) (h0 : 0 < S.m) (w : World) {L X : List (Elem α)} {ops : Array Oper} {o : Oper} {a : Act} {K : Act → World → Prop} {Q : Exit → Act → World → Prop} {E : Prop}
    (d : Nat) (hdst : o.dst = some d) (hg : o.guard = none) (s y : Operand) (ho : o.op = .call { callee := .builtin .append, args := #[s, y], argTypes := #[t, t] })
    (base : Nat) (v : Value) (hs : a.eval s = v) (hown : RowG S base e v L w) (g off m c : Nat) (hy : a.eval y = .slice (some ⟨g, off, none⟩) m c) (hm : X.length = m)
    (hX : ∀ x ∈ X, x.cells.length = S.m ∧ S.R w x.cells x.d x.fp ∧ ∀ b ∈ x.fp, b < base) (h1 : ∀ x ∈ X, ∀ u ∈ x.cells, u.oneCell' = true) (hcell : ∀ j u, (X.flatMap (·.cells))[j]? = some u → w.cell? ⟨g, off + j, none⟩ = some u)
    (h63 : L.length + m ≤ maxLen) (hbytes : (L.length + m) * bytes ≤ 140737488355328) (hbase : base ≤ w.heap.size)
    (h : ∀ v' w', RowG S base e v' (L ++ X) w' → w.grownBy w' v.ownBlock → K (a.put (some d) v') w') : if Region.wanted o (yielded ops a.tmps) = true then Oper.wp P o a w K Q else E := by
  rw [← hdst] at h
  have hwt : Region.wanted o (yielded ops a.tmps) = true := by simp [Region.wanted, hg]
  obtain ⟨i, hi, hz0, hz1, hz2⟩ := info_parts ti.2
  subst hm
  rw [if_pos hwt]
  refine wp_append_own w s y t ho base e i z S.m bytes ti.1 hi hz0 hz1 hz2 hzs h0 v L.length _ hs hown.row ⟨g, off, none⟩ X.length c (X.flatMap (·.cells)) hy (flatMap_len (f := Elem.cells) fun x hx => (hX x hx).1) ?_ ?_ h63 hbytes hbase fun v' w' r1 r2 _ => h v' w' ?_ r2
  · intro j u hj
    rw [Addr.add_lit]
    exact hcell j u hj
  · intro u hu
    obtain ⟨x, hx, hu⟩ := List.mem_flatMap.1 hu
    exact h1 x hx u hu
  · refine hown.appended ?_ r2 hX
    rw [List.length_append, List.flatMap_append]
    exact r1
theorem run_append_empty' {P : Program} {w : World} (base : Nat) (t ty e : TypeId) (i : TypeInfo) (size c : Nat) (ht : P.underlying t = some (.slice e)) (hi : P.info? e = some i)
    (v : Value) (n : Nat) (xs : List Value) (hown : w.ownsRow base e size v n xs) : (Builtin.append_ #[t, t] ty #[v, .slice none 0 c]).run P w = .ok v w := by
  rcases hown.2 with ⟨rfl, rfl⟩ | ⟨g, cap, cur, rfl, _, _, hnc, _⟩
  · simp [Builtin.append_, run_underlying ht, sizeOf, typeInfo, hi, Builtin.lenOf, Builtin.firstCells]
  · simp [Builtin.append_, run_underlying ht, sizeOf, typeInfo, hi, Builtin.lenOf, Builtin.firstCells, hnc, storeCells]
/-- append(s, row...), the row any that can be read, of blocks before the own row's. -/
theorem step_append_anyG {α : Type} {S : Shape α} {P : Program} {t e : TypeId} {z : Value} {bytes : Nat} (ti : TI P t e z S.m bytes) (hzs : z.cells.size = S.m) (h0 : 0 < S.m) (hone : ∀ w cs x fp, S.R w cs x fp → ∀ u ∈ cs, u.oneCell' = true) (w : World) {L : List (Elem α)} {ops : Array Oper} {o : Oper} {a : Act} {K : Act → World → Prop} {Q : Exit → Act → World → Prop} {E : Prop}
    (d : Nat) (hdst : o.dst = some d) (hg : o.guard = none) (s y : Operand) (ho : o.op = .call { callee := .builtin .append, args := #[s, y], argTypes := #[t, t] })
    (base : Nat) (v u : Value) (M : List α) (fp : List Nat) (hs : a.eval s = v) (hown : RowG S base e v L w) (hy : a.eval y = u) (HM : (sSlice S).R w [u] M fp) (hfp : ∀ b ∈ fp, b < base)
    (h63 : L.length + M.length ≤ maxLen) (hbytes : (L.length + M.length) * bytes ≤ 140737488355328) (hbase : base ≤ w.heap.size)
    (h : ∀ v' X w', X.map (·.d) = M → (∀ x ∈ X, ∀ b ∈ x.fp, b ∈ fp) → RowG S base e v' (L ++ X) w' → w.grownBy w' v.ownBlock → K (a.put (some d) v') w') : if Region.wanted o (yielded ops a.tmps) = true then Oper.wp P o a w K Q else E := by
  rw [← hdst] at h
  have hwt : Region.wanted o (yielded ops a.tmps) = true := by simp [Region.wanted, hg]
  obtain ⟨X, ad, cap, hXM, hXl, rfl, hmm, hX, hat⟩ := elems_of HM
  rw [← hXl] at h63 hbytes
  by_cases hM : 0 < M.length
  · obtain ⟨b, off, rfl, hb, hE⟩ := hat hM
    refine step_append_rowG ti hzs h0 w (X := X) d hdst hg s y ho base v hs hown b off M.length cap hy hXl (fun x hx => ⟨(hX x hx).1, (hX x hx).2.1, fun c hc => hfp c ((hX x hx).2.2 c hc)⟩) (fun x hx => hone _ _ _ _ (hX x hx).2.1) ?_ (by rw [← hXl]; exact h63) (by rw [← hXl]; exact hbytes) hbase fun v' w' r1 r2 => by rw [← hdst]; exact h v' X w' hXM (fun x hx => (hX x hx).2.2) r1 r2
    intro j u hj
    have hjl : j < X.length * S.m := by
      have := (List.getElem?_eq_some_iff.1 hj).1
      rwa [flatMap_len (f := Elem.cells) fun x hx => (hX x hx).1] at this
    have hk : j / S.m < X.length := Nat.div_lt_of_lt_mul (by rw [Nat.mul_comm]; exact hjl)
    have hr : j % S.m < S.m := Nat.mod_lt _ h0
    have hj2 : j / S.m * S.m + j % S.m = j := Nat.div_add_mod' _ _
    rw [← hj2, flatMap_at (f := Elem.cells) (fun x hx => (hX x hx).1) hk hr] at hj
    have := (hE (j / S.m) hk).2 (j % S.m) hr
    rw [Nat.add_assoc, hj2] at this
    rw [this]
    exact hj
  · have hX0 : X = [] := List.length_eq_zero_iff.1 (by omega)
    have hM0 : M.length = 0 := by omega
    subst hX0
    obtain ⟨i, hi, hz0, hz1, hz2⟩ := info_parts ti.2
    have hdone : K (a.put o.dst v) w := h v [] w (by simpa using hXM) (by simp) (by simpa using hown) ⟨rfl, rfl, rfl, Nat.le_refl _, fun _ _ _ => rfl⟩
    rw [hM0] at hy
    cases ad with
    | none =>
      have hrun := run_append_empty' (P := P) (w := w) base _ o.type _ i S.m cap ti.1 hi v L.length _ hown.row
      rw [if_pos hwt]
      unfold Oper.wp
      simp [execOp, ho, resolve, invoke, builtin, hs, hy, hrun, Result.andThen]
      exact hdone
    | some ad =>
      rw [if_pos hwt]
      refine wp_append_own w s y t ho base e i z S.m bytes ti.1 hi hz0 hz1 hz2 hzs h0 v L.length _ hs hown.row ad 0 cap [] hy (by simp) (by simp) (by simp) (by omega) (by simpa using hbytes) hbase fun v' w' r1 r2 _ => h v' [] w' (by simpa using hXM) (by simp) ?_ r2
      exact hown.appended (X := []) (by have h1' := r1; simp only [Nat.add_zero, List.append_nil] at h1' ⊢; exact h1') r2 (by simp)

end Go.Proofs.Ytbkmapaieillmaa

/- Define (spec). (Made by gen_tab7.py.) -/
namespace Go.Proofs.Ytbkmapaieillmaa
open Go.RowKit

def putAt (l : List DMacro) (m : DMacro) (k : Nat) : List DMacro := l.take k ++ [m] ++ l.drop k
def defM (l : List DMacro) (m : DMacro) : List DMacro × Bool :=
  if tabOk l = true then
    (if macOk m = true then
      (if isIn l m.name = true then (l, (if h : lowAt l m.name < l.length then sameMac l[lowAt l m.name] m else false))
       else if l.length = 10 then (l, false) else (putAt l m (lowAt l m.name), true))
     else (l, false))
  else ([], false)
theorem isIn_lt2 {l : List DMacro} {nm : ByteArray} (hi : isIn l nm = true) : lowAt l nm < l.length := by
  by_cases h : lowAt l nm < l.length
  · exact h
  · unfold isIn at hi; rw [dif_neg h] at hi; exact absurd hi (by simp)
end Go.Proofs.Ytbkmapaieillmaa

/- Parameters as they are read: the model. -/
namespace Go.Proofs.Ytbkmapaieillmaa
open Go.RowKit

def parRes (l : List Tok) : List ByteArray × Int := match parsOf l with | some p => (p.1, (p.2 : Int)) | none => ([], -1)
theorem parRes_some {l : List Tok} {p : List ByteArray × Nat} (h : parsOf l = some p) : parRes l = (p.1, (p.2 : Int)) := by unfold parRes; rw [h]
theorem parRes_none {l : List Tok} (h : parsOf l = none) : parRes l = ([], -1) := by unfold parRes; rw [h]
def PMade (l : List Tok) (w : World) (e : Ending) (w' : World) : Prop :=
  ∃ (pv : Value) (fp : List Nat), e = .returned (.tuple #[pv, .int .i64 (parRes l).2]) ∧ (sSlice sStr).R w' [pv] (parRes l).1 fp ∧ Own w' w.heap.size fp ∧ Below w.heap.size w w'
theorem pm_none {l : List Tok} {w w1 : World} (h : parsOf l = none) (hb : Below w.heap.size w w1) : PMade l w (.returned (.tuple #[.slice (some ⟨w1.heap.size, 0, none⟩) 0 0, .int .i64 (-1)])) (w1.alloc (.cells #[] 9)) :=
  ⟨_, [], by rw [parRes_none h], by rw [parRes_none h]; exact slice_empty sStr _ _ _ (by simp), Own.nil _ _, hb.trans ((alloc_below' w1 _).mono hb.size)⟩
theorem pm_some {l : List Tok} {w w1 : World} {v : Value} {L : List ByteArray} {n : Int} {p : List ByteArray × Nat} (h : parsOf l = some p) (h1 : p.1 = L) (h2 : (p.2 : Int) = n) (hb : Below w.heap.size w w1) (ho : w1.ownsRow w.heap.size 9 1 v L.length (L.map Value.string))
    (hs : ∀ i, (hi : i < L.length) → L[i].size ≤ maxLen) : PMade l w (.returned (.tuple #[v, .int .i64 n])) w1 := by
  obtain ⟨fp, h3, h4, _⟩ := own_flat (ok := okStr) ho hs
  exact ⟨v, fp, by rw [parRes_some h, h2], by rw [parRes_some h]; show (sSlice sStr).R w1 [v] p.1 fp; rw [h1]; exact h3, h4, hb⟩
theorem pa_kind {l : List Tok} {k : Nat} (h : k + 1 < l.length) (h1 : (l[k]'(by omega)).kind ≠ 1) : parsAt l k = none := by rw [parsAt, dif_pos h, if_neg h1]
theorem pa_close {l : List Tok} {k : Nat} (h : k + 1 < l.length) (h1 : (l[k]'(by omega)).kind = 1) (h2 : l[k + 1].text = closeB) : parsAt l k = some ([(l[k]'(by omega)).text], k + 2) := by rw [parsAt, dif_pos h, if_pos h1, if_pos h2]
theorem pa_comma {l : List Tok} {k : Nat} (h : k + 1 < l.length) (h1 : (l[k]'(by omega)).kind = 1) (h2 : l[k + 1].text ≠ closeB) (h3 : l[k + 1].text = commaB) : parsAt l k = (parsAt l (k + 2)).map (fun p => ((l[k]'(by omega)).text :: p.1, p.2)) := by rw [parsAt, dif_pos h, if_pos h1, if_neg h2, if_pos h3]
theorem pa_other {l : List Tok} {k : Nat} (h : k + 1 < l.length) (h1 : (l[k]'(by omega)).kind = 1) (h2 : l[k + 1].text ≠ closeB) (h3 : l[k + 1].text ≠ commaB) : parsAt l k = none := by rw [parsAt, dif_pos h, if_pos h1, if_neg h2, if_neg h3]
theorem pa_end {l : List Tok} {k : Nat} (h : ¬ k + 1 < l.length) : parsAt l k = none := by rw [parsAt, dif_neg h]
theorem snoc_row {w : World} {base e : Nat} {v : Value} {L : List ByteArray} {x : ByteArray} (h : w.ownsRow base e 1 v (L.length + 1) (L.map Value.string ++ [.string x])) : w.ownsRow base e 1 v (L ++ [x]).length ((L ++ [x]).map Value.string) := by
  simpa using h
theorem snoc_size {L : List ByteArray} {x : ByteArray} (h : ∀ i, (hi : i < L.length) → L[i].size ≤ maxLen) (hx : x.size ≤ maxLen) : ∀ i, (hi : i < (L ++ [x]).length) → (L ++ [x])[i].size ≤ maxLen := by
  intro i hi
  by_cases h1 : i < L.length
  · rw [List.getElem_append_left h1]; exact h i h1
  · have : i = L.length := by simp at hi; omega
    subst this; simp [hx]


end Go.Proofs.Ytbkmapaieillmaa
