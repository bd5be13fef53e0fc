/- Parts of slices, and slices behind other ones. -/
import Derived.Test.YtkamfppefmpacaaMake
import Derived.Laws.AppendOwnNone
namespace Go.Proofs.Ytkamfppefmpacaa
open Go.RowKit

theorem slice_drop {α : Type} {S : Shape α} {w : World} {a : Option Addr} {len cap : Nat} {l : List α} {fp : List Nat} (i : Nat) (hi : i ≤ l.length) (H : (sSlice S).R w [.slice a len cap] l fp) :
    ∃ fp', (sSlice S).R w [.slice (if cap = i then a else a.map (·.add (i * S.m))) (len - i) (cap - i)] (l.drop i) fp' ∧ ∀ b ∈ fp', b ∈ fp := by
  obtain ⟨a', cap', hv, hc, hm, h⟩ := H
  simp only [List.cons.injEq, Value.slice.injEq, and_true] at hv
  obtain ⟨rfl, rfl, rfl⟩ := hv
  have hl : (l.drop i).length = l.length - i := by simp
  by_cases h0 : i = l.length
  · refine ⟨[], ⟨_, _, by rw [hl], by rw [hl]; omega, by omega, .inl ⟨?_, rfl⟩⟩, by simp⟩
    subst h0; simp
  · rcases h with ⟨rfl, _⟩ | ⟨_, b, off, fps, ha, rfl, hb, he⟩
    · simp at hi; simp at h0; omega
    · subst ha
      refine ⟨b :: (List.range (l.length - i)).flatMap fun j => fps (i + j), ⟨_, _, by rw [hl], by rw [hl]; omega, by omega, .inr ⟨by omega, b, off + i * S.m, fun j => fps (i + j), ?_, by rw [hl], hb, fun j hj => ?_⟩⟩, ?_⟩
      · rw [if_neg (by omega), Option.map_some, Addr.add_lit]
      · rw [hl] at hj
        obtain ⟨es, h1, h2⟩ := he (i + j) (by omega)
        refine ⟨es, ⟨h1.1, fun x hx => ?_⟩, by rw [List.getElem_drop]; exact h2⟩
        rw [← h1.2 x hx]
        congr 2
        rw [Nat.add_mul]; omega
      · intro x hx
        rcases List.mem_cons.1 hx with rfl | hx
        · simp
        · obtain ⟨j, hj, hx⟩ := List.mem_flatMap.1 hx
          refine List.mem_cons_of_mem _ (List.mem_flatMap.2 ⟨i + j, ?_, hx⟩)
          simp only [List.mem_range] at hj ⊢
          omega

/-- append(s, texts...), the texts a row of the call's own. -/
theorem wp_append_strs {w0 : World} {ops : Array Oper} {rest : List Oper} {o : Oper} {a : Act} {Q : Exit → Act → World → Prop} (hg : o.guard = none) (s y : Operand)
    (ho : o.op = .call { callee := .builtin .append, args := #[s, y], argTypes := #[34, 34] })
    (base B : Nat) (v u : Value) (L M : List ByteArray) (hs : a.eval s = v) (hown : w0.ownsRow base 9 1 v L.length (L.map Value.string)) (hy : a.eval y = u) (HM : w0.ownsRow B 9 1 u M.length (M.map Value.string))
    (h63 : L.length + M.length ≤ 1000000) (hbase : base ≤ w0.heap.size)
    (h : ∀ v' w', w'.ownsRow base 9 1 v' (L ++ M).length ((L ++ M).map Value.string) → w0.grownBy w' v.ownBlock → wpList Try.prog ops Q rest (a.put o.dst v') w') : wpList Try.prog ops Q (o :: rest) a w0 := by
  obtain ⟨i, hi, hz0, hz1, hz2⟩ := info_parts ti27.2
  rcases HM.2 with ⟨rfl, h0⟩ | ⟨g, cap, cur, rfl, _⟩
  · have hM : M = [] := by simpa using h0
    subst hM
    refine wpList_append_own_none hg s y 34 ho base 9 i 1 ti27.1 hi v L.length (L.map Value.string) hs hown hy ?_
    exact h v w0 (by simpa using hown) ⟨rfl, rfl, rfl, Nat.le_refl _, fun _ _ _ => rfl⟩
  · have hat := fun j hj => HM.cellAt j hj
    refine wpList_append_own _ hg s y 34 ho base 9 i _ 1 16 ti27.1 hi hz0 hz1 hz2 rfl (by decide) v L.length (L.map Value.string) hs hown ⟨g, 0, none⟩ M.length cap (M.map Value.string) hy (by simp) ?_ ?_ (by unfold maxLen; omega) (by omega) hbase fun v' w' h1 h2 _ => h v' w' ?_ h2
    · intro j x hj
      have hj' : j < M.length := by have := (List.getElem?_eq_some_iff.1 hj).1; simpa using this
      rw [Addr.add_lit, Nat.zero_add]
      exact (hat j (by omega)).trans hj
    · intro x hx
      obtain ⟨s, _, rfl⟩ := List.mem_map.1 hx
      rfl
    · simpa using h1

/-- A literal's row. -/
theorem lit_own (w : World) (e : TypeId) (L : List Value) (hL : L.length ≤ 1000000) :
    (w.alloc (.cells L.toArray e)).ownsRow w.heap.size e 1 (.slice (some ⟨w.heap.size, 0, none⟩) L.length L.length) L.length L :=
  ⟨by simp, .inr ⟨w.heap.size, L.length, L.toArray, rfl, Nat.le_refl _, by show (w.heap.push _)[w.heap.size]? = _; simp, Nat.le_refl _, by unfold maxLen; omega, by simp, by simp⟩⟩

end Go.Proofs.Ytkamfppefmpacaa
