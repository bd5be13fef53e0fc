/- Texts that the proof of U stands on, in one file. -/
import Derived.Test.YtipfpppcbmpjiaaZU9
import Derived.Test.YtipfpppcbmpjiaaZU5
import Derived.Test.YtipfpppcbmpjiaaZU3
import Derived.Test.YtipfpppcbmpjiaaZU7
import Derived.OwnWalk
import Derived.IntWalk
import Derived.Test.YtipfpppcbmpjiaaZU8
set_option linter.unusedVariables false
set_option linter.unusedSimpArgs false
/- MacroOf of both, as the exact law calls them. -/
namespace Go.Proofs.Ytipfpppcbmpjiaa
open Go.RowKit

theorem cntMacro_le (x : DMacro) : cntMacro x ≤ 2 + 3 * wtMacro x := by
  have h1 := cntTokenS_le x.body
  have h2 : wtMacro x = x.name.size + (x.params.length + (x.params.map (·.size)).sum) + wtTokenS x.body := rfl
  have h3 : cntMacro x = 2 + x.params.length + cntTokenS x.body := rfl
  omega
theorem cntMacroS_le : ∀ l : List DMacro, cntMacroS l ≤ 3 * wtMacroS l
  | [] => Nat.zero_le _
  | m :: l => by
    have ih := cntMacroS_le l
    have h1 : cntMacroS (m :: l) = cntMacro m + cntMacroS l := by unfold cntMacroS cntAll; simp
    have h2 := cntMacro_le m
    have h3 : wtMacroS (m :: l) = 1 + wtMacro m + wtMacroS l := by unfold wtMacroS; simp; omega
    omega
end Go.Proofs.Ytipfpppcbmpjiaa

/- Lists of lists of tokens: the laws' own helpers. -/
namespace Go.Proofs.Ytipfpppcbmpjiaa
open Go.RowKit Go.ChangeShapes Go.WideShapes Go.Deep

abbrev sToks : Shape (List Tok) := sSlice sTok
end Go.Proofs.Ytipfpppcbmpjiaa

/- Dividing arguments: the model, and what the program does. No program. -/
namespace Go.Proofs.Ytipfpppcbmpjiaa
open Go.RowKit
end Go.Proofs.Ytipfpppcbmpjiaa

/- Rows of the call's own whose elements may read memory of others, too: the elements' blocks lie before the row's. Over any program. -/
namespace Go.Proofs.Ytipfpppcbmpjiaa
open Go.RowKit

structure RowG {α : Type} (S : Shape α) (base : Nat) (e : TypeId) (v : Value) (L : List (Elem α)) (w : World) : Prop where
  row : w.ownsRow base e S.m v L.length (L.flatMap (·.cells))
  len : ∀ x ∈ L, x.cells.length = S.m
  el : ∀ x ∈ L, S.R w x.cells x.d x.fp
  hi : ∀ x ∈ L, ∀ b ∈ x.fp, b < base

section
variable {α : Type} {S : Shape α} {base : Nat} {e : TypeId} {v v' : Value} {L : List (Elem α)} {w w' : World}
theorem RowG.ap (h : RowG S base e v L w) : ∀ x ∈ L, ∀ b ∈ x.fp, v.ownBlock ≠ some b := fun x hx b hb hv => by
  have h1 := h.hi x hx b hb
  have h2 := (h.row.lt b hv).1
  omega
/-- An empty literal's row. -/
theorem RowG.lit0 (S : Shape α) (e : TypeId) (w : World) : RowG S w.heap.size e (.slice (some ⟨w.heap.size, 0, none⟩) 0 0) [] (w.alloc (.cells #[] e)) where
  row := World.ownsRow_lit (base := w.heap.size) (e := e) (size := S.m) w #[] 0 (Nat.le_refl _) (by unfold maxLen; omega) (by simp)
  len := by simp
  el := by simp
  hi := by simp
theorem RowG.same (h : RowG S base e v L w) (hv : ∀ g, v.ownBlock = some g → w'.heap[g]? = w.heap[g]?) (hb : ∀ x ∈ L, ∀ b ∈ x.fp, w'.heap[b]? = w.heap[b]?) : RowG S base e v L w' where
  row := ownsRow_same h.row hv
  len := h.len
  el := fun x hx => S.frame (fun b hb' => hb x hx b hb') (h.el x hx)
  hi := h.hi
theorem RowG.below (h : RowG S base e v L w) (hb : Below w.heap.size w w') : RowG S base e v L w' :=
  h.same (fun g hg => hb.block g (h.row.lt g hg).2) (fun x hx b hb' => hb.block b (S.lt (h.el x hx) b hb'))
theorem RowG.kept {K : List Nat} (h : RowG S base e v L w) (hk : Kept K w w') (hv : ∀ g, v.ownBlock = some g → g ∉ K) (hb : ∀ x ∈ L, ∀ b ∈ x.fp, b ∉ K) : RowG S base e v L w' :=
  h.same (fun g hg => hk.block g (h.row.lt g hg).2 (hv g hg)) (fun x hx b hb' => hk.block b (S.lt (h.el x hx) b hb') (hb x hx b hb'))
theorem RowG.val (h : RowG S base e v L w) : ∃ a cap, v = .slice a L.length cap ∧ L.length ≤ cap ∧ cap ≤ maxLen ∧ (0 < L.length → ∃ g, a = some ⟨g, 0, none⟩ ∧ base ≤ g ∧ g < w.heap.size) := by
  rcases h.row.2 with ⟨rfl, h0⟩ | ⟨g, cap, cur, rfl, hb, hg, hn, hc, _⟩
  · exact ⟨none, 0, by rw [h0], by omega, by simp, fun h => by omega⟩
  · exact ⟨_, cap, rfl, hn, hc, fun _ => ⟨g, rfl, hb, (Array.getElem?_eq_some_iff.1 hg).1⟩⟩
theorem RowG.mine (h : RowG S base e v L w) : ∀ b, v.ownBlock = some b → base ≤ b := fun b hb => (h.row.lt b hb).1
theorem RowG.read (h : RowG S base e v L w) : ∃ fp, (sSlice S).R w [v] (L.map (·.d)) fp ∧ (∀ b ∈ fp, v.ownBlock = some b ∨ ∃ x ∈ L, b ∈ x.fp) ∧ (Own w base (L.flatMap (·.fp)) → Own w base fp) := by
  obtain ⟨fp, h1, h2, h3⟩ := slice_of_row h.row fun x hx => ⟨h.len x hx, h.el x hx⟩
  refine ⟨fp, h1, fun b hb => ?_, fun ho => h3 ho fun g hg hm => ?_⟩
  · rcases h2 b hb with h | h
    · exact .inl h
    · obtain ⟨x, hx, hb'⟩ := List.mem_flatMap.1 h
      exact .inr ⟨x, hx, hb'⟩
  · obtain ⟨x, hx, hb'⟩ := List.mem_flatMap.1 hm
    exact h.ap x hx g hb' hg
theorem RowG.len_eq {g n cap : Nat} (h : RowG S base e (.slice (some ⟨g, 0, none⟩) n cap) L w) : L.length = n := by
  rcases h.row.2 with ⟨h', _⟩ | ⟨g', cap', cur, h', _⟩
  · cases h'
  · simp only [Value.slice.injEq] at h'; exact h'.2.1.symm
/-- A store into an element. -/
theorem RowG.set {g n cap : Nat} (h : RowG S base e (.slice (some ⟨g, 0, none⟩) n cap) L w) {k : Nat} (hk : k < L.length) {j : Nat} (hj : j < S.m) (u : Value) (x' : Elem α) (hx : x'.cells = L[k].cells.set j u)
    (hR : S.R w x'.cells x'.d x'.fp) (hn : ∀ b ∈ x'.fp, b < base) :
    RowG S base e (.slice (some ⟨g, 0, none⟩) n cap) (L.set k x') (w.setCell ⟨g, k * S.m + j, none⟩ u) := by
  have hblk : ∀ b : Nat, b ≠ g → (w.setCell ⟨g, k * S.m + j, none⟩ u).heap[b]? = w.heap[b]? := fun b hb => Below.heap_setCell _ _ _ _ hb
  have hmem : ∀ x ∈ L.set k x', x = x' ∨ x ∈ L := fun x hx => by
    rcases List.mem_or_eq_of_mem_set hx with h | h
    · exact .inr h
    · exact .inl h
  have hne : ∀ x ∈ L, ∀ b ∈ x.fp, b ≠ g := fun x hx b hb e => h.ap x hx b hb (by rw [e]; rfl)
  refine ⟨?_, fun x hx' => ?_, fun x hx' => ?_, fun x hx' => ?_⟩
  · have hn := h.len_eq
    have hrow := h.row
    rw [hn] at hrow
    have := (hrow.stored (k * S.m + j) u).1
    rw [flatMap_set h.len hk hj u x' hx] at this
    rw [List.length_set, hn]
    exact this
  · rcases hmem x hx' with rfl | hx'
    · rw [hx, List.length_set]; exact h.len _ (List.getElem_mem hk)
    · exact h.len x hx'
  · rcases hmem x hx' with rfl | hx'
    · exact S.frame (fun b hb => hblk b (fun e => by have h1 := hn b hb; have h2 := (h.row.lt g rfl).1; omega)) hR
    · exact S.frame (fun b hb => hblk b (hne x hx' b hb)) (h.el x hx')
  · rcases hmem x hx' with rfl | hx'
    · exact hn
    · exact h.hi x hx'
/-- Elements appended. -/
theorem RowG.appended (h : RowG S base e v L w) {X : List (Elem α)} (hrow : w'.ownsRow base e S.m v' (L ++ X).length ((L ++ X).flatMap (·.cells))) (hg : w.grownBy w' v.ownBlock)
    (hX : ∀ x ∈ X, x.cells.length = S.m ∧ S.R w x.cells x.d x.fp ∧ ∀ b ∈ x.fp, b < base) :
    RowG S base e v' (L ++ X) w' := by
  have hall : ∀ x ∈ L ++ X, x.cells.length = S.m ∧ S.R w x.cells x.d x.fp ∧ ∀ b ∈ x.fp, b < base := fun x hx => by
    rcases List.mem_append.1 hx with hx | hx
    · exact ⟨h.len x hx, h.el x hx, h.hi x hx⟩
    · exact hX x hx
  refine ⟨hrow, fun x hx => (hall x hx).1, fun x hx => ?_, fun x hx => (hall x hx).2.2⟩
  refine S.frame (fun b hb => hg.block b (S.lt (hall x hx).2.1 b hb) fun hv => ?_) (hall x hx).2.1
  have h1 := (hall x hx).2.2 b hb
  have h2 := (h.row.lt b hv.symm).1
  omega
end

/-- The elements of what can be read. -/
theorem elems_of {α : Type} {S : Shape α} {w : World} {u : Value} {M : List α} {fp : List Nat} (H : (sSlice S).R w [u] M fp) :
    ∃ (X : List (Elem α)) (a : Option Addr) (cap : Nat), X.map (·.d) = M ∧ X.length = M.length ∧ u = .slice a M.length cap ∧ M.length ≤ maxLen ∧ (∀ x ∈ X, x.cells.length = S.m ∧ S.R w x.cells x.d x.fp ∧ ∀ b ∈ x.fp, b ∈ fp) ∧
      (0 < M.length → ∃ b off, a = some ⟨b, off, none⟩ ∧ b < w.heap.size ∧ ∀ k, (hk : k < X.length) → ElemAt w b off S.m k X[k].cells) := by
  obtain ⟨a, cap, rfl, hc, hm, hrow⟩ := open_rows H
  by_cases h0 : 0 < M.length
  · obtain ⟨b, off, fps, rfl, hb, hfp, he⟩ := hrow h0
    have key : ∀ k : Fin M.length, ∃ x : Elem α, x.d = M[k.1] ∧ x.fp = fps k.1 ∧ ElemAt w b off S.m k.1 x.cells ∧ S.R w x.cells x.d x.fp := fun k => by
      obtain ⟨es, hE, hR⟩ := he k.1 k.2
      exact ⟨⟨es, M[k.1], fps k.1⟩, rfl, rfl, hE, hR⟩
    let X : List (Elem α) := List.ofFn fun k : Fin M.length => (key k).choose
    have hXl : X.length = M.length := by simp [X]
    have hX : ∀ k, (hk : k < X.length) → ∃ hk' : k < M.length, X[k] = (key ⟨k, hk'⟩).choose := fun k hk => ⟨by omega, by simp [X]⟩
    refine ⟨X, _, cap, ?_, hXl, rfl, by omega, fun x hx => ?_, fun _ => ⟨b, off, rfl, hb, fun k hk => ?_⟩⟩
    · apply List.ext_getElem
      · simp [hXl]
      · intro k h1 h2
        rw [List.getElem_map]
        obtain ⟨hk', e⟩ := hX k (by simpa using h1)
        rw [e]
        exact (key ⟨k, hk'⟩).choose_spec.1
    · obtain ⟨k, hk, rfl⟩ := List.getElem_of_mem hx
      obtain ⟨hk', e⟩ := hX k hk
      obtain ⟨s1, s2, s3, s4⟩ := (key ⟨k, hk'⟩).choose_spec
      rw [e]
      refine ⟨s3.1, s4, fun c hc => ?_⟩
      rw [s2] at hc
      rw [hfp]
      exact List.mem_cons_of_mem _ (List.mem_flatMap.2 ⟨k, List.mem_range.2 hk', hc⟩)
    · obtain ⟨hk', e⟩ := hX k hk
      rw [e]
      exact (key ⟨k, hk'⟩).choose_spec.2.2.1
  · have hM : M = [] := List.length_eq_zero_iff.1 (by omega)
    subst hM
    exact ⟨[], a, cap, rfl, rfl, rfl, by unfold maxLen; simp, by simp, fun h => absurd h (by simp)⟩

/-- append of elements that stand somewhere. -/
theorem wp_append_rowG {α : Type} {S : Shape α} {P : Program} {t e : TypeId} {z : Value} {bytes : Nat} (ti : TI P t e z S.m bytes) (hzs : z.cells.size = S.m) (h0 : 0 < S.m) (w : World) {L X : List (Elem α)} {ops : Array Oper} {rest : List Oper} {o : Oper} {a : Act} {Q : Exit → Act → World → Prop}
    (hg : o.guard = none) (s y : Operand) (ho : o.op = .call { callee := .builtin .append, args := #[s, y], argTypes := #[t, t] })
    (base : Nat) (v : Value) (hs : a.eval s = v) (hown : RowG S base e v L w) (g off m c : Nat) (hy : a.eval y = .slice (some ⟨g, off, none⟩) m c) (hm : X.length = m)
    (hX : ∀ x ∈ X, x.cells.length = S.m ∧ S.R w x.cells x.d x.fp ∧ ∀ b ∈ x.fp, b < base) (h1 : ∀ x ∈ X, ∀ u ∈ x.cells, u.oneCell' = true) (hcell : ∀ j u, (X.flatMap (·.cells))[j]? = some u → w.cell? ⟨g, off + j, none⟩ = some u)
    (h63 : L.length + m ≤ maxLen) (hbytes : (L.length + m) * bytes ≤ 140737488355328) (hbase : base ≤ w.heap.size)
    (h : ∀ v' w', RowG S base e v' (L ++ X) w' → w.grownBy w' v.ownBlock → wpList P ops Q rest (a.put o.dst v') w') : wpList P ops Q (o :: rest) a w := by
  obtain ⟨i, hi, hz0, hz1, hz2⟩ := info_parts ti.2
  subst hm
  refine wpList_append_own _ hg s y t ho base e i z S.m bytes ti.1 hi hz0 hz1 hz2 hzs h0 v L.length _ hs hown.row ⟨g, off, none⟩ X.length c (X.flatMap (·.cells)) hy (flatMap_len (f := Elem.cells) fun x hx => (hX x hx).1) ?_ ?_ h63 hbytes hbase fun v' w' r1 r2 _ => h v' w' ?_ r2
  · intro j u hj
    rw [Addr.add_lit]
    exact hcell j u hj
  · intro u hu
    obtain ⟨x, hx, hu⟩ := List.mem_flatMap.1 hu
    exact h1 x hx u hu
  · refine hown.appended ?_ r2 hX
    rw [List.length_append, List.flatMap_append]
    exact r1
theorem run_append_empty {P : Program} {w : World} (base : Nat) (t ty e : TypeId) (i : TypeInfo) (size c : Nat) (ht : P.underlying t = some (.slice e)) (hi : P.info? e = some i)
    (v : Value) (n : Nat) (xs : List Value) (hown : w.ownsRow base e size v n xs) : (Builtin.append_ #[t, t] ty #[v, .slice none 0 c]).run P w = .ok v w := by
  rcases hown.2 with ⟨rfl, rfl⟩ | ⟨g, cap, cur, rfl, _, _, hnc, _⟩
  · simp [Builtin.append_, run_underlying ht, sizeOf, typeInfo, hi, Builtin.lenOf, Builtin.firstCells]
  · simp [Builtin.append_, run_underlying ht, sizeOf, typeInfo, hi, Builtin.lenOf, Builtin.firstCells, hnc, storeCells]
/-- append(s, row...), the row any that can be read, of blocks before the own row's. -/
theorem wp_append_anyG {α : Type} {S : Shape α} {P : Program} {t e : TypeId} {z : Value} {bytes : Nat} (ti : TI P t e z S.m bytes) (hzs : z.cells.size = S.m) (h0 : 0 < S.m) (hone : ∀ w cs x fp, S.R w cs x fp → ∀ u ∈ cs, u.oneCell' = true) (w : World) {L : List (Elem α)} {ops : Array Oper} {rest : List Oper} {o : Oper} {a : Act} {Q : Exit → Act → World → Prop}
    (hg : o.guard = none) (s y : Operand) (ho : o.op = .call { callee := .builtin .append, args := #[s, y], argTypes := #[t, t] })
    (base : Nat) (v u : Value) (M : List α) (fp : List Nat) (hs : a.eval s = v) (hown : RowG S base e v L w) (hy : a.eval y = u) (HM : (sSlice S).R w [u] M fp) (hfp : ∀ b ∈ fp, b < base)
    (h63 : L.length + M.length ≤ maxLen) (hbytes : (L.length + M.length) * bytes ≤ 140737488355328) (hbase : base ≤ w.heap.size)
    (h : ∀ v' X w', X.map (·.d) = M → (∀ x ∈ X, ∀ b ∈ x.fp, b ∈ fp) → RowG S base e v' (L ++ X) w' → w.grownBy w' v.ownBlock → wpList P ops Q rest (a.put o.dst v') w') : wpList P ops Q (o :: rest) a w := by
  obtain ⟨X, ad, cap, hXM, hXl, rfl, hmm, hX, hat⟩ := elems_of HM
  rw [← hXl] at h63 hbytes
  by_cases hM : 0 < M.length
  · obtain ⟨b, off, rfl, hb, hE⟩ := hat hM
    refine wp_append_rowG ti hzs h0 w (X := X) hg s y ho base v hs hown b off M.length cap hy hXl (fun x hx => ⟨(hX x hx).1, (hX x hx).2.1, fun c hc => hfp c ((hX x hx).2.2 c hc)⟩) (fun x hx => hone _ _ _ _ (hX x hx).2.1) ?_ (by rw [← hXl]; exact h63) (by rw [← hXl]; exact hbytes) hbase fun v' w' r1 r2 => h v' X w' hXM (fun x hx => (hX x hx).2.2) r1 r2
    intro j u hj
    have hjl : j < X.length * S.m := by
      have := (List.getElem?_eq_some_iff.1 hj).1
      rwa [flatMap_len (f := Elem.cells) fun x hx => (hX x hx).1] at this
    have hk : j / S.m < X.length := Nat.div_lt_of_lt_mul (by rw [Nat.mul_comm]; exact hjl)
    have hr : j % S.m < S.m := Nat.mod_lt _ h0
    have hj2 : j / S.m * S.m + j % S.m = j := Nat.div_add_mod' _ _
    rw [← hj2, flatMap_at (f := Elem.cells) (fun x hx => (hX x hx).1) hk hr] at hj
    have := (hE (j / S.m) hk).2 (j % S.m) hr
    rw [Nat.add_assoc, hj2] at this
    rw [this]
    exact hj
  · have hX0 : X = [] := List.length_eq_zero_iff.1 (by omega)
    have hM0 : M.length = 0 := by omega
    subst hX0
    obtain ⟨i, hi, hz0, hz1, hz2⟩ := info_parts ti.2
    have hdone : wpList P ops Q rest (a.put o.dst v) w := h v [] w (by simpa using hXM) (by simp) (by simpa using hown) ⟨rfl, rfl, rfl, Nat.le_refl _, fun _ _ _ => rfl⟩
    rw [hM0] at hy
    cases ad with
    | none =>
      have hrun := run_append_empty (P := P) (w := w) base _ o.type _ i S.m cap ti.1 hi v L.length _ hown.row
      refine wpList_plain hg fun K hK' => ?_
      unfold Oper.wp
      simp [execOp, ho, resolve, invoke, builtin, hs, hy, hrun, Result.andThen]
      exact hK' _ _ hdone
    | some ad =>
      refine wpList_append_own _ hg s y t ho base e i z S.m bytes ti.1 hi hz0 hz1 hz2 hzs h0 v L.length _ hs hown.row ad 0 cap [] hy (by simp) (by simp) (by simp) (by omega) (by simpa using hbytes) hbase fun v' w' r1 r2 _ => h v' [] w' (by simpa using hXM) (by simp) ?_ r2
      exact hown.appended (X := []) (by have h1' := r1; simp only [Nat.add_zero, List.append_nil] at h1' ⊢; exact h1') r2 (by simp)

end Go.Proofs.Ytipfpppcbmpjiaa

/- SplitArguments (spec). (Made by gen_spls.py.) -/
namespace Go.Proofs.Ytipfpppcbmpjiaa
open Go.RowKit
set_option maxHeartbeats 2000000 in
theorem spec_l7Is (cs : List Value) (x : Tok) (fp : List Nat) (w : World) (c : UInt8) (H : sTok.R w cs x fp) :
    Calls Try.prog 33 #[.agg cs.toArray, .string ⟨#[c]⟩] w (Says (decide (x.kind = 4) && (x.text.toList == [c])) w) := by
  obtain ⟨h, rfl, hk, hok, K⟩ := H
  obtain ⟨a0, cap0, rfl, -⟩ := open_strs K
  have hb := alloc_below' w (.cells #[.int .i64 x.kind, .string x.text, .bool x.spaced, .slice a0 x.hidden.length cap0] 33)
  clear K
  go_enter Try.func33, Try.ntmps33
  by_cases h4 : x.kind = 4
  · have e0 : (x.kind == 4) = true := by simp [h4]
    have HF : Hid ((decide (x.kind = 4) && (x.text.toList == [c])) = (x.text.toList == [c])) := by show _ = _; rw [decide_eq_true h4]; rfl
    clear h4
    go_wp2
    go_ret
    exact ⟨ret_bool (by rw [HF.out]), hb⟩
  · have e0 : (x.kind == 4) = false := by simpa using h4
    have HF : Hid ((decide (x.kind = 4) && (x.text.toList == [c])) = false) := by show _ = _; rw [decide_eq_false h4]; rfl
    clear h4
    go_wp2
    go_ret
    exact ⟨ret_bool (by rw [HF.out]), hb⟩

/-- append of one token out of its literal's own block, behind tokens that are older than the row. -/
theorem wp_append_tokG {w : World} {ops : Array Oper} {rest : List Oper} {o : Oper} {a : Act} {Q : Exit → Act → World → Prop} (hg : o.guard = none) (s y : Operand)
    (ho : o.op = .call { callee := .builtin .append, args := #[s, y], argTypes := #[24, 24] })
    (base : Nat) (v : Value) (L : List (Elem Tok)) (hs : a.eval s = v) (hown : RowG sTok base 33 v L w) (k : Int) (x : ByteArray) (b : Bool) (ao : Option Addr) (m c : Nat) (d : Tok) (fp : List Nat)
    (hy : a.eval y = .slice (some ⟨w.heap.size, 0, none⟩) 1 1) (hR : sTok.R w [.int .i64 k, .string x, .bool b, .slice ao m c] d fp) (hhi : ∀ b ∈ fp, b < base)
    (h63 : L.length ≤ 1500000) (hbase : base ≤ w.heap.size)
    (h : ∀ v' w', RowG sTok base 33 v' (L ++ [⟨[.int .i64 k, .string x, .bool b, .slice ao m c], d, fp⟩]) w' → w.grownBy w' v.ownBlock → wpList Try.prog ops Q rest (a.put o.dst v') w') :
    wpList Try.prog ops Q (o :: rest) a (w.alloc (.cells #[.int .i64 k, .string x, .bool b, .slice ao m c] 33)) := by
  have hb := alloc_below' w (.cells #[.int .i64 k, .string x, .bool b, .slice ao m c] 33)
  refine wp_append_rowG (S := sTok) ti_tok rfl (by decide) _ (X := [⟨[.int .i64 k, .string x, .bool b, .slice ao m c], d, fp⟩]) hg s y ho base v hs (hown.below hb) w.heap.size 0 1 1 hy rfl ?_ ?_ ?_ (by unfold maxLen; omega) (by omega) (by simp; omega) fun v' w' a b => h v' w' a (grown_trans (World.grownBy_alloc _ _ _) b)
  · intro x hx; obtain rfl := List.mem_singleton.1 hx; exact ⟨rfl, sTok.below hR hb, hhi⟩
  · intro x hx; obtain rfl := List.mem_singleton.1 hx; simp [Value.oneCell']
  · intro j u hj
    rw [Nat.zero_add, World.cell?_alloc_at _ _ _ _ rfl]
    simpa using hj
/-- The state of l7Split: the arguments done, the one under way. -/
structure SplSt (B0 B1 : Nat) (va vm : Value) (A : List (Elem (List Tok))) (M : List (Elem Tok)) (w : World) : Prop where
  e : RowE sToks B0 24 va A w
  b : ∀ g, va.ownBlock = some g → B1 ≤ g
  g : ∃ top, RowG sTok top 33 vm M w ∧ B1 ≤ top ∧ top ≤ w.heap.size ∧ ∀ x ∈ A, ∀ b ∈ x.fp, b < top
  m : ∀ x ∈ M, ∀ b ∈ x.fp, B0 ≤ b ∧ b < B1
  t : ∀ x ∈ M, TokTy w x.fp
theorem SplSt.below {B0 B1 : Nat} {va vm : Value} {A : List (Elem (List Tok))} {M : List (Elem Tok)} {w w' : World} (h : SplSt B0 B1 va vm A M w) (hb : Below w.heap.size w w') : SplSt B0 B1 va vm A M w' := by
  obtain ⟨top, g1, g2, g3, g4⟩ := h.g
  exact ⟨h.e.below hb, h.b, ⟨top, g1.below hb, g2, Nat.le_trans g3 hb.size, g4⟩, h.m, fun x hx => (h.t x hx).below hb⟩
theorem TokTy.rows {w : World} {fp : List Nat} (h : TokTy w fp) : ∀ b ∈ fp, ∃ cur t fr, w.heap[b]? = some (.cells cur t fr) ∧ t ≠ 24 := fun b hb => by
  obtain ⟨cur, t, fr, h1, h2⟩ := h b hb
  refine ⟨cur, t, fr, h1, ?_⟩
  rcases h2 with rfl | rfl <;> decide
end Go.Proofs.Ytipfpppcbmpjiaa

/- Of the model: truth, numbers. -/
namespace Go.Proofs.Ytipfpppcbmpjiaa
open Go.RowKit

theorem spec_l12Truth (b : Bool) (w : World) : Calls Try.prog 34 #[.bool b] w fun e w' => e = .returned (.int .i64 (bit1 b)) ∧ w' = w := by
  go_enter Try.func34, Try.ntmps34
  cases b
  · go_wp2
    go_ret
    exact ⟨rfl, rfl⟩
  · go_wp2
    go_ret
    exact ⟨rfl, rfl⟩

end Go.Proofs.Ytipfpppcbmpjiaa

/- Places of names in tables, and IsDefined, of both. -/
namespace Go.Proofs.Ytipfpppcbmpjiaa
open Go.RowKit

def cmpI (a b : ByteArray) : Int := Lib.compareBytes a.data.toList b.data.toList
theorem cmpI_less (a b : ByteArray) : decide (cmpI a b < 0) = sLess a b := by
  unfold cmpI sLess
  rw [cmp_less, ByteArray.toList_eq, ByteArray.toList_eq]
theorem cmpI_same (a b : ByteArray) : decide (cmpI a b = 0) = (a.toList == b.toList) := by
  unfold cmpI
  rw [cmp_same, ByteArray.toList_eq, ByteArray.toList_eq]

set_option maxHeartbeats 2000000 in
theorem cmpName (cs : List Value) (x : DMacro) (nm : ByteArray) (fp : List Nat) (w : World) (H : sMacro.R w cs x fp) :
    Calls Try.prog 72 #[.agg cs.toArray, .string nm] w fun e w' => e = .returned (.int .i64 (cmpI x.name nm)) ∧ Below w.heap.size w w' := by
  obtain ⟨h2, h3, p2, p3, rfl, -, K2, K3, rfl⟩ := H
  obtain ⟨a2, ca2, rfl, -⟩ := open_strs K2
  obtain ⟨a3, ca3, rfl, -⟩ := open_rows K3
  clear K2 K3
  have hb := alloc_below' w (.cells #[.string x.name, .bool x.function, .slice a2 x.params.length ca2, .slice a3 x.body.length ca3] 70)
  go_enter Try.func72, Try.ntmps72
  go_wp2_with (go_at_call 73; refine (Try.strings_Compare _ _ _).mono ?_; rintro e w2 ⟨rfl, rfl⟩)
  go_ret
  exact ⟨rfl, hb⟩

set_option maxHeartbeats 4000000 in
theorem lib_Search (v : Value) (l : List DMacro) (nm : ByteArray) (fp : List Nat) (w : World) (ht : tabOk l = true) (H : (sSlice sMacro).R w [v] l fp) :
    Calls Try.prog 71 #[v, .string nm, .func (.func 72) #[] #[]] w fun e w' => e = .returned (.tuple #[.int .i64 (lowAt l nm : Nat), .bool (isIn l nm)]) ∧ Below w.heap.size w w' := by
  obtain ⟨a, cap, rfl, hc, hm, hrow⟩ := open_rows H
  unfold maxLen at hm
  clear H
  have hn10 : l.length ≤ 10 := (tabOk_at ht).1
  have HLE := Lib.hid (low_le l nm)
  have HIFF : Hid (∀ j, (hj : j < l.length) → decide (cmpI l[j].name nm < 0) = decide (j < lowAt l nm)) := fun j hj => by rw [cmpI_less, low_iff ht nm hj]
  have HIN : Hid (∀ h : lowAt l nm < l.length, isIn l nm = decide (cmpI l[lowAt l nm].name nm = 0)) := fun h => by unfold isIn; rw [dif_pos h, cmpI_same]
  have HOUT : Hid (¬ lowAt l nm < l.length → isIn l nm = false) := fun h => by unfold isIn; rw [dif_neg h]
  clear ht
  go_enter Try.func71, Try.ntmps71
  go_wp2
  go_loopw [9, 10] (fun s9 s10 wr => ∃ lo hi : Nat, s9 = .int .i64 lo ∧ s10 = .int .i64 hi ∧ lo ≤ hi ∧ hi ≤ l.length ∧ Hid (lo ≤ lowAt l nm ∧ lowAt l nm ≤ hi) ∧ Below w.heap.size w wr) (fun s9 s10 _ => (intOf s10).toNat - (intOf s9).toNat)
  case atStart => exact ⟨0, l.length, rfl, rfl, by omega, by omega, ⟨by omega, HLE.out⟩, Below.refl _ _⟩
  case round =>
    obtain ⟨lo, hi, rfl, rfl, hlh, hin, HW, hb⟩ := hrel
    by_cases hlt : lo < hi
    · obtain ⟨b1, off1, fps1, rfl, hb1, -, he1⟩ := hrow (by omega)
      obtain ⟨es, hE, hR⟩ := he1 ((lo + hi) / 2) (by omega)
      have HC := Lib.hid (cmpName _ _ nm _ _ (sMacro.below hR hb))
      obtain ⟨h2, h3, p2, p3, rfl, -, -, -, -⟩ := hR
      replace hE := hE.frame (hb.block b1 hb1)
      have c10 : wr.cell? ⟨b1, off1 + (lo + hi) / 2 * 4, none⟩ = some _ := elem_cell0 hE (by decide) rfl
      have c11 : wr.cell? ⟨b1, off1 + (lo + hi) / 2 * 4 + 1, none⟩ = some _ := elem_cell (j := 1) hE (by decide) rfl
      have c12 : wr.cell? ⟨b1, off1 + (lo + hi) / 2 * 4 + 2, none⟩ = some _ := elem_cell (j := 2) hE (by decide) rfl
      have c13 : wr.cell? ⟨b1, off1 + (lo + hi) / 2 * 4 + 3, none⟩ = some _ := elem_cell (j := 3) hE (by decide) rfl
      clear hE he1 hrow
      by_cases hyx : cmpI (l[(lo + hi) / 2]'(by omega)).name nm < 0
      · have HL : Hid ((lo + hi) / 2 + 1 ≤ lowAt l nm ∧ lowAt l nm ≤ hi) := by
          have h1 := HIFF.out ((lo + hi) / 2) (by omega)
          rw [decide_eq_true hyx] at h1
          have h2 := of_decide_eq_true h1.symm
          exact ⟨h2, HW.out.2⟩
        go_wp2_with fail
        refine HC.out.mono ?_
        rintro e w2 ⟨rfl, hb2⟩
        have hb' := hb.trans (hb2.mono hb.size)
        generalize cmpI (l[(lo + hi) / 2]'(by omega)).name nm = c at *
        go_wp2
        go_roundw
        case rel => exact ⟨(lo + hi) / 2 + 1, hi, by first | rfl | rw [show ((lo : Int) + (hi : Int)) / 2 + 1 = (((lo + hi) / 2 + 1 : Nat) : Int) by omega], rfl, by omega, hin, HL, hb'⟩
        case measure => simp [intOf]; omega
      · have HL : Hid (lo ≤ lowAt l nm ∧ lowAt l nm ≤ (lo + hi) / 2) := by
          have h1 := HIFF.out ((lo + hi) / 2) (by omega)
          rw [decide_eq_false hyx] at h1
          have h2 := of_decide_eq_false h1.symm
          exact ⟨HW.out.1, by omega⟩
        go_wp2_with fail
        refine HC.out.mono ?_
        rintro e w2 ⟨rfl, hb2⟩
        have hb' := hb.trans (hb2.mono hb.size)
        generalize cmpI (l[(lo + hi) / 2]'(by omega)).name nm = c at *
        go_wp2
        go_roundw
        case rel => exact ⟨lo, (lo + hi) / 2, rfl, by first | rfl | rw [show ((lo : Int) + (hi : Int)) / 2 = (((lo + hi) / 2 : Nat) : Int) by omega], by omega, by omega, HL, hb'⟩
        case measure => simp [intOf]; omega
    · obtain rfl : hi = lo := by omega
      have hlow : lowAt l nm = hi := by have := HW.out; omega
      by_cases hn : hi < l.length
      · have HD : Hid (isIn l nm = decide (cmpI l[hi].name nm = 0)) := by
          subst hlow
          exact HIN.out hn
        have HA := Lib.hid hlow
        clear hlow HIN HOUT HIFF HW HLE
        obtain ⟨b1, off1, fps1, rfl, hb1, -, he1⟩ := hrow (by omega)
        obtain ⟨es, hE, hR⟩ := he1 (hi) (by omega)
        have HC := Lib.hid (cmpName _ _ nm _ _ (sMacro.below hR hb))
        obtain ⟨h2, h3, p2, p3, rfl, -, -, -, -⟩ := hR
        replace hE := hE.frame (hb.block b1 hb1)
        have c10 : wr.cell? ⟨b1, off1 + hi * 4, none⟩ = some _ := elem_cell0 hE (by decide) rfl
        have c11 : wr.cell? ⟨b1, off1 + hi * 4 + 1, none⟩ = some _ := elem_cell (j := 1) hE (by decide) rfl
        have c12 : wr.cell? ⟨b1, off1 + hi * 4 + 2, none⟩ = some _ := elem_cell (j := 2) hE (by decide) rfl
        have c13 : wr.cell? ⟨b1, off1 + hi * 4 + 3, none⟩ = some _ := elem_cell (j := 3) hE (by decide) rfl
        clear hE he1 hrow
        by_cases hyx : cmpI l[hi].name nm = 0
        · have HF := Lib.hid (HD.out.trans (decide_eq_true hyx))
          rw [hyx] at HC
          clear hyx HD
          go_wp2_with fail
          refine HC.out.mono ?_
          rintro e w2 ⟨rfl, hb2⟩
          go_wp2
          go_ret2
          exact ⟨by rw [HA.out, HF.out]; rfl, hb.trans (hb2.mono hb.size)⟩
        · have HF := Lib.hid (HD.out.trans (decide_eq_false hyx))
          generalize cmpI l[hi].name nm = c at *
          have hc0 : (c == 0) = false := by simpa using hyx
          clear HD
          go_wp2_with fail
          refine HC.out.mono ?_
          rintro e w2 ⟨rfl, hb2⟩
          go_wp2
          go_ret2
          exact ⟨by rw [HA.out, HF.out]; rfl, hb.trans (hb2.mono hb.size)⟩
      · have HF := Lib.hid (HOUT.out (by omega))
        have HA := Lib.hid hlow
        clear hlow HIN HOUT HIFF HW HLE
        go_wp2
        go_ret2
        exact ⟨by rw [HA.out, HF.out]; rfl, hb⟩

theorem impl_placeOf (v : Value) (l : List DMacro) (nm : ByteArray) (fp : List Nat) (w : World) (ht : tabOk l = true) (H : (sSlice sMacro).R w [v] l fp) :
    Calls Try.prog 54 #[v, .string nm] w fun e w' => e = .returned (.tuple #[.int .i64 (lowAt l nm : Nat), .bool (isIn l nm)]) ∧ Below w.heap.size w w' := by
  have HC := Lib.hid (lib_Search v l nm fp w ht H)
  clear H ht
  go_enter Try.func54, Try.ntmps54
  go_wp2_with fail
  refine HC.out.mono ?_
  rintro e w2 ⟨rfl, hb⟩
  go_wp2
  go_ret2
  exact ⟨rfl, hb⟩

set_option maxHeartbeats 4000000 in
theorem spec_l6Place (v : Value) (l : List DMacro) (nm : ByteArray) (fp : List Nat) (w : World) (H : (sSlice sMacro).R w [v] l fp) :
    Calls Try.prog 35 #[v, .string nm] w fun e w' => e = .returned (.int .i64 (place l nm)) ∧ Below w.heap.size w w' := by
  obtain ⟨a, cap, rfl, hc, hm, hrow⟩ := open_rows H
  unfold maxLen at hm
  clear H
  go_enter Try.func35, Try.ntmps35
  go_wp2
  go_loopw [5] (fun i wr => ∃ k : Nat, k ≤ l.length ∧ i = .int .i64 k ∧ Hid (place l nm = plFrom l nm k) ∧ Below w.heap.size w wr) (fun i _ => l.length - (intOf i).toNat)
  case atStart => exact ⟨0, by omega, rfl, rfl, Below.refl _ _⟩
  case round =>
    obtain ⟨k, hk, rfl, HP, hb⟩ := hrel
    by_cases hlt : k < l.length
    · obtain ⟨b1, off1, fps1, rfl, hb1, -, he1⟩ := hrow (by omega)
      obtain ⟨es, hE, hR⟩ := he1 k hlt
      obtain ⟨h2, h3, p2, p3, rfl, -, -, -, -⟩ := hR
      replace hE := hE.frame (hb.block b1 hb1)
      have c10 : wr.cell? ⟨b1, off1 + k * 4, none⟩ = some _ := elem_cell0 hE (by decide) rfl
      clear hE he1 hrow
      cases g : (l[k].name.toList == nm.toList)
      · have HF := Lib.hid (HP.out.trans (pl_miss hlt g))
        clear HP
        go_wp2
        go_roundw
        case rel => exact ⟨k + 1, by omega, by go_num, HF, hb⟩
        case measure => simp [intOf]; omega
      · have HF := Lib.hid (HP.out.trans (pl_hit hlt g))
        clear HP
        go_wp2
        go_ret
        exact ⟨by rw [HF.out]; rfl, hb⟩
    · have HF := Lib.hid (HP.out.trans (pl_end (by omega)))
      clear HP
      go_wp2
      go_ret
      exact ⟨by rw [HF.out]; rfl, hb⟩

end Go.Proofs.Ytipfpppcbmpjiaa

/- A macro's copy, and a table's, as the call's own memory. (Made by gen_ownm.py.) -/
namespace Go.Proofs.Ytipfpppcbmpjiaa
open Go.RowKit

/-- A macro of the call's own. -/
def OwnMac (x : DMacro) (w : World) (e : Ending) (w' : World) : Prop :=
  ∃ (a2 a3 : Option Addr) (c2 c3 : Nat) (fp : List Nat), e = .returned (.agg #[.string x.name, .bool x.function, .slice a2 x.params.length c2, .slice a3 x.body.length c3]) ∧ sMacro.R w' [.string x.name, .bool x.function, .slice a2 x.params.length c2, .slice a3 x.body.length c3] x fp ∧
    (∀ b ∈ fp, w.heap.size ≤ b) ∧ NoMac w' fp ∧ Below w.heap.size w w'
/-- Four cells of a result. -/
def setM (w : World) (g : Nat) (v0 v1 v2 v3 : Value) : World := (((w.setCell ⟨g, 0, none⟩ v0).setCell ⟨g, 1, none⟩ v1).setCell ⟨g, 2, none⟩ v2).setCell ⟨g, 3, none⟩ v3
theorem setM_at {w : World} {g : Nat} {z0 z1 z2 z3 : Value} {ty : TypeId} (h : w.heap[g]? = some (.cells #[z0, z1, z2, z3] ty (0, 0))) (v0 v1 v2 v3 : Value) :
    (setM w g v0 v1 v2 v3).heap[g]? = some (.cells #[v0, v1, v2, v3] ty (0, 0)) := blk_set (blk_set (blk_set (blk_set h 0 _) 1 _) 2 _) 3 _
theorem setM_far {w : World} {g b : Nat} (h : b ≠ g) (v0 v1 v2 v3 : Value) : (setM w g v0 v1 v2 v3).heap[b]? = w.heap[b]? := by
  unfold setM
  rw [Below.heap_setCell _ _ _ _ h, Below.heap_setCell _ _ _ _ h, Below.heap_setCell _ _ _ _ h, Below.heap_setCell _ _ _ _ h]
theorem setM_below {B : Nat} {w0 w : World} (hB : Below B w0 w) {g : Nat} (hg : B ≤ g) (v0 v1 v2 v3 : Value) : Below B w0 (setM w g v0 v1 v2 v3) :=
  ((((hB).setCell (p := ⟨g, 0, none⟩) hg v0).setCell (p := ⟨g, 1, none⟩) hg v1).setCell (p := ⟨g, 2, none⟩) hg v2).setCell (p := ⟨g, 3, none⟩) hg v3
theorem NoMac.app {w : World} {a b : List Nat} (h1 : NoMac w a) (h2 : NoMac w b) : NoMac w (a ++ b) := fun c hc => by
  rcases List.mem_append.1 hc with h | h
  · exact h1 c h
  · exact h2 c h

set_option maxHeartbeats 8000000 in
set_option maxRecDepth 100000 in
theorem spec_l1OwnMacro (cs : List Value) (x : DMacro) (fp : List Nat) (w : World) (hp : x.params.length ≤ 2000000) (hl : x.body.length ≤ 1048576) (hx : ∀ k, (hk : k < x.body.length) → x.body[k].hidden.length ≤ 2000000) (H : sMacro.R w cs x fp) :
    Calls Try.prog 55 #[.agg cs.toArray] w (OwnMac x w) := by
  obtain ⟨h2, h3, p2, p3, rfl, hok, K2, K3, rfl⟩ := H
  obtain ⟨a2, c2, rfl, -, -, -, hsz⟩ := open_strs K2
  obtain ⟨a3, c3, rfl, -⟩ := open_rows K3
  have hb3 := below3 w #[.string x.name, .bool x.function, .slice a2 x.params.length c2, .slice a3 x.body.length c3] #[.string ⟨#[]⟩, .bool false, .slice none 0 0, .slice none 0 0] #[.string x.name, .bool x.function, .slice a2 x.params.length c2, .slice a3 x.body.length c3] 70 70 70
  have g0 := alloc3_blk0 w #[.string x.name, .bool x.function, .slice a2 x.params.length c2, .slice a3 x.body.length c3] #[.string ⟨#[]⟩, .bool false, .slice none 0 0, .slice none 0 0] #[.string x.name, .bool x.function, .slice a2 x.params.length c2, .slice a3 x.body.length c3] 70 70 70
  obtain ⟨g1, g2, hs3⟩ := alloc3_blk w #[.string x.name, .bool x.function, .slice a2 x.params.length c2, .slice a3 x.body.length c3] #[.string ⟨#[]⟩, .bool false, .slice none 0 0, .slice none 0 0] #[.string x.name, .bool x.function, .slice a2 x.params.length c2, .slice a3 x.body.length c3] 70 70 70
  have HK2 := Lib.hid ((sSlice sStr).below K2 hb3)
  have HK3 := Lib.hid ((sSlice sTok).below K3 hb3)
  have HSZ := Lib.hid hsz
  have HX := Lib.hid hx
  have HPL : Hid (∀ b ∈ p3, b < w.heap.size) := fun b hb => (sSlice sTok).lt K3 b hb
  clear K2 K3 hsz hx
  obtain ⟨hv, HV⟩ : ∃ hv : Value, Hid (hv = Value.slice a2 x.params.length c2) := ⟨_, rfl⟩
  go_enter Try.func55, Try.ntmps55
  go_upto_region 2 with fail
  generalize (((w.alloc (.cells #[.string x.name, .bool x.function, .slice a2 x.params.length c2, .slice a3 x.body.length c3] 70)).alloc (.cells #[.string ⟨#[]⟩, .bool false, .slice none 0 0, .slice none 0 0] 70)).alloc (.cells #[.string x.name, .bool x.function, .slice a2 x.params.length c2, .slice a3 x.body.length c3] 70)) = W3 at *
  have hba := alloc_below' W3 (.cells #[] 9)
  have c02 : (W3.alloc (.cells #[] 9)).cell? ⟨w.heap.size, 2, none⟩ = some hv := by
    rw [HV.out]
    exact (hba.cell (p := ⟨w.heap.size, 2, none⟩) (by show w.heap.size < _; omega)).trans (cell_of_row _ _ 2 _ _ _ g0)
  have hlit : Hid ((W3.alloc (.cells #[] 9)).ownsRow W3.heap.size 9 1 (.slice (some ⟨W3.heap.size, 0, none⟩) 0 0) ([] : List ByteArray).length (([] : List ByteArray).map Value.string)) :=
    World.ownsRow_lit (base := W3.heap.size) (e := 9) (size := 1) W3 #[] 0 (Nat.le_refl _) (by simp) rfl
  have HKV : Hid ((sSlice sStr).R (W3.alloc (.cells #[] 9)) [hv] x.params p2) := by show (sSlice sStr).R _ _ _ _; rw [HV.out]; exact (sSlice sStr).below HK2.out hba
  have HG := Lib.hid (And.intro g0 (And.intro g1 (And.intro g2 hs3)))
  have hb4 := Lib.hid (hb3.trans (hba.mono hb3.size))
  clear g0 g1 g2 hb3 hs3 hba
  go_wp2_with (
    at_builtin
    refine wp_append_strsR rfl (.tmp 5) (.tmp 7) rfl W3.heap.size (.slice (some ⟨W3.heap.size, 0, none⟩) 0 0) hv [] x.params _ rfl hlit.out rfl HKV.out (by simp; omega) (by simp) ?_
    intro v5 w1 hown hgrow
    rw [List.nil_append] at hown
    obtain ⟨fp1, R1, O1, hfp⟩ := own_flat (ok := okStr) hown HSZ.out
    have hs3 := HG.out.2.2.2
    have hblk : ∀ k, k < W3.heap.size → w1.heap[k]? = W3.heap[k]? := fun k hk => (hgrow.block k (by simp; omega) (by simp [Value.ownBlock]; omega)).trans ((alloc_below' W3 _).block k hk)
    have HG1 : Hid (w1.heap[w.heap.size]? = some (.cells #[.string x.name, .bool x.function, .slice a2 x.params.length c2, .slice a3 x.body.length c3] 70 (0, 0)) ∧ w1.heap[w.heap.size + 1]? = some (.cells #[.string ⟨#[]⟩, .bool false, .slice none 0 0, .slice none 0 0] 70 (0, 0)) ∧ w1.heap[w.heap.size + 1 + 1]? = some (.cells #[.string x.name, .bool x.function, .slice a2 x.params.length c2, .slice a3 x.body.length c3] 70 (0, 0))) :=
      ⟨(hblk _ (by omega)).trans HG.out.1, (hblk _ (by omega)).trans HG.out.2.1, (hblk _ (by omega)).trans HG.out.2.2.1⟩
    have hb : Below w.heap.size w w1 := hb4.out.grown hgrow (by simp; omega) (fun b hb => by simp [Value.ownBlock] at hb; omega)
    have hbW : Below W3.heap.size W3 w1 := ((Below.refl W3.heap.size W3).alloc (Nat.le_refl _) (.cells #[] 9)).grown hgrow (by simp) (fun b hb => by simp [Value.ownBlock] at hb; omega)
    have hty : NoMac w1 fp1 := fun b hb' => by
      have hv := hfp b hb'
      rcases hown.2 with ⟨rfl, _⟩ | ⟨g, cap, cur, rfl, _, hg, _⟩
      · simp [Value.ownBlock] at hv
      · simp only [Value.ownBlock, Option.some.injEq] at hv
        subst hv
        exact ⟨_, _, _, hg, by decide⟩
    have hlo : ∀ b ∈ fp1, w.heap.size + 3 ≤ b := fun b hb => by have := (O1.2 b hb).1; omega
    have hK3' := (sSlice sTok).below HK3.out hbW
    have hW1 : w.heap.size + 3 ≤ w1.heap.size := by have := hbW.size; omega
    clear HG hblk hgrow hown hfp O1 c02 hb4 HKV hlit hs3 hbW
    obtain ⟨a1, cap1, rfl, hq⟩ := open_rows R1
    clear hq
    have c22 : w1.cell? ⟨w.heap.size + 1 + 1, 2, none⟩ = some (.slice a2 x.params.length c2) := cell_of_row w1 (w.heap.size + 1 + 1) 2 _ _ _ HG1.out.2.2
    have f22 : w1.frozen? ⟨w.heap.size + 1 + 1, 2, none⟩ = false := frozen_of_row w1 (w.heap.size + 1 + 1) 2 _ _ HG1.out.2.2
    have e03 : w1.cell? ⟨w.heap.size, 3, none⟩ = some (.slice a3 x.body.length c3) := cell_of_row w1 w.heap.size 3 _ _ _ HG1.out.1
    have far : ∀ b, b ≠ w.heap.size + 1 + 1 → (w1.setCell ⟨w.heap.size + 1 + 1, 2, none⟩ (.slice a1 x.params.length cap1)).heap[b]? = w1.heap[b]? := fun b hb => Below.heap_setCell _ _ _ _ hb
    have e03' : (w1.setCell ⟨w.heap.size + 1 + 1, 2, none⟩ (.slice a1 x.params.length cap1)).cell? ⟨w.heap.size, 3, none⟩ = some (.slice a3 x.body.length c3) := cell_of_row _ w.heap.size 3 _ _ _ ((far _ (by omega)).trans HG1.out.1)
    have HG2 : Hid ((w1.setCell ⟨w.heap.size + 1 + 1, 2, none⟩ (.slice a1 x.params.length cap1)).heap[w.heap.size + 1]? = some (.cells #[.string ⟨#[]⟩, .bool false, .slice none 0 0, .slice none 0 0] 70 (0, 0)) ∧ (w1.setCell ⟨w.heap.size + 1 + 1, 2, none⟩ (.slice a1 x.params.length cap1)).heap[w.heap.size + 1 + 1]? = some (.cells #[.string x.name, .bool x.function, .slice a1 x.params.length cap1, .slice a3 x.body.length c3] 70 (0, 0))) :=
      ⟨(far _ (by omega)).trans HG1.out.2.1, blk_set HG1.out.2.2 2 _⟩
    have HR2 : Hid ((sSlice sStr).R (w1.setCell ⟨w.heap.size + 1 + 1, 2, none⟩ (.slice a1 x.params.length cap1)) [.slice a1 x.params.length cap1] x.params fp1) := (sSlice sStr).frame (fun b hb => far b (by have := hlo b hb; omega)) R1
    have HNM2 : Hid (NoMac (w1.setCell ⟨w.heap.size + 1 + 1, 2, none⟩ (.slice a1 x.params.length cap1)) fp1) := hty.same fun b hb _ => far b (by have := hlo b hb; omega)
    have HP3 : Hid (∀ b ∈ p3, b ≠ w.heap.size + 1 + 1) := fun b hb => by have := HPL.out b hb; omega
    have HK4 : Hid ((sSlice sTok).R (w1.setCell ⟨w.heap.size + 1 + 1, 2, none⟩ (.slice a1 x.params.length cap1)) [.slice a3 x.body.length c3] x.body p3) := (sSlice sTok).frame (fun b hb => far b (HP3.out b hb)) hK3'
    have HB2 := Lib.hid (hb.setCell (p := ⟨w.heap.size + 1 + 1, 2, none⟩) (by show w.heap.size ≤ w.heap.size + 1 + 1; omega) (.slice a1 x.params.length cap1))
    have HLO1 := Lib.hid hlo
    have HS2 : Hid ((w1.setCell ⟨w.heap.size + 1 + 1, 2, none⟩ (.slice a1 x.params.length cap1)).heap.size = w1.heap.size) := by show _ = _; simp
    clear HG1 hty hlo hb R1 far hK3' HK3)
  have hs2 := HS2.out
  generalize (w1.setCell ⟨w.heap.size + 1 + 1, 2, none⟩ (.slice a1 x.params.length cap1)) = w2 at *
  clear c22 f22 e03
  refine (spec_l1OwnTokenList_t _ x.body p3 w2 hl HX.out HK4.out).mono ?_
  rintro e w3 ⟨v3, fp3, rfl, R3, hlo3, hn3, hb3⟩
  obtain ⟨a4, c4, rfl, -⟩ := open_rows R3
  have hs3 := hb3.size
  have HG3 : Hid (w3.heap[w.heap.size + 1]? = some (.cells #[.string ⟨#[]⟩, .bool false, .slice none 0 0, .slice none 0 0] 70 (0, 0)) ∧ w3.heap[w.heap.size + 1 + 1]? = some (.cells #[.string x.name, .bool x.function, .slice a1 x.params.length cap1, .slice a3 x.body.length c3] 70 (0, 0))) :=
    ⟨(hb3.block _ (by omega)).trans HG2.out.1, (hb3.block _ (by omega)).trans HG2.out.2⟩
  have far : ∀ b, b ≠ w.heap.size + 1 + 1 → (w3.setCell ⟨w.heap.size + 1 + 1, 3, none⟩ (.slice a4 x.body.length c4)).heap[b]? = w3.heap[b]? := fun b hb => Below.heap_setCell _ _ _ _ hb
  have HG4 : Hid ((w3.setCell ⟨w.heap.size + 1 + 1, 3, none⟩ (.slice a4 x.body.length c4)).heap[w.heap.size + 1]? = some (.cells #[.string ⟨#[]⟩, .bool false, .slice none 0 0, .slice none 0 0] 70 (0, 0)) ∧ (w3.setCell ⟨w.heap.size + 1 + 1, 3, none⟩ (.slice a4 x.body.length c4)).heap[w.heap.size + 1 + 1]? = some (.cells #[.string x.name, .bool x.function, .slice a1 x.params.length cap1, .slice a4 x.body.length c4] 70 (0, 0))) :=
    ⟨(far _ (by omega)).trans HG3.out.1, blk_set HG3.out.2 3 _⟩
  have HRF : Hid (sMacro.R (setM (w3.setCell ⟨w.heap.size + 1 + 1, 3, none⟩ (.slice a4 x.body.length c4)) (w.heap.size + 1) (.string x.name) (.bool x.function) (.slice a1 x.params.length cap1) (.slice a4 x.body.length c4)) [.string x.name, .bool x.function, .slice a1 x.params.length cap1, .slice a4 x.body.length c4] x (fp1 ++ fp3)) :=
    ⟨_, _, fp1, fp3, rfl, hok, (sSlice sStr).frame (fun b hb => (setM_far (by have := HLO1.out b hb; omega) _ _ _ _).trans (far b (by have := HLO1.out b hb; omega))) ((sSlice sStr).below HR2.out hb3), (sSlice sTok).frame (fun b hb => (setM_far (by have := hlo3 b hb; omega) _ _ _ _).trans (far b (by have := hlo3 b hb; omega))) R3, rfl⟩
  have HNF : Hid (NoMac (setM (w3.setCell ⟨w.heap.size + 1 + 1, 3, none⟩ (.slice a4 x.body.length c4)) (w.heap.size + 1) (.string x.name) (.bool x.function) (.slice a1 x.params.length cap1) (.slice a4 x.body.length c4)) (fp1 ++ fp3)) :=
    NoMac.app ((HNM2.out.below hb3).same fun b hb _ => (setM_far (by have := HLO1.out b hb; omega) _ _ _ _).trans (far b (by have := HLO1.out b hb; omega))) (hn3.same fun b hb _ => (setM_far (by have := hlo3 b hb; omega) _ _ _ _).trans (far b (by have := hlo3 b hb; omega)))
  have HLF : Hid (∀ b ∈ fp1 ++ fp3, w.heap.size ≤ b) := fun b hb => by
    rcases List.mem_append.1 hb with h | h
    · have := HLO1.out b h; omega
    · have := hlo3 b h; omega
  have HBF := Lib.hid (setM_below (g := w.heap.size + 1) ((HB2.out.trans (hb3.mono HB2.out.size)).setCell (p := ⟨w.heap.size + 1 + 1, 3, none⟩) (by show w.heap.size ≤ w.heap.size + 1 + 1; omega) (.slice a4 x.body.length c4)) (by omega) (.string x.name) (.bool x.function) (.slice a1 x.params.length cap1) (.slice a4 x.body.length c4))
  have HSF := Lib.hid (setM_at HG4.out.1 (.string x.name) (.bool x.function) (.slice a1 x.params.length cap1) (.slice a4 x.body.length c4))
  have d3 : w3.cell? ⟨w.heap.size + 1 + 1, 3, none⟩ = some (.slice a3 x.body.length c3) := cell_of_row w3 (w.heap.size + 1 + 1) 3 _ _ _ HG3.out.2
  have df3 : w3.frozen? ⟨w.heap.size + 1 + 1, 3, none⟩ = false := frozen_of_row w3 (w.heap.size + 1 + 1) 3 _ _ HG3.out.2
  clear far HG2 HG3 HR2 HNM2 HK4 HB2 HLO1 hb3 hn3 hlo3 R3 HP3
  have y0 : (w3.setCell ⟨w.heap.size + 1 + 1, 3, none⟩ (.slice a4 x.body.length c4)).cell? ⟨w.heap.size + 1 + 1, 0, none⟩ = some (.string x.name) := cell_of_row _ _ 0 _ _ _ HG4.out.2
  have z0 : (w3.setCell ⟨w.heap.size + 1 + 1, 3, none⟩ (.slice a4 x.body.length c4)).cell? ⟨w.heap.size + 1, 0, none⟩ = some (.string ⟨#[]⟩) := cell_of_row _ _ 0 _ _ _ HG4.out.1
  have zf0 : (w3.setCell ⟨w.heap.size + 1 + 1, 3, none⟩ (.slice a4 x.body.length c4)).frozen? ⟨w.heap.size + 1, 0, none⟩ = false := frozen_of_row _ _ 0 _ _ HG4.out.1
  have y1 : (w3.setCell ⟨w.heap.size + 1 + 1, 3, none⟩ (.slice a4 x.body.length c4)).cell? ⟨w.heap.size + 1 + 1, 1, none⟩ = some (.bool x.function) := cell_of_row _ _ 1 _ _ _ HG4.out.2
  have z1 : (w3.setCell ⟨w.heap.size + 1 + 1, 3, none⟩ (.slice a4 x.body.length c4)).cell? ⟨w.heap.size + 1, 1, none⟩ = some (.bool false) := cell_of_row _ _ 1 _ _ _ HG4.out.1
  have zf1 : (w3.setCell ⟨w.heap.size + 1 + 1, 3, none⟩ (.slice a4 x.body.length c4)).frozen? ⟨w.heap.size + 1, 1, none⟩ = false := frozen_of_row _ _ 1 _ _ HG4.out.1
  have y2 : (w3.setCell ⟨w.heap.size + 1 + 1, 3, none⟩ (.slice a4 x.body.length c4)).cell? ⟨w.heap.size + 1 + 1, 2, none⟩ = some (.slice a1 x.params.length cap1) := cell_of_row _ _ 2 _ _ _ HG4.out.2
  have z2 : (w3.setCell ⟨w.heap.size + 1 + 1, 3, none⟩ (.slice a4 x.body.length c4)).cell? ⟨w.heap.size + 1, 2, none⟩ = some (.slice none 0 0) := cell_of_row _ _ 2 _ _ _ HG4.out.1
  have zf2 : (w3.setCell ⟨w.heap.size + 1 + 1, 3, none⟩ (.slice a4 x.body.length c4)).frozen? ⟨w.heap.size + 1, 2, none⟩ = false := frozen_of_row _ _ 2 _ _ HG4.out.1
  have y3 : (w3.setCell ⟨w.heap.size + 1 + 1, 3, none⟩ (.slice a4 x.body.length c4)).cell? ⟨w.heap.size + 1 + 1, 3, none⟩ = some (.slice a4 x.body.length c4) := cell_of_row _ _ 3 _ _ _ HG4.out.2
  have z3 : (w3.setCell ⟨w.heap.size + 1 + 1, 3, none⟩ (.slice a4 x.body.length c4)).cell? ⟨w.heap.size + 1, 3, none⟩ = some (.slice none 0 0) := cell_of_row _ _ 3 _ _ _ HG4.out.1
  have zf3 : (w3.setCell ⟨w.heap.size + 1 + 1, 3, none⟩ (.slice a4 x.body.length c4)).frozen? ⟨w.heap.size + 1, 3, none⟩ = false := frozen_of_row _ _ 3 _ _ HG4.out.1
  go_wp2
  refine bodyPost_ret (results_cell_row rfl _ _ (w.heap.size + 1) _ _ _ _ rfl HSF.out Try.underlying70 rfl (by kernel_rfl)) rfl ?_
  exact ⟨a1, a4, cap1, c4, fp1 ++ fp3, rfl, HRF.out, HLF.out, HNF.out, HBF.out⟩

end Go.Proofs.Ytipfpppcbmpjiaa
