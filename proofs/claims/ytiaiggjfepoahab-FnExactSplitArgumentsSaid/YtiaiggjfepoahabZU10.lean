/- Texts that the proof of U stands on, in one file. -/
import Derived.Test.YtiaiggjfepoahabZU9
import Derived.OwnWalk
import Derived.IntWalk
import Derived.Test.YtiaiggjfepoahabZU4
import Derived.Test.YtiaiggjfepoahabZU3
import Derived.Test.YtiaiggjfepoahabZU1
import Derived.Test.YtiaiggjfepoahabZU5
import Derived.Test.YtiaiggjfepoahabZU6
set_option linter.unusedVariables false
set_option linter.unusedSimpArgs false
/- SplitArguments (spec). (Made by gen_spls.py.) -/
namespace Go.Proofs.Ytiaiggjfepoahab
open Go.RowKit

theorem is_open {t : Tok} (h : tokOk t = true) : (decide (t.kind = 4) && (t.text.toList == [40])) = isOpen t := by
  show _ = (t.text.toList == [40])
  cases e : (t.text.toList == [40])
  · rw [Bool.and_false]
  · rw [decide_eq_true (kind_of_open h e)]; rfl
theorem is_shut {t : Tok} (h : tokOk t = true) : (decide (t.kind = 4) && (t.text.toList == [41])) = isShut t := by
  show _ = (t.text.toList == [41])
  cases e : (t.text.toList == [41])
  · rw [Bool.and_false]
  · rw [decide_eq_true (kind_of_shut h e)]; rfl
theorem is_com {t : Tok} (h : tokOk t = true) : (decide (t.kind = 4) && (t.text.toList == [44])) = isCom t := by
  show _ = (t.text.toList == [44])
  cases e : (t.text.toList == [44])
  · rw [Bool.and_false]
  · rw [decide_eq_true (kind_of_com h e)]; rfl

set_option maxHeartbeats 2000000 in
theorem spec_l7Is (cs : List Value) (x : Tok) (fp : List Nat) (w : World) (c : UInt8) (H : sTok.R w cs x fp) :
    Calls Try.prog 42 #[.agg cs.toArray, .string ⟨#[c]⟩] w (Says (decide (x.kind = 4) && (x.text.toList == [c])) w) := by
  obtain ⟨h, rfl, hk, hok, K⟩ := H
  obtain ⟨a0, cap0, rfl, -⟩ := open_strs K
  have hb := alloc_below' w (.cells #[.int .i64 x.kind, .string x.text, .bool x.spaced, .slice a0 x.hidden.length cap0] 47)
  clear K
  go_enter Try.func42, Try.ntmps42
  by_cases h4 : x.kind = 4
  · have e0 : (x.kind == 4) = true := by simp [h4]
    have HF : Hid ((decide (x.kind = 4) && (x.text.toList == [c])) = (x.text.toList == [c])) := by show _ = _; rw [decide_eq_true h4]; rfl
    clear h4
    go_wp2
    go_ret
    exact ⟨ret_bool (by rw [HF.out]), hb⟩
  · have e0 : (x.kind == 4) = false := by simpa using h4
    have HF : Hid ((decide (x.kind = 4) && (x.text.toList == [c])) = false) := by show _ = _; rw [decide_eq_false h4]; rfl
    clear h4
    go_wp2
    go_ret
    exact ⟨ret_bool (by rw [HF.out]), hb⟩

/-- append of one token out of its literal's own block, behind tokens that are older than the row. -/
theorem wp_append_tokG {w : World} {ops : Array Oper} {rest : List Oper} {o : Oper} {a : Act} {Q : Exit → Act → World → Prop} (hg : o.guard = none) (s y : Operand)
    (ho : o.op = .call { callee := .builtin .append, args := #[s, y], argTypes := #[30, 30] })
    (base : Nat) (v : Value) (L : List (Elem Tok)) (hs : a.eval s = v) (hown : RowG sTok base 47 v L w) (k : Int) (x : ByteArray) (b : Bool) (ao : Option Addr) (m c : Nat) (d : Tok) (fp : List Nat)
    (hy : a.eval y = .slice (some ⟨w.heap.size, 0, none⟩) 1 1) (hR : sTok.R w [.int .i64 k, .string x, .bool b, .slice ao m c] d fp) (hhi : ∀ b ∈ fp, b < base)
    (h63 : L.length ≤ 1500000) (hbase : base ≤ w.heap.size)
    (h : ∀ v' w', RowG sTok base 47 v' (L ++ [⟨[.int .i64 k, .string x, .bool b, .slice ao m c], d, fp⟩]) w' → w.grownBy w' v.ownBlock → wpList Try.prog ops Q rest (a.put o.dst v') w') :
    wpList Try.prog ops Q (o :: rest) a (w.alloc (.cells #[.int .i64 k, .string x, .bool b, .slice ao m c] 47)) := by
  have hb := alloc_below' w (.cells #[.int .i64 k, .string x, .bool b, .slice ao m c] 47)
  refine wp_append_rowG (S := sTok) ti_tok rfl (by decide) _ (X := [⟨[.int .i64 k, .string x, .bool b, .slice ao m c], d, fp⟩]) hg s y ho base v hs (hown.below hb) w.heap.size 0 1 1 hy rfl ?_ ?_ ?_ (by unfold maxLen; omega) (by omega) (by simp; omega) fun v' w' a b => h v' w' a (grown_trans (World.grownBy_alloc _ _ _) b)
  · intro x hx; obtain rfl := List.mem_singleton.1 hx; exact ⟨rfl, sTok.below hR hb, hhi⟩
  · intro x hx; obtain rfl := List.mem_singleton.1 hx; simp [Value.oneCell']
  · intro j u hj
    rw [Nat.zero_add, World.cell?_alloc_at _ _ _ _ rfl]
    simpa using hj
/-- append of elements, of a row that lies from a second base on. -/
theorem wp_append_rowEB {α : Type} {S : Shape α} {P : Program} {t e : TypeId} {z : Value} {bytes : Nat} (ti : TI P t e z S.m bytes) (hzs : z.cells.size = S.m) (h0 : 0 < S.m) (w : World) {L X : List (Elem α)} {ops : Array Oper} {rest : List Oper} {o : Oper} {a : Act} {Q : Exit → Act → World → Prop}
    (hg : o.guard = none) (s y : Operand) (ho : o.op = .call { callee := .builtin .append, args := #[s, y], argTypes := #[t, t] })
    (base top : Nat) (v : Value) (hs : a.eval s = v) (hown : RowE S base e v L w) (g m c : Nat) (hy : a.eval y = .slice (some ⟨g, 0, none⟩) m c) (hm : X.length = m)
    (hlen : ∀ x ∈ X, x.cells.length = S.m) (h1 : ∀ x ∈ X, ∀ u ∈ x.cells, u.oneCell' = true) (hcell : ∀ j u, (X.flatMap (·.cells))[j]? = some u → w.cell? ⟨g, j, none⟩ = some u)
    (hR : ∀ x ∈ X, S.R w x.cells x.d x.fp) (hlo : ∀ x ∈ X, ∀ b ∈ x.fp, base ≤ b) (hty : ∀ x ∈ X, ∀ b ∈ x.fp, ∃ cur t fr, w.heap[b]? = some (.cells cur t fr) ∧ t ≠ e)
    (h63 : L.length + m ≤ maxLen) (hbytes : (L.length + m) * bytes ≤ 140737488355328) (hbase : base ≤ top) (htop : top ≤ w.heap.size) (hv : ∀ b, v.ownBlock = some b → top ≤ b)
    (h : ∀ v' w', RowE S base e v' (L ++ X) w' → w.grownBy w' v.ownBlock → (∀ b, v'.ownBlock = some b → top ≤ b) → wpList P ops Q rest (a.put o.dst v') w') : wpList P ops Q (o :: rest) a w := by
  obtain ⟨i, hi, hz0, hz1, hz2⟩ := info_parts ti.2
  subst hm
  have hrow2 : w.ownsRow top e S.m v L.length (L.flatMap (·.cells)) := ⟨hown.row.1, by
    rcases hown.row.2 with h0 | ⟨g, cap, cur, h1, h2, h3⟩
    · exact .inl h0
    · exact .inr ⟨g, cap, cur, h1, hv g (by rw [h1]; rfl), h3⟩⟩
  refine wpList_append_own _ hg s y t ho top e i z S.m bytes ti.1 hi hz0 hz1 hz2 hzs h0 v L.length _ hs hrow2 ⟨g, 0, none⟩ X.length c (X.flatMap (·.cells)) hy (flatMap_len hlen) ?_ ?_ h63 hbytes htop fun v' w' a b _ => h v' w' ?_ b (fun g hg => (a.lt g hg).1)
  · intro j u hj
    rw [addr_add, Nat.zero_add]
    exact hcell j u hj
  · intro u hu
    obtain ⟨x, hx, hu⟩ := List.mem_flatMap.1 hu
    exact h1 x hx u hu
  · refine hown.appended ?_ b hlen hR hlo hty
    rw [List.length_append, List.flatMap_append]
    refine ⟨a.1, ?_⟩
    rcases a.2 with h0 | ⟨g, cap, cur, h1, h2, h3⟩
    · exact .inl h0
    · exact .inr ⟨g, cap, cur, h1, Nat.le_trans hbase h2, h3⟩
/-- append of one list of tokens out of its literal's own block. -/
theorem wp_append_toksE {w : World} {ops : Array Oper} {rest : List Oper} {o : Oper} {a : Act} {Q : Exit → Act → World → Prop} (hg : o.guard = none) (s y : Operand)
    (ho : o.op = .call { callee := .builtin .append, args := #[s, y], argTypes := #[34, 34] })
    (base top : Nat) (v : Value) (L : List (Elem (List Tok))) (hs : a.eval s = v) (hown : RowE sToks base 30 v L w) (ao : Option Addr) (m c : Nat) (d : List Tok) (fp : List Nat)
    (hy : a.eval y = .slice (some ⟨w.heap.size, 0, none⟩) 1 1) (hR : sToks.R w [.slice ao m c] d fp) (hlo : ∀ b ∈ fp, base ≤ b) (hty : ∀ b ∈ fp, ∃ cur t fr, w.heap[b]? = some (.cells cur t fr) ∧ t ≠ 30)
    (h63 : L.length ≤ 1500000) (hbase : base ≤ top) (htop : top ≤ w.heap.size) (hv : ∀ b, v.ownBlock = some b → top ≤ b)
    (h : ∀ v' w', RowE sToks base 30 v' (L ++ [⟨[.slice ao m c], d, fp⟩]) w' → w.grownBy w' v.ownBlock → (∀ b, v'.ownBlock = some b → top ≤ b) → wpList Try.prog ops Q rest (a.put o.dst v') w') :
    wpList Try.prog ops Q (o :: rest) a (w.alloc (.cells #[.slice ao m c] 30)) := by
  have hb := alloc_below' w (.cells #[.slice ao m c] 30)
  refine wp_append_rowEB (S := sToks) ti_toks rfl (by decide) _ (X := [⟨[.slice ao m c], d, fp⟩]) hg s y ho base top v hs (hown.below hb) w.heap.size 1 1 hy rfl ?_ ?_ ?_ ?_ ?_ ?_ (by unfold maxLen; omega) (by omega) hbase (by simp; omega) hv fun v' w' a b c => h v' w' a (grown_trans (World.grownBy_alloc _ _ _) b) c
  · intro x hx; obtain rfl := List.mem_singleton.1 hx; rfl
  · intro x hx; obtain rfl := List.mem_singleton.1 hx; simp [Value.oneCell']
  · intro j u hj
    rw [World.cell?_alloc_at _ _ _ _ rfl]
    simpa using hj
  · intro x hx; obtain rfl := List.mem_singleton.1 hx; exact sToks.below hR hb
  · intro x hx; obtain rfl := List.mem_singleton.1 hx; exact hlo
  · intro x hx b' hb'
    obtain rfl := List.mem_singleton.1 hx
    obtain ⟨cur, t, fr, h1, h2⟩ := hty b' hb'
    exact ⟨cur, t, fr, (hb.block b' (Array.getElem?_eq_some_iff.1 h1).1).trans h1, h2⟩
theorem RowE.same2 {α : Type} {S : Shape α} {base : Nat} {e : TypeId} {v : Value} {L : List (Elem α)} {w w' : World} (h : RowE S base e v L w) (hv : ∀ g, v.ownBlock = some g → w'.heap[g]? = w.heap[g]?) (hb : ∀ x ∈ L, ∀ b ∈ x.fp, w'.heap[b]? = w.heap[b]?) : RowE S base e v L w' where
  row := ownsRow_same h.row hv
  len := h.len
  el := fun x hx => S.frame (fun b hb' => hb x hx b hb') (h.el x hx)
  lo := h.lo
  ty := fun x hx b hb' => by
    obtain ⟨cur, t, fr, h1, h2⟩ := h.ty x hx b hb'
    exact ⟨cur, t, fr, (hb x hx b hb').trans h1, h2⟩

/-- The state of l7Split: the arguments done, the one under way. -/
structure SplSt (B0 B1 : Nat) (va vm : Value) (A : List (Elem (List Tok))) (M : List (Elem Tok)) (w : World) : Prop where
  e : RowE sToks B0 30 va A w
  b : ∀ g, va.ownBlock = some g → B1 ≤ g
  g : ∃ top, RowG sTok top 47 vm M w ∧ B1 ≤ top ∧ top ≤ w.heap.size ∧ ∀ x ∈ A, ∀ b ∈ x.fp, b < top
  m : ∀ x ∈ M, ∀ b ∈ x.fp, B0 ≤ b ∧ b < B1
  t : ∀ x ∈ M, TokTy w x.fp
theorem SplSt.below {B0 B1 : Nat} {va vm : Value} {A : List (Elem (List Tok))} {M : List (Elem Tok)} {w w' : World} (h : SplSt B0 B1 va vm A M w) (hb : Below w.heap.size w w') : SplSt B0 B1 va vm A M w' := by
  obtain ⟨top, g1, g2, g3, g4⟩ := h.g
  exact ⟨h.e.below hb, h.b, ⟨top, g1.below hb, g2, Nat.le_trans g3 hb.size, g4⟩, h.m, fun x hx => (h.t x hx).below hb⟩
theorem SplSt.vals {B0 B1 : Nat} {va vm : Value} {A : List (Elem (List Tok))} {M : List (Elem Tok)} {w : World} (h : SplSt B0 B1 va vm A M w) : (∃ a c, va = .slice a A.length c) ∧ ∃ a c, vm = .slice a M.length c := by
  obtain ⟨a, c, h1, -⟩ := h.e.val
  obtain ⟨top, g1, -⟩ := h.g
  obtain ⟨a2, c2, h2, -⟩ := g1.val
  exact ⟨⟨a, c, h1⟩, a2, c2, h2⟩
/-- What the argument under way reads as. -/
theorem SplSt.arg {B0 B1 : Nat} {va vm : Value} {A : List (Elem (List Tok))} {M : List (Elem Tok)} {w : World} (h : SplSt B0 B1 va vm A M w) (hB : B0 ≤ B1) : ∃ fp, sToks.R w [vm] (M.map (·.d)) fp ∧ (∀ b ∈ fp, B0 ≤ b) ∧ TokTy w fp := by
  obtain ⟨top, g1, g2, g3, g4⟩ := h.g
  obtain ⟨fp, h1, h2, -⟩ := g1.read
  refine ⟨fp, h1, fun b hb => ?_, fun b hb => ?_⟩
  · rcases h2 b hb with h0 | ⟨x, hx, h0⟩
    · have := g1.mine b h0; omega
    · exact (h.m x hx b h0).1
  · rcases h2 b hb with h0 | ⟨x, hx, h0⟩
    · rcases g1.row.2 with ⟨h', _⟩ | ⟨g, cap, cur, q1, q2, q3, -⟩
      · rw [h'] at h0; simp [Value.ownBlock] at h0
      · rw [q1] at h0
        simp only [Value.ownBlock, Option.some.injEq] at h0
        subst h0
        exact ⟨_, _, _, q3, .inl rfl⟩
    · exact h.t x hx b h0
theorem TokTy.rows {w : World} {fp : List Nat} (h : TokTy w fp) : ∀ b ∈ fp, ∃ cur t fr, w.heap[b]? = some (.cells cur t fr) ∧ t ≠ 30 := fun b hb => by
  obtain ⟨cur, t, fr, h1, h2⟩ := h b hb
  refine ⟨cur, t, fr, h1, ?_⟩
  rcases h2 with rfl | rfl <;> decide
/-- Behind a token's append. -/
theorem SplSt.grown {B0 B1 : Nat} {va vm vm' : Value} {A : List (Elem (List Tok))} {M M' : List (Elem Tok)} {w w' : World} (h : SplSt B0 B1 va vm A M w) {top : Nat} (g1 : RowG sTok top 47 vm M w) (g2 : B1 ≤ top) (g3 : top ≤ w.heap.size) (g4 : ∀ x ∈ A, ∀ b ∈ x.fp, b < top)
    (hG : RowG sTok top 47 vm' M' w') (hg : w.grownBy w' vm.ownBlock) (hm : ∀ x ∈ M', ∀ b ∈ x.fp, B0 ≤ b ∧ b < B1) (ht : ∀ x ∈ M', TokTy w x.fp) : SplSt B0 B1 va vm' A M' w' := by
  refine ⟨h.e.same2 (fun g hgg => ?_) (fun x hx b hb => ?_), h.b, ⟨top, hG, g2, Nat.le_trans g3 hg.size, g4⟩, hm, fun x hx => (ht x hx).same fun b hb hl => ?_⟩
  · refine hg.block g (h.e.row.lt g hgg).2 fun e => ?_
    rcases own_ne g1.row h.e.row (by decide) with h0 | h0
    · rw [h0] at e; cases e
    · exact h0 (by rw [hgg, ← e])
  · refine hg.block b (sToks.lt (h.e.el x hx) b hb) fun e => ?_
    have h1 := g4 x hx b hb
    have h2 := g1.mine b e.symm
    omega
  · refine hg.block b hl fun e => ?_
    have h1 := (hm x hx b hb).2
    have h2 := g1.mine b e.symm
    omega
/-- The argument is done; another begins. -/
theorem SplSt.next {B0 B1 : Nat} {va' : Value} {A' : List (Elem (List Tok))} {w' : World} (hE : RowE sToks B0 30 va' A' w') (hv : ∀ g, va'.ownBlock = some g → B1 ≤ g) (hB : B1 ≤ w'.heap.size) : SplSt B0 B1 va' (.slice (some ⟨w'.heap.size, 0, none⟩) 0 0) A' [] (w'.alloc (.cells #[] 47)) :=
  ⟨hE.below (alloc_below' _ _), hv, ⟨w'.heap.size, RowG.lit0 sTok 47 w', hB, by show _ ≤ (w'.heap.push _).size; simp, fun x hx b hb => sToks.lt (hE.el x hx) b hb⟩, by simp, by simp⟩

/-- What l7Split answers. -/
def RetSpl (B0 : Nat) (r : Args × Nat × Bool) (w : World) (e : Ending) (w' : World) : Prop :=
  ∃ (v : Value) (A : List (Elem (List Tok))), e = .returned (.tuple #[v, .int .i64 (r.2.1 : Nat), .bool r.2.2]) ∧ RowE sToks B0 30 v A w' ∧ A.map (·.d) = r.1 ∧ Below w.heap.size w w'
theorem spGo_step {l : List Tok} {k : Nat} (hk : k < l.length) (d : Int) (A : Args) (M : List Tok) :
    spGo (l.drop k) d A M k = if d + opn l[k] = 0 then (A ++ [M], k + 1, true) else if d + opn l[k] = 1 ∧ isCom l[k] = true then spGo (l.drop (k + 1)) (d + opn l[k]) (A ++ [M]) [] (k + 1) else spGo (l.drop (k + 1)) (d + opn l[k]) A (M ++ [l[k]]) (k + 1) := by
  rw [List.drop_eq_getElem_cons hk]
  rfl
theorem spGo_end {l : List Tok} {k : Nat} (hk : l.length ≤ k) (d : Int) (A : Args) (M : List Tok) : spGo (l.drop k) d A M k = (A, 0, false) := by
  rw [List.drop_of_length_le hk]; rfl

set_option maxHeartbeats 16000000 in
set_option maxRecDepth 100000 in
theorem spec_l7Split (v : Value) (l : List Tok) (fp : List Nat) (n B0 : Nat) (w : World) (hB0 : B0 ≤ w.heap.size) (hn : n < l.length) (ho : isOpen l[n] = true) (hl : toksOk l = true) (H : (sSlice sTok).R w [v] l fp) (hlo : ∀ b ∈ fp, B0 ≤ b) (hty : TokTy w fp) :
    Calls Try.prog 43 #[v, .int .i64 n] w (RetSpl B0 (spGo (l.drop (n + 1)) 1 [] [] (n + 1)) w) := by
  obtain ⟨hl60, hok⟩ := toksOk_facts hl
  have hhi : ∀ b ∈ fp, b < w.heap.size := fun b hb => (sSlice sTok).lt H b hb
  obtain ⟨a, cap, rfl, hc, hm, hrow⟩ := open_rows H
  unfold maxLen at hm
  have HOK := Lib.hid hok
  have HHI := Lib.hid hhi
  have HLO := Lib.hid hlo
  have HTY := Lib.hid hty
  have HOPEN := Lib.hid ho
  clear H hok hhi hlo hty ho hl
  obtain ⟨r, HR⟩ : ∃ r, Hid (r = spGo (l.drop (n + 1)) 1 [] [] (n + 1)) := ⟨_, rfl⟩
  rw [← HR.out]
  have b0 := alloc_below' w (.cells #[] 30)
  have b1 := b0.trans ((alloc_below' (w.alloc (.cells #[] 30)) (.cells #[] 47)).mono b0.size)
  have HS0 : Hid (SplSt B0 w.heap.size (.slice (some ⟨w.heap.size, 0, none⟩) 0 0) (.slice (some ⟨w.heap.size + 1, 0, none⟩) 0 0) [] [] ((w.alloc (.cells #[] 30)).alloc (.cells #[] 47))) := by
    have hE : RowE sToks B0 30 (.slice (some ⟨w.heap.size, 0, none⟩) 0 0) [] (w.alloc (.cells #[] 30)) := RowE.lit [] (by simp) (by simp) (by simp) (by simp) hB0 (by simp)
    have := SplSt.next (B1 := w.heap.size) hE (fun g hg => by simp only [Value.ownBlock, Option.some.injEq] at hg; omega) b0.size
    have hsz : (w.alloc (.cells #[] 30)).heap.size = w.heap.size + 1 := Array.size_push _
    rw [hsz] at this
    exact this
  clear b0
  go_enter Try.func43, Try.ntmps43
  go_wp2
  go_loopw [7, 8, 9, 10] (fun va vm d i wr => ∃ (k : Nat) (dd : Int) (A : List (Elem (List Tok))) (M : List (Elem Tok)), n ≤ k ∧ k ≤ l.length ∧ i = .int .i64 k ∧ d = .int .i64 dd ∧ A.length ≤ k ∧ M.length ≤ k ∧ Hid (SplSt B0 w.heap.size va vm A M wr) ∧ Hid ((k = n ∧ dd = 0 ∧ A = [] ∧ M = []) ∨ (n < k ∧ 1 ≤ dd ∧ dd ≤ k ∧ spGo (l.drop k) dd (A.map (·.d)) (M.map (·.d)) k = r)) ∧ Below w.heap.size w wr) (fun _ _ _ i _ => l.length - (intOf i).toNat)
  case atStart => exact ⟨n, 0, [], [], Nat.le_refl _, by omega, rfl, rfl, by simp, by simp, HS0, .inl ⟨rfl, rfl, rfl, rfl⟩, b1⟩
  case round =>
    clear HS0 b1
    obtain ⟨k, dd, A, M, hnk, hk, rfl, rfl, hAk, hMk, HS, HI, hb⟩ := hrel
    obtain ⟨⟨aa, ca, rfl⟩, am, cm, rfl⟩ := HS.out.vals
    by_cases hlt : k < l.length
    · have hkok := HOK.out k hlt
      obtain ⟨b1, off1, fps1, rfl, hb1, hfp1, he1⟩ := hrow (by omega)
      obtain ⟨es1, hE1, hR1⟩ := he1 k hlt
      have HFK : Hid (∀ b ∈ fps1 k, B0 ≤ b ∧ b < w.heap.size) := fun b hb => by
        have hm : b ∈ fp := by rw [hfp1]; exact List.mem_cons_of_mem _ (List.mem_flatMap.2 ⟨k, List.mem_range.2 hlt, hb⟩)
        exact ⟨HLO.out b hm, HHI.out b hm⟩
      have HTK : Hid (TokTy wr (fps1 k)) := fun b hb' => by
        have hm : b ∈ fp := by rw [hfp1]; exact List.mem_cons_of_mem _ (List.mem_flatMap.2 ⟨k, List.mem_range.2 hlt, hb'⟩)
        obtain ⟨cur, t, fr, h1, h2⟩ := HTY.out b hm
        exact ⟨cur, t, fr, (hb.block b (HHI.out b hm)).trans h1, h2⟩
      clear hrow he1 hfp1
      have hR2 := sTok.below hR1 hb
      obtain ⟨h1', rfl, _, _, hK1⟩ := hR1
      obtain ⟨ah, ch, rfl, -⟩ := open_strs hK1
      clear hK1
      replace hE1 := hE1.frame (hb.block b1 hb1)
      have c10 : wr.cell? ⟨b1, off1 + k * 4, none⟩ = some _ := elem_cell0 hE1 (by decide) rfl
      have c11 : wr.cell? ⟨b1, off1 + k * 4 + 1, none⟩ = some _ := elem_cell (j := 1) hE1 (by decide) rfl
      have c12 : wr.cell? ⟨b1, off1 + k * 4 + 2, none⟩ = some _ := elem_cell (j := 2) hE1 (by decide) rfl
      have c13 : wr.cell? ⟨b1, off1 + k * 4 + 3, none⟩ = some _ := elem_cell (j := 3) hE1 (by decide) rfl
      clear hE1
      have hbx := alloc_below' wr (.cells #[.int .i64 l[k].kind, .string l[k].text, .bool l[k].spaced, .slice ah l[k].hidden.length ch] 47)
      have HX := Lib.hid (heap_alloc_new wr (.cells #[.int .i64 l[k].kind, .string l[k].text, .bool l[k].spaced, .slice ah l[k].hidden.length ch] 47))
      have HO : Hid (∀ W, Below wr.heap.size wr W → Calls Try.prog 42 #[.agg #[.int .i64 l[k].kind, .string l[k].text, .bool l[k].spaced, .slice ah l[k].hidden.length ch], .string ⟨#[40]⟩] W (Says (isOpen l[k]) W)) := fun W hW => by rw [← is_open hkok]; exact spec_l7Is _ l[k] _ W 40 (sTok.below hR2 hW)
      have HSH : Hid (∀ W, Below wr.heap.size wr W → Calls Try.prog 42 #[.agg #[.int .i64 l[k].kind, .string l[k].text, .bool l[k].spaced, .slice ah l[k].hidden.length ch], .string ⟨#[41]⟩] W (Says (isShut l[k]) W)) := fun W hW => by rw [← is_shut hkok]; exact spec_l7Is _ l[k] _ W 41 (sTok.below hR2 hW)
      have HCM : Hid (∀ W, Below wr.heap.size wr W → Calls Try.prog 42 #[.agg #[.int .i64 l[k].kind, .string l[k].text, .bool l[k].spaced, .slice ah l[k].hidden.length ch], .string ⟨#[44]⟩] W (Says (isCom l[k]) W)) := fun W hW => by rw [← is_com hkok]; exact spec_l7Is _ l[k] _ W 44 (sTok.below hR2 hW)
      have HRT := Lib.hid hR2
      clear hR2 hkok
      rcases HI.out with ⟨h1, h2, h3, h4⟩ | ⟨h1, h2, h3, HF0⟩
      · -- the bracket that opens
        subst h1 h2 h3 h4
        have hO := HOPEN.out
        have hC : isCom l[k] = false := by
          cases e : isCom l[k]
          · rfl
          · have := opn_com e; rw [opn_open hO] at this; omega
        have HF : Hid (spGo (l.drop (k + 1)) 1 (([] : List (Elem (List Tok))).map (·.d)) (([] : List (Elem Tok)).map (·.d)) (k + 1) = r) := HR.out.symm
        rw [hO] at HO
        rw [hC] at HCM
        have e2 : decide ((k : Int) < (k : Int)) = false := by simp
        clear hO hC HI HOPEN HR
        have HX0 := HX
        have hd0 := hbx
        go_wp2_with fail
        refine (HO.out _ (by exact hd0)).mono ?_
        rintro e u1 ⟨rfl, g1⟩
        have hd1 := hd0.trans (g1.mono hd0.size)
        have HX1 := Lib.hid ((g1.block _ (Array.getElem?_eq_some_iff.1 HX0.out).1).trans HX0.out)
        have q1_0 : u1.cell? ⟨wr.heap.size, 0, none⟩ = some _ := cell_of_row _ _ 0 _ _ _ HX1.out
        have q1_1 : u1.cell? ⟨wr.heap.size, 1, none⟩ = some _ := cell_of_row _ _ 1 _ _ _ HX1.out
        have q1_2 : u1.cell? ⟨wr.heap.size, 2, none⟩ = some _ := cell_of_row _ _ 2 _ _ _ HX1.out
        have q1_3 : u1.cell? ⟨wr.heap.size, 3, none⟩ = some _ := cell_of_row _ _ 3 _ _ _ HX1.out
        go_wp2_with fail
        refine (HCM.out _ (by exact hd1)).mono ?_
        rintro e u2 ⟨rfl, g2⟩
        have hd2 := hd1.trans (g2.mono hd1.size)
        have HX2 := Lib.hid ((g2.block _ (Array.getElem?_eq_some_iff.1 HX1.out).1).trans HX1.out)
        have q2_0 : u2.cell? ⟨wr.heap.size, 0, none⟩ = some _ := cell_of_row _ _ 0 _ _ _ HX2.out
        have q2_1 : u2.cell? ⟨wr.heap.size, 1, none⟩ = some _ := cell_of_row _ _ 1 _ _ _ HX2.out
        have q2_2 : u2.cell? ⟨wr.heap.size, 2, none⟩ = some _ := cell_of_row _ _ 2 _ _ _ HX2.out
        have q2_3 : u2.cell? ⟨wr.heap.size, 3, none⟩ = some _ := cell_of_row _ _ 3 _ _ _ HX2.out
        have hbw := hb.trans (hd2.mono hb.size)
        have HSW := Lib.hid (HS.out.below hd2)
        have hRW := Lib.hid (sTok.below HRT.out hd2)
        have HTW := Lib.hid (HTK.out.below hd2)
        go_wp2
        go_roundw
        case rel => exact ⟨k + 1, _, [], [], by omega, by omega, by go_num, rfl, by simp, by simp, HSW, .inr ⟨by omega, by omega, by omega, HF.out⟩, hbw⟩
        case measure => simp [intOf]; omega
      · rw [spGo_step hlt] at HF0
        have e2 : decide ((n : Int) < (k : Int)) = true := by simp; omega
        have e3 : decide (n < k) = true := by simp; omega
        clear HI HOPEN HR
        cases hO : isOpen l[k]
        · cases hS : isShut l[k]
          · rw [opn_else hO hS, Int.add_zero] at HF0
            rw [hO] at HO
            rw [hS] at HSH
            rw [if_neg (by omega)] at HF0
            by_cases hd : dd = 1
            · subst hd
              cases hC : isCom l[k]
              · rw [if_neg (by rw [hC]; simp)] at HF0
                rw [hC] at HCM
                have HF := Lib.hid HF0
                clear HF0 hO hS hC
                have HX0 := HX
                have hd0 := hbx
                go_wp2_with fail
                refine (HO.out _ (by exact hd0)).mono ?_
                rintro e u1 ⟨rfl, g1⟩
                have hd1 := hd0.trans (g1.mono hd0.size)
                have HX1 := Lib.hid ((g1.block _ (Array.getElem?_eq_some_iff.1 HX0.out).1).trans HX0.out)
                have q1_0 : u1.cell? ⟨wr.heap.size, 0, none⟩ = some _ := cell_of_row _ _ 0 _ _ _ HX1.out
                have q1_1 : u1.cell? ⟨wr.heap.size, 1, none⟩ = some _ := cell_of_row _ _ 1 _ _ _ HX1.out
                have q1_2 : u1.cell? ⟨wr.heap.size, 2, none⟩ = some _ := cell_of_row _ _ 2 _ _ _ HX1.out
                have q1_3 : u1.cell? ⟨wr.heap.size, 3, none⟩ = some _ := cell_of_row _ _ 3 _ _ _ HX1.out
                go_wp2_with fail
                refine (HSH.out _ (by exact hd1)).mono ?_
                rintro e u2 ⟨rfl, g2⟩
                have hd2 := hd1.trans (g2.mono hd1.size)
                have HX2 := Lib.hid ((g2.block _ (Array.getElem?_eq_some_iff.1 HX1.out).1).trans HX1.out)
                have q2_0 : u2.cell? ⟨wr.heap.size, 0, none⟩ = some _ := cell_of_row _ _ 0 _ _ _ HX2.out
                have q2_1 : u2.cell? ⟨wr.heap.size, 1, none⟩ = some _ := cell_of_row _ _ 1 _ _ _ HX2.out
                have q2_2 : u2.cell? ⟨wr.heap.size, 2, none⟩ = some _ := cell_of_row _ _ 2 _ _ _ HX2.out
                have q2_3 : u2.cell? ⟨wr.heap.size, 3, none⟩ = some _ := cell_of_row _ _ 3 _ _ _ HX2.out
                go_wp2_with fail
                refine (HCM.out _ (by exact hd2)).mono ?_
                rintro e u3 ⟨rfl, g3⟩
                have hd3 := hd2.trans (g3.mono hd2.size)
                have HX3 := Lib.hid ((g3.block _ (Array.getElem?_eq_some_iff.1 HX2.out).1).trans HX2.out)
                have q3_0 : u3.cell? ⟨wr.heap.size, 0, none⟩ = some _ := cell_of_row _ _ 0 _ _ _ HX3.out
                have q3_1 : u3.cell? ⟨wr.heap.size, 1, none⟩ = some _ := cell_of_row _ _ 1 _ _ _ HX3.out
                have q3_2 : u3.cell? ⟨wr.heap.size, 2, none⟩ = some _ := cell_of_row _ _ 2 _ _ _ HX3.out
                have q3_3 : u3.cell? ⟨wr.heap.size, 3, none⟩ = some _ := cell_of_row _ _ 3 _ _ _ HX3.out
                have hbw := hb.trans (hd3.mono hb.size)
                have HSW := Lib.hid (HS.out.below hd3)
                have hRW := Lib.hid (sTok.below HRT.out hd3)
                have HTW := Lib.hid (HTK.out.below hd3)
                obtain ⟨top, t1, t2, t3, t4⟩ := HSW.out.g
                have HG := Lib.hid t1
                have HT4 := Lib.hid t4
                clear t1 t4
                go_wp2_with (at_builtin; refine wp_append_tokG rfl (.tmp 60) (.tmp 62) rfl top (.slice am M.length cm) M rfl HG.out l[k].kind l[k].text l[k].spaced ah l[k].hidden.length ch l[k] (fps1 k) rfl hRW.out (fun b hb => by have := (HFK.out b hb).2; omega) (by omega) t3 ?_; intro v3 w3 hG3 hg3)
                have hb3 : Below w.heap.size w w3 := hbw.grown hg3 hbw.size (fun b hb => by have := HG.out.mine b hb; omega)
                have HS3 : Hid (SplSt B0 w.heap.size (.slice aa A.length ca) v3 A (M ++ [(⟨[.int .i64 l[k].kind, .string l[k].text, .bool l[k].spaced, .slice ah l[k].hidden.length ch], l[k], fps1 k⟩ : Elem Tok)]) w3) := HSW.out.grown HG.out t2 t3 HT4.out hG3 hg3 (fun x hx => by
                  rcases List.mem_append.1 hx with hx | hx
                  · exact HSW.out.m x hx
                  · obtain rfl := List.mem_singleton.1 hx; exact HFK.out) (fun x hx => by
                  rcases List.mem_append.1 hx with hx | hx
                  · exact HSW.out.t x hx
                  · obtain rfl := List.mem_singleton.1 hx; exact HTW.out)
                clear hG3 hg3
                go_roundw
                case rel => exact ⟨k + 1, _, A, _, by omega, by omega, by go_num, rfl, by omega, by simp; omega, HS3, .inr ⟨by omega, by omega, by omega, by rw [← HF.out, List.map_append]; rfl⟩, hb3⟩
                case measure => simp [intOf]; omega
              · rw [if_pos ⟨rfl, hC⟩] at HF0
                rw [hC] at HCM
                have HF := Lib.hid HF0
                clear HF0 hO hS hC
                have HX0 := HX
                have hd0 := hbx
                go_wp2_with fail
                refine (HO.out _ (by exact hd0)).mono ?_
                rintro e u1 ⟨rfl, g1⟩
                have hd1 := hd0.trans (g1.mono hd0.size)
                have HX1 := Lib.hid ((g1.block _ (Array.getElem?_eq_some_iff.1 HX0.out).1).trans HX0.out)
                have q1_0 : u1.cell? ⟨wr.heap.size, 0, none⟩ = some _ := cell_of_row _ _ 0 _ _ _ HX1.out
                have q1_1 : u1.cell? ⟨wr.heap.size, 1, none⟩ = some _ := cell_of_row _ _ 1 _ _ _ HX1.out
                have q1_2 : u1.cell? ⟨wr.heap.size, 2, none⟩ = some _ := cell_of_row _ _ 2 _ _ _ HX1.out
                have q1_3 : u1.cell? ⟨wr.heap.size, 3, none⟩ = some _ := cell_of_row _ _ 3 _ _ _ HX1.out
                go_wp2_with fail
                refine (HSH.out _ (by exact hd1)).mono ?_
                rintro e u2 ⟨rfl, g2⟩
                have hd2 := hd1.trans (g2.mono hd1.size)
                have HX2 := Lib.hid ((g2.block _ (Array.getElem?_eq_some_iff.1 HX1.out).1).trans HX1.out)
                have q2_0 : u2.cell? ⟨wr.heap.size, 0, none⟩ = some _ := cell_of_row _ _ 0 _ _ _ HX2.out
                have q2_1 : u2.cell? ⟨wr.heap.size, 1, none⟩ = some _ := cell_of_row _ _ 1 _ _ _ HX2.out
                have q2_2 : u2.cell? ⟨wr.heap.size, 2, none⟩ = some _ := cell_of_row _ _ 2 _ _ _ HX2.out
                have q2_3 : u2.cell? ⟨wr.heap.size, 3, none⟩ = some _ := cell_of_row _ _ 3 _ _ _ HX2.out
                go_wp2_with fail
                refine (HCM.out _ (by exact hd2)).mono ?_
                rintro e u3 ⟨rfl, g3⟩
                have hd3 := hd2.trans (g3.mono hd2.size)
                have HX3 := Lib.hid ((g3.block _ (Array.getElem?_eq_some_iff.1 HX2.out).1).trans HX2.out)
                have q3_0 : u3.cell? ⟨wr.heap.size, 0, none⟩ = some _ := cell_of_row _ _ 0 _ _ _ HX3.out
                have q3_1 : u3.cell? ⟨wr.heap.size, 1, none⟩ = some _ := cell_of_row _ _ 1 _ _ _ HX3.out
                have q3_2 : u3.cell? ⟨wr.heap.size, 2, none⟩ = some _ := cell_of_row _ _ 2 _ _ _ HX3.out
                have q3_3 : u3.cell? ⟨wr.heap.size, 3, none⟩ = some _ := cell_of_row _ _ 3 _ _ _ HX3.out
                have hbw := hb.trans (hd3.mono hb.size)
                have HSW := Lib.hid (HS.out.below hd3)
                have hRW := Lib.hid (sTok.below HRT.out hd3)
                have HTW := Lib.hid (HTK.out.below hd3)
                obtain ⟨fpa, ra, rlo, rty⟩ := HSW.out.arg hB0
                have RT := Lib.hid rty.rows
                have RR := Lib.hid ra
                have RLO := Lib.hid rlo
                clear ra rlo rty
                go_wp2_with (at_builtin; refine wp_append_toksE rfl (.tmp 51) (.tmp 53) rfl B0 w.heap.size (.slice aa A.length ca) A rfl HSW.out.e am M.length cm (M.map (·.d)) fpa rfl RR.out RLO.out RT.out (by omega) hB0 hbw.size HSW.out.b ?_; intro v3 w3 hE3 hg3 hv3; have hb3 : Below w.heap.size w w3 := hbw.grown hg3 hbw.size HSW.out.b; have HN3 := Lib.hid (SplSt.next (B1 := w.heap.size) hE3 hv3 hb3.size); have hb4 := hb3.alloc hb3.size (.cells #[] 47); obtain ⟨a3, c3, rfl, -⟩ := hE3.val; simp only [List.length_append, List.length_cons, List.length_nil, Nat.zero_add] at HN3; clear hE3 hg3 hb3)
                go_roundw
                case rel => exact ⟨k + 1, _, A ++ [(⟨[.slice am M.length cm], M.map (·.d), fpa⟩ : Elem (List Tok))], [], by omega, by omega, by go_num, rfl, by simp; omega, by simp, HN3, .inr ⟨by omega, by omega, by omega, by rw [← HF.out, List.map_append]; rfl⟩, hb4⟩
                case measure => simp [intOf]; omega
            · rw [if_neg (fun h => hd h.1)] at HF0
              have HF := Lib.hid HF0
              have e0 : (dd == 0) = false := by simp; omega
              have e1 : (dd == 1) = false := by simp; omega
              clear HF0 hO hS
              have HX0 := HX
              have hd0 := hbx
              go_wp2_with fail
              refine (HO.out _ (by exact hd0)).mono ?_
              rintro e u1 ⟨rfl, g1⟩
              have hd1 := hd0.trans (g1.mono hd0.size)
              have HX1 := Lib.hid ((g1.block _ (Array.getElem?_eq_some_iff.1 HX0.out).1).trans HX0.out)
              have q1_0 : u1.cell? ⟨wr.heap.size, 0, none⟩ = some _ := cell_of_row _ _ 0 _ _ _ HX1.out
              have q1_1 : u1.cell? ⟨wr.heap.size, 1, none⟩ = some _ := cell_of_row _ _ 1 _ _ _ HX1.out
              have q1_2 : u1.cell? ⟨wr.heap.size, 2, none⟩ = some _ := cell_of_row _ _ 2 _ _ _ HX1.out
              have q1_3 : u1.cell? ⟨wr.heap.size, 3, none⟩ = some _ := cell_of_row _ _ 3 _ _ _ HX1.out
              go_wp2_with fail
              refine (HSH.out _ (by exact hd1)).mono ?_
              rintro e u2 ⟨rfl, g2⟩
              have hd2 := hd1.trans (g2.mono hd1.size)
              have HX2 := Lib.hid ((g2.block _ (Array.getElem?_eq_some_iff.1 HX1.out).1).trans HX1.out)
              have q2_0 : u2.cell? ⟨wr.heap.size, 0, none⟩ = some _ := cell_of_row _ _ 0 _ _ _ HX2.out
              have q2_1 : u2.cell? ⟨wr.heap.size, 1, none⟩ = some _ := cell_of_row _ _ 1 _ _ _ HX2.out
              have q2_2 : u2.cell? ⟨wr.heap.size, 2, none⟩ = some _ := cell_of_row _ _ 2 _ _ _ HX2.out
              have q2_3 : u2.cell? ⟨wr.heap.size, 3, none⟩ = some _ := cell_of_row _ _ 3 _ _ _ HX2.out
              have hbw := hb.trans (hd2.mono hb.size)
              have HSW := Lib.hid (HS.out.below hd2)
              have hRW := Lib.hid (sTok.below HRT.out hd2)
              have HTW := Lib.hid (HTK.out.below hd2)
              obtain ⟨top, t1, t2, t3, t4⟩ := HSW.out.g
              have HG := Lib.hid t1
              have HT4 := Lib.hid t4
              clear t1 t4
              go_wp2_with (at_builtin; refine wp_append_tokG rfl (.tmp 60) (.tmp 62) rfl top (.slice am M.length cm) M rfl HG.out l[k].kind l[k].text l[k].spaced ah l[k].hidden.length ch l[k] (fps1 k) rfl hRW.out (fun b hb => by have := (HFK.out b hb).2; omega) (by omega) t3 ?_; intro v3 w3 hG3 hg3)
              have hb3 : Below w.heap.size w w3 := hbw.grown hg3 hbw.size (fun b hb => by have := HG.out.mine b hb; omega)
              have HS3 : Hid (SplSt B0 w.heap.size (.slice aa A.length ca) v3 A (M ++ [(⟨[.int .i64 l[k].kind, .string l[k].text, .bool l[k].spaced, .slice ah l[k].hidden.length ch], l[k], fps1 k⟩ : Elem Tok)]) w3) := HSW.out.grown HG.out t2 t3 HT4.out hG3 hg3 (fun x hx => by
                rcases List.mem_append.1 hx with hx | hx
                · exact HSW.out.m x hx
                · obtain rfl := List.mem_singleton.1 hx; exact HFK.out) (fun x hx => by
                rcases List.mem_append.1 hx with hx | hx
                · exact HSW.out.t x hx
                · obtain rfl := List.mem_singleton.1 hx; exact HTW.out)
              clear hG3 hg3
              go_roundw
              case rel => exact ⟨k + 1, _, A, _, by omega, by omega, by go_num, rfl, by omega, by simp; omega, HS3, .inr ⟨by omega, by omega, by omega, by rw [← HF.out, List.map_append]; rfl⟩, hb3⟩
              case measure => simp [intOf]; omega
          · rw [opn_shut hO hS] at HF0
            rw [hO] at HO
            rw [hS] at HSH
            have hwr : IntKind.i64.wrap (dd - 1) = dd - 1 := IntWalk.i64_in _ (by omega)
            by_cases hd : dd = 1
            · rw [if_pos (by omega)] at HF0
              have HF := Lib.hid HF0.symm
              subst hd
              clear HF0 hO hS
              have HX0 := HX
              have hd0 := hbx
              go_wp2_with fail
              refine (HO.out _ (by exact hd0)).mono ?_
              rintro e u1 ⟨rfl, g1⟩
              have hd1 := hd0.trans (g1.mono hd0.size)
              have HX1 := Lib.hid ((g1.block _ (Array.getElem?_eq_some_iff.1 HX0.out).1).trans HX0.out)
              have q1_0 : u1.cell? ⟨wr.heap.size, 0, none⟩ = some _ := cell_of_row _ _ 0 _ _ _ HX1.out
              have q1_1 : u1.cell? ⟨wr.heap.size, 1, none⟩ = some _ := cell_of_row _ _ 1 _ _ _ HX1.out
              have q1_2 : u1.cell? ⟨wr.heap.size, 2, none⟩ = some _ := cell_of_row _ _ 2 _ _ _ HX1.out
              have q1_3 : u1.cell? ⟨wr.heap.size, 3, none⟩ = some _ := cell_of_row _ _ 3 _ _ _ HX1.out
              go_wp2_with fail
              refine (HSH.out _ (by exact hd1)).mono ?_
              rintro e u2 ⟨rfl, g2⟩
              have hd2 := hd1.trans (g2.mono hd1.size)
              have HX2 := Lib.hid ((g2.block _ (Array.getElem?_eq_some_iff.1 HX1.out).1).trans HX1.out)
              have q2_0 : u2.cell? ⟨wr.heap.size, 0, none⟩ = some _ := cell_of_row _ _ 0 _ _ _ HX2.out
              have q2_1 : u2.cell? ⟨wr.heap.size, 1, none⟩ = some _ := cell_of_row _ _ 1 _ _ _ HX2.out
              have q2_2 : u2.cell? ⟨wr.heap.size, 2, none⟩ = some _ := cell_of_row _ _ 2 _ _ _ HX2.out
              have q2_3 : u2.cell? ⟨wr.heap.size, 3, none⟩ = some _ := cell_of_row _ _ 3 _ _ _ HX2.out
              have hbw := hb.trans (hd2.mono hb.size)
              have HSW := Lib.hid (HS.out.below hd2)
              have hRW := Lib.hid (sTok.below HRT.out hd2)
              have HTW := Lib.hid (HTK.out.below hd2)
              obtain ⟨fpa, ra, rlo, rty⟩ := HSW.out.arg hB0
              have RT := Lib.hid rty.rows
              have RR := Lib.hid ra
              have RLO := Lib.hid rlo
              clear ra rlo rty
              go_wp2_with (at_builtin; refine wp_append_toksE rfl (.tmp 38) (.tmp 40) rfl B0 w.heap.size (.slice aa A.length ca) A rfl HSW.out.e am M.length cm (M.map (·.d)) fpa rfl RR.out RLO.out RT.out (by omega) hB0 hbw.size HSW.out.b ?_; intro v3 w3 hE3 hg3 hv3)
              have hb3 : Below w.heap.size w w3 := hbw.grown hg3 hbw.size HSW.out.b
              have HE3 := Lib.hid hE3
              clear hE3 hg3
              go_ret3
              exact ⟨_, _, by rw [HF.out]; rfl, HE3.out, by rw [HF.out, List.map_append]; rfl, hb3⟩
            · have hC : isCom l[k] = false := by
                cases e : isCom l[k]
                · rfl
                · have := opn_com e; rw [opn_shut hO hS] at this; omega
              rw [if_neg (by omega), if_neg (by rw [hC]; simp)] at HF0
              have HF : Hid (spGo (l.drop (k + 1)) (dd - 1) (A.map (·.d)) (M.map (·.d) ++ [l[k]]) (k + 1) = r) := HF0
              have e0 : (dd - 1 == 0) = false := by simp; omega
              rw [hC] at HCM
              clear HF0 hO hS hC
              by_cases h22 : dd = 2
              · have e1 : (dd - 1 == 1) = true := by simp; omega
                rw [show dd - 1 = 1 by omega] at HF
                have HX0 := HX
                have hd0 := hbx
                go_wp2_with fail
                refine (HO.out _ (by exact hd0)).mono ?_
                rintro e u1 ⟨rfl, g1⟩
                have hd1 := hd0.trans (g1.mono hd0.size)
                have HX1 := Lib.hid ((g1.block _ (Array.getElem?_eq_some_iff.1 HX0.out).1).trans HX0.out)
                have q1_0 : u1.cell? ⟨wr.heap.size, 0, none⟩ = some _ := cell_of_row _ _ 0 _ _ _ HX1.out
                have q1_1 : u1.cell? ⟨wr.heap.size, 1, none⟩ = some _ := cell_of_row _ _ 1 _ _ _ HX1.out
                have q1_2 : u1.cell? ⟨wr.heap.size, 2, none⟩ = some _ := cell_of_row _ _ 2 _ _ _ HX1.out
                have q1_3 : u1.cell? ⟨wr.heap.size, 3, none⟩ = some _ := cell_of_row _ _ 3 _ _ _ HX1.out
                go_wp2_with fail
                refine (HSH.out _ (by exact hd1)).mono ?_
                rintro e u2 ⟨rfl, g2⟩
                have hd2 := hd1.trans (g2.mono hd1.size)
                have HX2 := Lib.hid ((g2.block _ (Array.getElem?_eq_some_iff.1 HX1.out).1).trans HX1.out)
                have q2_0 : u2.cell? ⟨wr.heap.size, 0, none⟩ = some _ := cell_of_row _ _ 0 _ _ _ HX2.out
                have q2_1 : u2.cell? ⟨wr.heap.size, 1, none⟩ = some _ := cell_of_row _ _ 1 _ _ _ HX2.out
                have q2_2 : u2.cell? ⟨wr.heap.size, 2, none⟩ = some _ := cell_of_row _ _ 2 _ _ _ HX2.out
                have q2_3 : u2.cell? ⟨wr.heap.size, 3, none⟩ = some _ := cell_of_row _ _ 3 _ _ _ HX2.out
                go_wp2_with fail
                refine (HCM.out _ (by exact hd2)).mono ?_
                rintro e u3 ⟨rfl, g3⟩
                have hd3 := hd2.trans (g3.mono hd2.size)
                have HX3 := Lib.hid ((g3.block _ (Array.getElem?_eq_some_iff.1 HX2.out).1).trans HX2.out)
                have q3_0 : u3.cell? ⟨wr.heap.size, 0, none⟩ = some _ := cell_of_row _ _ 0 _ _ _ HX3.out
                have q3_1 : u3.cell? ⟨wr.heap.size, 1, none⟩ = some _ := cell_of_row _ _ 1 _ _ _ HX3.out
                have q3_2 : u3.cell? ⟨wr.heap.size, 2, none⟩ = some _ := cell_of_row _ _ 2 _ _ _ HX3.out
                have q3_3 : u3.cell? ⟨wr.heap.size, 3, none⟩ = some _ := cell_of_row _ _ 3 _ _ _ HX3.out
                have hbw := hb.trans (hd3.mono hb.size)
                have HSW := Lib.hid (HS.out.below hd3)
                have hRW := Lib.hid (sTok.below HRT.out hd3)
                have HTW := Lib.hid (HTK.out.below hd3)
                obtain ⟨top, t1, t2, t3, t4⟩ := HSW.out.g
                have HG := Lib.hid t1
                have HT4 := Lib.hid t4
                clear t1 t4
                go_wp2_with (at_builtin; refine wp_append_tokG rfl (.tmp 60) (.tmp 62) rfl top (.slice am M.length cm) M rfl HG.out l[k].kind l[k].text l[k].spaced ah l[k].hidden.length ch l[k] (fps1 k) rfl hRW.out (fun b hb => by have := (HFK.out b hb).2; omega) (by omega) t3 ?_; intro v3 w3 hG3 hg3)
                have hb3 : Below w.heap.size w w3 := hbw.grown hg3 hbw.size (fun b hb => by have := HG.out.mine b hb; omega)
                have HS3 : Hid (SplSt B0 w.heap.size (.slice aa A.length ca) v3 A (M ++ [(⟨[.int .i64 l[k].kind, .string l[k].text, .bool l[k].spaced, .slice ah l[k].hidden.length ch], l[k], fps1 k⟩ : Elem Tok)]) w3) := HSW.out.grown HG.out t2 t3 HT4.out hG3 hg3 (fun x hx => by
                  rcases List.mem_append.1 hx with hx | hx
                  · exact HSW.out.m x hx
                  · obtain rfl := List.mem_singleton.1 hx; exact HFK.out) (fun x hx => by
                  rcases List.mem_append.1 hx with hx | hx
                  · exact HSW.out.t x hx
                  · obtain rfl := List.mem_singleton.1 hx; exact HTW.out)
                clear hG3 hg3
                go_roundw
                case rel => exact ⟨k + 1, _, A, _, by omega, by omega, by go_num, rfl, by omega, by simp; omega, HS3, .inr ⟨by omega, by omega, by omega, by rw [← HF.out, List.map_append]; rfl⟩, hb3⟩
                case measure => simp [intOf]; omega
              · have e1 : (dd - 1 == 1) = false := by simp; omega
                have HX0 := HX
                have hd0 := hbx
                go_wp2_with fail
                refine (HO.out _ (by exact hd0)).mono ?_
                rintro e u1 ⟨rfl, g1⟩
                have hd1 := hd0.trans (g1.mono hd0.size)
                have HX1 := Lib.hid ((g1.block _ (Array.getElem?_eq_some_iff.1 HX0.out).1).trans HX0.out)
                have q1_0 : u1.cell? ⟨wr.heap.size, 0, none⟩ = some _ := cell_of_row _ _ 0 _ _ _ HX1.out
                have q1_1 : u1.cell? ⟨wr.heap.size, 1, none⟩ = some _ := cell_of_row _ _ 1 _ _ _ HX1.out
                have q1_2 : u1.cell? ⟨wr.heap.size, 2, none⟩ = some _ := cell_of_row _ _ 2 _ _ _ HX1.out
                have q1_3 : u1.cell? ⟨wr.heap.size, 3, none⟩ = some _ := cell_of_row _ _ 3 _ _ _ HX1.out
                go_wp2_with fail
                refine (HSH.out _ (by exact hd1)).mono ?_
                rintro e u2 ⟨rfl, g2⟩
                have hd2 := hd1.trans (g2.mono hd1.size)
                have HX2 := Lib.hid ((g2.block _ (Array.getElem?_eq_some_iff.1 HX1.out).1).trans HX1.out)
                have q2_0 : u2.cell? ⟨wr.heap.size, 0, none⟩ = some _ := cell_of_row _ _ 0 _ _ _ HX2.out
                have q2_1 : u2.cell? ⟨wr.heap.size, 1, none⟩ = some _ := cell_of_row _ _ 1 _ _ _ HX2.out
                have q2_2 : u2.cell? ⟨wr.heap.size, 2, none⟩ = some _ := cell_of_row _ _ 2 _ _ _ HX2.out
                have q2_3 : u2.cell? ⟨wr.heap.size, 3, none⟩ = some _ := cell_of_row _ _ 3 _ _ _ HX2.out
                have hbw := hb.trans (hd2.mono hb.size)
                have HSW := Lib.hid (HS.out.below hd2)
                have hRW := Lib.hid (sTok.below HRT.out hd2)
                have HTW := Lib.hid (HTK.out.below hd2)
                obtain ⟨top, t1, t2, t3, t4⟩ := HSW.out.g
                have HG := Lib.hid t1
                have HT4 := Lib.hid t4
                clear t1 t4
                go_wp2_with (at_builtin; refine wp_append_tokG rfl (.tmp 60) (.tmp 62) rfl top (.slice am M.length cm) M rfl HG.out l[k].kind l[k].text l[k].spaced ah l[k].hidden.length ch l[k] (fps1 k) rfl hRW.out (fun b hb => by have := (HFK.out b hb).2; omega) (by omega) t3 ?_; intro v3 w3 hG3 hg3)
                have hb3 : Below w.heap.size w w3 := hbw.grown hg3 hbw.size (fun b hb => by have := HG.out.mine b hb; omega)
                have HS3 : Hid (SplSt B0 w.heap.size (.slice aa A.length ca) v3 A (M ++ [(⟨[.int .i64 l[k].kind, .string l[k].text, .bool l[k].spaced, .slice ah l[k].hidden.length ch], l[k], fps1 k⟩ : Elem Tok)]) w3) := HSW.out.grown HG.out t2 t3 HT4.out hG3 hg3 (fun x hx => by
                  rcases List.mem_append.1 hx with hx | hx
                  · exact HSW.out.m x hx
                  · obtain rfl := List.mem_singleton.1 hx; exact HFK.out) (fun x hx => by
                  rcases List.mem_append.1 hx with hx | hx
                  · exact HSW.out.t x hx
                  · obtain rfl := List.mem_singleton.1 hx; exact HTW.out)
                clear hG3 hg3
                go_roundw
                case rel => exact ⟨k + 1, _, A, _, by omega, by omega, by go_num, rfl, by omega, by simp; omega, HS3, .inr ⟨by omega, by omega, by omega, by rw [← HF.out, List.map_append]; rfl⟩, hb3⟩
                case measure => simp [intOf]; omega
        · have hC : isCom l[k] = false := by
            cases e : isCom l[k]
            · rfl
            · have := opn_com e; rw [opn_open hO] at this; omega
          rw [opn_open hO, if_neg (by omega), if_neg (by rw [hC]; simp)] at HF0
          rw [hO] at HO
          have hwr : IntKind.i64.wrap (dd + 1) = dd + 1 := IntWalk.i64_in _ (by omega)
          have HF := Lib.hid HF0
          have e0 : (dd + 1 == 0) = false := by simp; omega
          have e1 : (dd + 1 == 1) = false := by simp; omega
          clear HF0 hO hC
          have HX0 := HX
          have hd0 := hbx
          go_wp2_with fail
          refine (HO.out _ (by exact hd0)).mono ?_
          rintro e u1 ⟨rfl, g1⟩
          have hd1 := hd0.trans (g1.mono hd0.size)
          have HX1 := Lib.hid ((g1.block _ (Array.getElem?_eq_some_iff.1 HX0.out).1).trans HX0.out)
          have q1_0 : u1.cell? ⟨wr.heap.size, 0, none⟩ = some _ := cell_of_row _ _ 0 _ _ _ HX1.out
          have q1_1 : u1.cell? ⟨wr.heap.size, 1, none⟩ = some _ := cell_of_row _ _ 1 _ _ _ HX1.out
          have q1_2 : u1.cell? ⟨wr.heap.size, 2, none⟩ = some _ := cell_of_row _ _ 2 _ _ _ HX1.out
          have q1_3 : u1.cell? ⟨wr.heap.size, 3, none⟩ = some _ := cell_of_row _ _ 3 _ _ _ HX1.out
          have hbw := hb.trans (hd1.mono hb.size)
          have HSW := Lib.hid (HS.out.below hd1)
          have hRW := Lib.hid (sTok.below HRT.out hd1)
          have HTW := Lib.hid (HTK.out.below hd1)
          obtain ⟨top, t1, t2, t3, t4⟩ := HSW.out.g
          have HG := Lib.hid t1
          have HT4 := Lib.hid t4
          clear t1 t4
          go_wp2_with (at_builtin; refine wp_append_tokG rfl (.tmp 60) (.tmp 62) rfl top (.slice am M.length cm) M rfl HG.out l[k].kind l[k].text l[k].spaced ah l[k].hidden.length ch l[k] (fps1 k) rfl hRW.out (fun b hb => by have := (HFK.out b hb).2; omega) (by omega) t3 ?_; intro v3 w3 hG3 hg3)
          have hb3 : Below w.heap.size w w3 := hbw.grown hg3 hbw.size (fun b hb => by have := HG.out.mine b hb; omega)
          have HS3 : Hid (SplSt B0 w.heap.size (.slice aa A.length ca) v3 A (M ++ [(⟨[.int .i64 l[k].kind, .string l[k].text, .bool l[k].spaced, .slice ah l[k].hidden.length ch], l[k], fps1 k⟩ : Elem Tok)]) w3) := HSW.out.grown HG.out t2 t3 HT4.out hG3 hg3 (fun x hx => by
            rcases List.mem_append.1 hx with hx | hx
            · exact HSW.out.m x hx
            · obtain rfl := List.mem_singleton.1 hx; exact HFK.out) (fun x hx => by
            rcases List.mem_append.1 hx with hx | hx
            · exact HSW.out.t x hx
            · obtain rfl := List.mem_singleton.1 hx; exact HTW.out)
          clear hG3 hg3
          go_roundw
          case rel => exact ⟨k + 1, _, A, _, by omega, by omega, by go_num, rfl, by omega, by simp; omega, HS3, .inr ⟨by omega, by omega, by omega, by rw [← HF.out, List.map_append]; rfl⟩, hb3⟩
          case measure => simp [intOf]; omega
    · have HF : Hid (r = (A.map (·.d), 0, false)) := by
        rcases HI.out with ⟨h1, -⟩ | ⟨_, _, _, h⟩
        · omega
        · rw [spGo_end (by omega)] at h; exact h.symm
      have HE := Lib.hid HS.out.e
      clear HI HR
      go_wp2
      go_ret3
      exact ⟨_, A, by rw [HF.out]; rfl, HE.out, by rw [HF.out], hb⟩

/-- What SplitArguments answers. -/
def RetArgs (r : Args × Int × Bool) (w : World) (e : Ending) (w' : World) : Prop :=
  ∃ (v : Value) (fp : List Nat), e = .returned (.tuple #[v, .int .i64 r.2.1, .bool r.2.2]) ∧ (sSlice sToks).R w' [v] r.1 fp ∧ (∀ b ∈ fp, w.heap.size ≤ b) ∧ Below w.heap.size w w'
theorem spec_l1In (n lo hi : Int) (w : World) : Calls Try.prog 27 #[.int .i64 n, .int .i64 lo, .int .i64 hi] w (fun e w' => e = .returned (.bool (decide (lo ≤ n) && decide (n ≤ hi))) ∧ Below w.heap.size w w') := by
  go_enter Try.func27, Try.ntmps27
  by_cases h : lo ≤ n
  · have e0 : decide (lo ≤ n) = true := decide_eq_true h
    have HF : Hid ((decide (lo ≤ n) && decide (n ≤ hi)) = decide (n ≤ hi)) := by show _ = _; rw [e0]; rfl
    go_wp2
    go_ret
    exact ⟨ret_bool (by first | rfl | rw [HF.out]), Below.refl _ _⟩
  · have e0 : decide (lo ≤ n) = false := decide_eq_false h
    have HF : Hid ((decide (lo ≤ n) && decide (n ≤ hi)) = false) := by show _ = _; rw [e0]; rfl
    go_wp2
    go_ret
    exact ⟨ret_bool (by first | rfl | rw [HF.out]), Below.refl _ _⟩
theorem RowE.readLo {α : Type} {S : Shape α} {base : Nat} {e : TypeId} {v : Value} {L : List (Elem α)} {w : World} (h : RowE S base e v L w) : ∃ fp, (sSlice S).R w [v] (L.map (·.d)) fp ∧ ∀ b ∈ fp, base ≤ b := by
  obtain ⟨fp, h1, h2, -⟩ := slice_of_row h.row fun x hx => ⟨h.len x hx, h.el x hx⟩
  refine ⟨fp, h1, fun b hb => ?_⟩
  rcases h2 b hb with h0 | h0
  · exact h.mine b h0
  · obtain ⟨x, hx, hb'⟩ := List.mem_flatMap.1 h0
    exact h.lo x hx b hb'

set_option maxHeartbeats 8000000 in
set_option maxRecDepth 100000 in
theorem spec_SplitArguments (v : Value) (l : List Tok) (fp : List Nat) (i : Int) (w : World) (hl : l.length ≤ 1048576) (hx : ∀ k, (hk : k < l.length) → l[k].hidden.length ≤ 2000000) (H : (sSlice sTok).R w [v] l fp) :
    Calls Try.prog 17 #[v, .int .i64 i] w (RetArgs (splitA l i) w) := by
  have HC := Lib.hid (spec_l1OwnTokenList_s v l fp w hl hx H)
  clear H hx
  go_enter Try.func17, Try.ntmps17
  go_wp2_with fail
  refine HC.out.mono ?_
  rintro e w1 ⟨v1, fp1, rfl, hR, hlo, hty, hB⟩
  have HV := Lib.hid (spec_TokensValid v1 l fp1 w1 hR)
  have HR1 := Lib.hid hR
  have HLO := Lib.hid hlo
  have HTY := Lib.hid hty
  obtain ⟨a1, c1, rfl, hc1, hm1, hrow⟩ := open_rows hR
  unfold maxLen at hm1
  clear HC hlo hty hR
  have hNo : ∀ (W : World), Below w.heap.size w W → splitA l i = ([], 0, false) → RetArgs (splitA l i) w (.returned (.tuple #[.slice (some ⟨W.heap.size, 0, none⟩) 0 0, .int .i64 0, .bool false])) (W.alloc (.cells #[] 30)) := fun W hW h => by
    rw [h]
    exact ⟨_, [], rfl, slice_empty sToks _ _ 0 (by simp), by simp, hW.alloc hW.size _⟩
  have HNO := Lib.hid hNo
  clear hNo
  cases hv : toksOk l
  · rw [hv] at HV
    have HF := Lib.hid (splitA_bad (a := i) hv)
    clear hv hrow
    go_wp2_with fail
    refine HV.out.mono ?_
    rintro e w2 ⟨rfl, hb2⟩
    have hbx := hB.trans (hb2.mono hB.size)
    go_wp2
    go_ret3
    exact HNO.out _ hbx HF.out
  have hl60 : l.length ≤ 60 := (toksOk_facts hv).1
  have HOKS := Lib.hid (toksOk_facts hv).2
  rw [hv] at HV
  have HVV := Lib.hid hv
  clear hv
  have hwr : IntKind.i64.wrap ((l.length : Int) - 1) = (l.length : Int) - 1 := IntWalk.i64_in _ (by omega)
  go_wp2_with fail
  refine HV.out.mono ?_
  rintro e w2 ⟨rfl, hb2⟩
  have hB2 := hB.trans (hb2.mono hB.size)
  by_cases hin : 0 ≤ i ∧ i < l.length
  rotate_left
  · have HF := Lib.hid (splitA_out hin)
    have e0 : (decide ((0 : Int) ≤ i) && decide (i ≤ (l.length : Int) - 1)) = false := by
      rw [Bool.and_eq_false_iff, decide_eq_false_iff_not, decide_eq_false_iff_not]
      omega
    have HIN := Lib.hid (spec_l1In i 0 ((l.length : Int) - 1) w2)
    rw [e0] at HIN
    clear hin e0 hrow
    go_wp2_with fail
    refine HIN.out.mono ?_
    rintro e w3 ⟨rfl, hb3⟩
    have hbx := hB2.trans (hb3.mono hB2.size)
    go_wp2
    go_ret3
    exact HNO.out _ hbx HF.out
  obtain ⟨n, rfl⟩ : ∃ n : Nat, i = (n : Int) := ⟨i.toNat, by omega⟩
  have hn : n < l.length := by omega
  have e0 : (decide ((0 : Int) ≤ (n : Int)) && decide ((n : Int) ≤ (l.length : Int) - 1)) = true := by
    rw [Bool.and_eq_true, decide_eq_true_eq, decide_eq_true_eq]
    omega
  have HIN := Lib.hid (spec_l1In n 0 ((l.length : Int) - 1) w2)
  rw [e0] at HIN
  clear hin e0
  go_wp2_with fail
  refine HIN.out.mono ?_
  rintro e w3 ⟨rfl, hb3⟩
  have hb13 := hb2.trans (hb3.mono hb2.size)
  obtain ⟨b1, off1, fps1, rfl, hb1, -, he1⟩ := hrow (by omega)
  obtain ⟨es1, hE1, hR1⟩ := he1 n hn
  clear hrow he1
  have hkok := HOKS.out n hn
  have hR2 := sTok.below hR1 hb13
  obtain ⟨h1', rfl, _, _, hK1⟩ := hR1
  obtain ⟨ah, ch, rfl, -⟩ := open_strs hK1
  clear hK1
  replace hE1 := hE1.frame (hb13.block b1 hb1)
  have c10 : w3.cell? ⟨b1, off1 + n * 4, none⟩ = some _ := elem_cell0 hE1 (by decide) rfl
  have c11 : w3.cell? ⟨b1, off1 + n * 4 + 1, none⟩ = some _ := elem_cell (j := 1) hE1 (by decide) rfl
  have c12 : w3.cell? ⟨b1, off1 + n * 4 + 2, none⟩ = some _ := elem_cell (j := 2) hE1 (by decide) rfl
  have c13 : w3.cell? ⟨b1, off1 + n * 4 + 3, none⟩ = some _ := elem_cell (j := 3) hE1 (by decide) rfl
  have HO : Hid (Calls Try.prog 42 #[.agg #[.int .i64 l[n].kind, .string l[n].text, .bool l[n].spaced, .slice ah l[n].hidden.length ch], .string ⟨#[40]⟩] w3 (Says (isOpen l[n]) w3)) := by rw [← is_open hkok]; exact spec_l7Is _ l[n] _ w3 40 hR2
  clear hE1 hR2 hkok
  have hB3 := hB2.trans (hb3.mono hB2.size)
  cases ho : isOpen l[n]
  · rw [ho] at HO
    have HF := Lib.hid (splitA_no hn ho)
    clear ho
    go_wp2_with fail
    refine HO.out.mono ?_
    rintro e w4 ⟨rfl, hb4⟩
    have hbx := hB3.trans (hb4.mono hB3.size)
    go_wp2
    go_ret3
    exact HNO.out _ hbx HF.out
  rw [ho] at HO
  have HF := Lib.hid (splitA_go HVV.out hn ho)
  have HSP := Lib.hid (fun W (hW : Below w1.heap.size w1 W) => spec_l7Split _ l fp1 n w.heap.size W (Nat.le_trans hB.size hW.size) hn ho HVV.out ((sSlice sTok).below HR1.out hW) HLO.out (HTY.out.below hW))
  generalize spGo (l.drop (n + 1)) 1 [] [] (n + 1) = r at HF HSP
  obtain ⟨ra, re, rb⟩ := r
  clear ho
  go_wp2_with fail
  refine HO.out.mono ?_
  rintro e w4 ⟨rfl, hb4⟩
  have hB4 := hB3.trans (hb4.mono hB3.size)
  clear c10 c11 c12 c13
  go_wp2_with fail
  refine (HSP.out _ (hb13.trans (hb4.mono hb13.size))).mono ?_
  rintro e w5 ⟨v5, A, rfl, hE, hD, hb5⟩
  have hB5 := hB4.trans (hb5.mono hB4.size)
  cases rb
  · go_wp2
    go_ret3
    exact HNO.out _ hB5 HF.out
  · obtain ⟨fpr, hr, hlo⟩ := hE.readLo
    rw [hD] at hr
    have HRR := Lib.hid hr
    have HLR := Lib.hid hlo
    clear hE hD hr hlo
    go_wp2
    go_ret3
    rw [HF.out]
    exact ⟨_, fpr, rfl, HRR.out, HLR.out, hB5⟩

end Go.Proofs.Ytiaiggjfepoahab

/- Of the model: truth, numbers. -/
namespace Go.Proofs.Ytiaiggjfepoahab
open Go.RowKit

theorem spec_l12Truth (b : Bool) (w : World) : Calls Try.prog 28 #[.bool b] w fun e w' => e = .returned (.int .i64 (bit1 b)) ∧ w' = w := by
  go_enter Try.func28, Try.ntmps28
  cases b
  · go_wp2
    go_ret
    exact ⟨rfl, rfl⟩
  · go_wp2
    go_ret
    exact ⟨rfl, rfl⟩

/-- The number of the first digits. -/
theorem digs_step {s : List UInt8} {k : Nat} (hk : k < s.length) : digs (s.take (k + 1)) = 10 * digs (s.take k) + ((s[k].toNat : Int) - 48) := by
  unfold digs
  rw [List.take_succ_eq_append_getElem hk, List.foldl_append]
  rfl
theorem num_bad {s : List UInt8} {k : Nat} (hk : k < s.length) (h : isDig s[k] = false) : numRes s = -1 := by
  unfold numRes
  rw [if_pos]
  exact .inr (.inr (List.all_eq_false.2 ⟨s[k], List.getElem_mem hk, by simp [h]⟩))
theorem num_long {s : List UInt8} (h : 7 < s.length) : numRes s = -1 := by unfold numRes; rw [if_pos (.inr (.inl h))]
theorem num_great {s : List UInt8} (h1 : 1000000 < digs s) : numRes s = -1 := by
  unfold numRes
  split
  · rfl
  · rfl
theorem num_yes {s : List UInt8} (h : s ≠ []) (h0 : ¬ 7 < s.length) (hd : ∀ k, (hk : k < s.length) → isDig s[k] = true) (h1 : ¬ 1000000 < digs s) : numRes s = digs s := by
  unfold numRes
  rw [if_neg, if_neg h1]
  rintro (h2 | h2 | h2)
  · exact h h2
  · exact h0 h2
  · obtain ⟨x, hx, hx2⟩ := List.all_eq_false.1 h2
    obtain ⟨k, hk, rfl⟩ := List.getElem_of_mem hx
    exact hx2 (hd k hk)

set_option maxHeartbeats 4000000 in
set_option maxRecDepth 100000 in
theorem spec_NumberOf (s : ByteArray) (w : World) (hs : s.size ≤ maxLen) :
    Calls Try.prog 10 #[.string s] w fun e w' => e = .returned (.int .i64 (numRes s.toList)) ∧ Below w.heap.size w w' := by
  unfold maxLen at hs
  obtain ⟨L, HL⟩ : ∃ L : List UInt8, Hid (L = s.toList) := ⟨_, Lib.hid rfl⟩
  rw [show s.toList = L from HL.out.symm]
  have hll : Hid (L.length = s.size) := by show _ = _; rw [HL.out, ByteArray.toList_eq]; simp
  have hget : Hid (∀ k (hk : k < s.size) (hk2 : k < L.length), L[k] = s[k]) := fun k hk hk2 => by
    have := HL.out
    subst this
    simp only [ByteArray.toList_eq]
    rfl
  go_enter Try.func10, Try.ntmps10
  go_wp2
  go_loopw [3, 4] (fun vn i wr => ∃ (k : Nat) (n : Int), k ≤ s.size ∧ k ≤ 7 ∧ i = .int .i64 k ∧ vn = .int .i64 n ∧ Hid (n = digs (L.take k)) ∧ 0 ≤ n ∧ n < 10 ^ k ∧ Hid (∀ j, (hj : j < L.length) → j < k → isDig L[j] = true) ∧ Below w.heap.size w wr) (fun _ i _ => s.size - (intOf i).toNat)
  case atStart => exact ⟨0, 0, by omega, by omega, rfl, rfl, rfl, Int.le_refl _, by decide, (fun j _ h => by omega), Below.refl _ _⟩
  case round =>
    obtain ⟨k, n, hk, hk7, rfl, rfl, HN, hn0, hn1, HD, hb⟩ := hrel
    by_cases hlt : k < s.size
    · have hlt2 : k < L.length := by have := hll.out; omega
      have i0 : (0 : Int) ≤ (k : Int) := by omega
      have i1 : (k : Int) < (s.size : Int) := by omega
      have HDG := Lib.hid (spec_l3Digit s[k] wr)
      have HG := Lib.hid (hget.out k hlt hlt2)
      cases hd : isDig s[k]
      · have HF : Hid (numRes L = -1) := num_bad hlt2 (by rw [HG.out]; exact hd)
        rw [hd] at HDG
        clear hd
        go_wp2_with fail
        refine HDG.out.mono ?_
        rintro e w2 ⟨rfl, rfl⟩
        go_wp2
        go_ret
        exact ⟨by rw [HF.out]; rfl, hb⟩
      · have HDK := Lib.hid hd
        rw [hd] at HDG
        unfold isDig at hd
        rw [decide_eq_true_eq] at hd
        go_wp2_with fail
        refine HDG.out.mono ?_
        rintro e w2 ⟨rfl, rfl⟩
        by_cases h6 : k = 7
        · have HF : Hid (numRes L = -1) := num_long (by have := hll.out; omega)
          have e1 : (6 : Int) < (k : Int) := by omega
          clear h6
          go_wp2
          go_ret
          exact ⟨by rw [HF.out]; rfl, hb⟩
        · have e1 : ¬ (6 : Int) < (k : Int) := by omega
          have hk6 : k ≤ 6 := by omega
          have hpow : (10 : Int) ^ k ≤ 1000000 := by
            have : ∀ j, j ≤ 6 → (10 : Int) ^ j ≤ 1000000 := by decide
            exact this k hk6
          have hps : (10 : Int) ^ (k + 1) = 10 ^ k * 10 := Int.pow_succ 10 k
          have HN2 : Hid (10 * n + ((s[k].toNat : Int) - 48) = digs (L.take (k + 1))) := by show _ = _; rw [digs_step hlt2, ← HN.out, HG.out]
          have HD2 : Hid (∀ j, (hj : j < L.length) → j < k + 1 → isDig L[j] = true) := fun j hj h => by
            by_cases e : j = k
            · subst e; rw [HG.out]; exact HDK.out
            · exact HD.out j hj (by omega)
          have w1 : IntKind.i64.wrap (10 * n) = 10 * n := IntWalk.i64_in _ (by omega)
          have w2 : IntKind.u8.wrap ((s[k].toNat : Int) - 48) = (s[k].toNat : Int) - 48 := IntWalk.u8_in _ (by omega)
          have w3 : IntKind.i64.wrap ((s[k].toNat : Int) - 48) = (s[k].toNat : Int) - 48 := IntWalk.i64_in _ (by omega)
          have w4 : IntKind.i64.wrap (10 * n + ((s[k].toNat : Int) - 48)) = 10 * n + ((s[k].toNat : Int) - 48) := IntWalk.i64_in _ (by omega)
          go_wp2
          go_roundw
          case rel => exact ⟨k + 1, 10 * n + ((s[k].toNat : Int) - 48), by omega, by omega, by go_num, rfl, HN2, by omega, by omega, HD2, hb⟩
          case measure => simp [intOf]; omega
    · have hke : k = s.size := by omega
      have hle : L.length = k := by rw [hll.out, hke]
      have hn9 : Hid (n = digs L) := by show _ = _; rw [HN.out, List.take_of_length_le (by omega)]
      have HDA : Hid (∀ j, (hj : j < L.length) → isDig L[j] = true) := fun j hj => HD.out j hj (by omega)
      by_cases h0 : s.size = 0
      · have e0 : (s.toList == ([] : List UInt8)) = true := by
          have : s.toList = [] := by rw [← HL.out]; exact List.length_eq_zero_iff.1 (by omega)
          rw [this]; rfl
        have HF : Hid (numRes L = -1) := by show _ = _; rw [List.length_eq_zero_iff.1 (by omega : L.length = 0)]; rfl
        clear hke hle
        go_wp2
        go_ret
        exact ⟨by rw [HF.out]; rfl, hb⟩
      · have e0 : (s.toList == ([] : List UInt8)) = false := by
          cases e : (s.toList == ([] : List UInt8))
          · rfl
          · have : s.toList = [] := by simpa using e
            have h9 := HL.out
            rw [this] at h9
            rw [h9] at hle
            simp at hle; omega
        have HNE : Hid (L ≠ []) := fun e => by rw [e] at hle; simp at hle; omega
        by_cases hgr : 1000000 < n
        · have HF : Hid (numRes L = -1) := num_great (by rw [← hn9.out]; exact hgr)
          clear hke hle
          go_wp2
          go_ret
          exact ⟨by rw [HF.out]; rfl, hb⟩
        · have HF : Hid (numRes L = n) := by show _ = _; rw [num_yes HNE.out (by omega) HDA.out (by rw [← hn9.out]; exact hgr), ← hn9.out]
          clear hke hle
          go_wp2
          go_ret
          exact ⟨by rw [HF.out]; rfl, hb⟩

end Go.Proofs.Ytiaiggjfepoahab

/- Names in order: bytes alone. -/
namespace Go.Proofs.Ytiaiggjfepoahab
open Go.RowKit
end Go.Proofs.Ytiaiggjfepoahab

/- Texts of tokens: no program. -/
namespace Go.Proofs.Ytiaiggjfepoahab
open Go.RowKit
/-- What a text stands for, from the place k on. -/
def outTo (s : ByteArray) (k : Nat) : ByteArray :=
  if h : k + 1 < s.size then (if s[k].toNat = 92 then s.extract (k + 1) (k + 2) ++ outTo s (k + 2) else s.extract k (k + 1) ++ outTo s (k + 1)) else ⟨#[]⟩
termination_by s.size - k
theorem outTo_else {s : ByteArray} {k : Nat} (h : k + 1 < s.size) (hc : ¬ s[k].toNat = 92) : outTo s k = s.extract k (k + 1) ++ outTo s (k + 1) := by rw [outTo, dif_pos h, if_neg hc]
end Go.Proofs.Ytiaiggjfepoahab

/- Pasting tokens, hiding names: no program. -/
namespace Go.Proofs.Ytiaiggjfepoahab
open Go.RowKit

/-! ### Lists of names -/
/-- Whether a name is in a list. -/
def hasN (l : List ByteArray) (s : ByteArray) : Bool := l.any fun x => x.toList == s.toList
/-- The names that are in both lists. -/
def both (a b : List ByteArray) : List ByteArray := a.filter (hasN b)
/-! ### Pasting -/
/-! ### Hiding -/
end Go.Proofs.Ytiaiggjfepoahab

/- Arguments put into bodies: no program. -/
namespace Go.Proofs.Ytiaiggjfepoahab
open Go.RowKit
section
variable {m : DMacro} {raw ready : List (List Tok)} {k : Nat}
end
section
variable {m : DMacro} {raw ready : List (List Tok)} {k : Nat} {out part : List Tok} {emp paste : Bool} {nx : Nat} {ok : Bool}
end
end Go.Proofs.Ytiaiggjfepoahab

/- An element put into a row: what the cells are. Over any program. -/
namespace Go.Proofs.Ytiaiggjfepoahab
open Go.RowKit
end Go.Proofs.Ytiaiggjfepoahab

/- Rows of the call's own whose elements lie anywhere but in the row's own block: appended, written, read. Over any program. -/
namespace Go.Proofs.Ytiaiggjfepoahab
open Go.RowKit
structure RowN {α : Type} (S : Shape α) (base : Nat) (e : TypeId) (v : Value) (L : List (Elem α)) (w : World) : Prop where
  row : w.ownsRow base e S.m v L.length (L.flatMap (·.cells))
  len : ∀ x ∈ L, x.cells.length = S.m
  el : ∀ x ∈ L, S.R w x.cells x.d x.fp
  ap : ∀ x ∈ L, ∀ b ∈ x.fp, v.ownBlock ≠ some b

section
variable {α : Type} {S : Shape α} {base : Nat} {e : TypeId} {v v' : Value} {L : List (Elem α)} {w w' : World}
theorem RowN.same (h : RowN S base e v L w) (hv : ∀ g, v.ownBlock = some g → w'.heap[g]? = w.heap[g]?) (hb : ∀ x ∈ L, ∀ b ∈ x.fp, w'.heap[b]? = w.heap[b]?) : RowN S base e v L w' where
  row := ownsRow_same h.row hv
  len := h.len
  el := fun x hx => S.frame (fun b hb' => hb x hx b hb') (h.el x hx)
  ap := h.ap
theorem RowN.below (h : RowN S base e v L w) (hb : Below w.heap.size w w') : RowN S base e v L w' :=
  h.same (fun g hg => hb.block g (h.row.lt g hg).2) (fun x hx b hb' => hb.block b (S.lt (h.el x hx) b hb'))
theorem RowN.kept {K : List Nat} (h : RowN S base e v L w) (hk : Kept K w w') (hv : ∀ g, v.ownBlock = some g → g ∉ K) (hb : ∀ x ∈ L, ∀ b ∈ x.fp, b ∉ K) : RowN S base e v L w' :=
  h.same (fun g hg => hk.block g (h.row.lt g hg).2 (hv g hg)) (fun x hx b hb' => hk.block b (S.lt (h.el x hx) b hb') (hb x hx b hb'))
theorem RowN.len_eq {g n cap : Nat} (h : RowN S base e (.slice (some ⟨g, 0, none⟩) n cap) L w) : L.length = n := by
  rcases h.row.2 with ⟨h', _⟩ | ⟨g', cap', cur, h', _⟩
  · cases h'
  · simp only [Value.slice.injEq] at h'; exact h'.2.1.symm
/-- One cell of an element is written: the element reads as something else then. -/
theorem RowN.set {g n cap : Nat} (h : RowN S base e (.slice (some ⟨g, 0, none⟩) n cap) L w) {k : Nat} (hk : k < L.length) {j : Nat} (hj : j < S.m) (u : Value) (x' : Elem α) (hx : x'.cells = L[k].cells.set j u)
    (hR : S.R w x'.cells x'.d x'.fp) (hap : g ∉ x'.fp) : RowN S base e (.slice (some ⟨g, 0, none⟩) n cap) (L.set k x') (w.setCell ⟨g, k * S.m + j, none⟩ u) := by
  have hn : L.length = n := h.len_eq
  have hfar : ∀ b, b ≠ g → (w.setCell ⟨g, k * S.m + j, none⟩ u).heap[b]? = w.heap[b]? := fun b hb => Below.heap_setCell _ _ _ _ hb
  have hmem : ∀ x ∈ L.set k x', x = x' ∨ x ∈ L := fun x hx => by
    rcases List.mem_or_eq_of_mem_set hx with h | h
    · exact .inr h
    · exact .inl h
  have hne : ∀ x ∈ L.set k x', ∀ b ∈ x.fp, b ≠ g := fun x hx' b hb e => by
    subst e
    rcases hmem x hx' with rfl | hx'
    · exact hap hb
    · exact h.ap x hx' b hb rfl
  refine ⟨?_, fun x hx' => ?_, fun x hx' => S.frame (fun b hb => hfar b (hne x hx' b hb)) ?_, fun x hx' b hb hv => ?_⟩
  · have hrow := h.row
    rw [hn] at hrow
    have := (hrow.stored (k * S.m + j) u).1
    rw [flatMap_set h.len hk hj u x' hx] at this
    rw [List.length_set, hn]
    exact this
  · rcases hmem x hx' with rfl | hx'
    · rw [hx, List.length_set]; exact h.len _ (List.getElem_mem hk)
    · exact h.len x hx'
  · rcases hmem x hx' with rfl | hx'
    · exact hR
    · exact h.el x hx'
  · simp only [Value.ownBlock, Option.some.injEq] at hv
    exact hne x hx' b hb hv.symm
end
end Go.Proofs.Ytiaiggjfepoahab
