/- Texts that the proof of U stands on, in one file. -/
import Derived.Test.YtbkmapaieillmaaZU2
import Derived.Test.YtbkmapaieillmaaZU4
import Derived.Laws.AppendOwnNone
import Derived.Test.YtbkmapaieillmaaZU1
import Derived.Laws.ResultCell
import Derived.Test.YtbkmapaieillmaaZU3
import Derived.Laws.Cover1
import Derived.Outline
set_option linter.unusedVariables false
set_option linter.unusedSimpArgs false
/- Rows of the call's own: literals, whole elements stored, rows behind rows. Over any program. -/
namespace Go.Proofs.Ytbkmapaieillmaa
open Go.RowKit

section
variable {α : Type} {S : Shape α} {base : Nat} {e : TypeId} {v v' : Value} {L : List (Elem α)} {w w' : World}
/-- A literal's row. -/
theorem RowE.lit (X : List (Elem α)) (hlen : ∀ x ∈ X, x.cells.length = S.m) (hR : ∀ x ∈ X, S.R w x.cells x.d x.fp) (hlo : ∀ x ∈ X, ∀ b ∈ x.fp, base ≤ b) (hty : ∀ x ∈ X, ∀ b ∈ x.fp, ∃ cur t fr, w.heap[b]? = some (.cells cur t fr) ∧ t ≠ e)
    (hb : base ≤ w.heap.size) (hn : X.length ≤ 1000000) : RowE S base e (.slice (some ⟨w.heap.size, 0, none⟩) X.length X.length) X (w.alloc (.cells (X.flatMap (·.cells)).toArray e)) where
  row := World.ownsRow_lit (base := base) (e := e) (size := S.m) w (X.flatMap (·.cells)).toArray X.length hb (by unfold maxLen; omega) (by simpa using flatMap_len hlen)
  len := hlen
  el := fun x hx => S.below (hR x hx) (alloc_below' _ _)
  lo := hlo
  ty := fun x hx b hb' => by
    obtain ⟨cur, t, fr, h1, h2⟩ := hty x hx b hb'
    exact ⟨cur, t, fr, ((alloc_below' w _).block b (Array.getElem?_eq_some_iff.1 h1).1).trans h1, h2⟩
/-- What a row's slice reads, and in which blocks. -/
theorem RowE.read (h : RowE S base e v L w) : ∃ fp, (sSlice S).R w [v] (L.map (·.d)) fp ∧ ∀ b ∈ fp, base ≤ b := by
  obtain ⟨fp, h1, h2, _⟩ := slice_of_row h.row fun x hx => ⟨h.len x hx, h.el x hx⟩
  refine ⟨fp, h1, fun b hb => ?_⟩
  rcases h2 b hb with h3 | h3
  · exact h.mine b h3
  · obtain ⟨x, hx, hb'⟩ := List.mem_flatMap.1 h3
    exact h.lo x hx b hb'
theorem setFrom_flat : ∀ {L : List (Elem α)} {m : Nat} (_ : ∀ x ∈ L, x.cells.length = m) {k : Nat} (hk : k < L.length) (x' : Elem α) (_ : x'.cells.length = m), setFrom (L.flatMap (·.cells)) (k * m) x'.cells = (L.set k x').flatMap (·.cells) := by
  intro L m hL k hk x' hx'
  have h1 : L = L.take k ++ (L[k] :: L.drop (k + 1)) := by rw [List.getElem_cons_drop, List.take_append_drop]
  have h2 : (L.take k).length = k := by rw [List.length_take]; omega
  have h3 : ((L.take k).flatMap (·.cells)).length = k * m := by rw [flatMap_len (m := m) (fun x hx => hL x (List.mem_of_mem_take hx)), h2]
  have h4 : L.flatMap (·.cells) = (L.take k).flatMap (·.cells) ++ (L[k].cells ++ (L.drop (k + 1)).flatMap (·.cells)) := by
    conv => lhs; rw [h1]
    rw [List.flatMap_append, List.flatMap_cons]
  have h5 : L.set k x' = L.take k ++ (x' :: L.drop (k + 1)) := by rw [List.set_eq_take_append_cons_drop, if_pos hk]
  rw [h4, ← h3, setFrom_app _ _ _ _ (by rw [hL _ (List.getElem_mem hk), hx']), h5, List.flatMap_append, List.flatMap_cons]
/-- A whole element is stored. -/
theorem RowE.put {g n cap : Nat} (h : RowE S base e (.slice (some ⟨g, 0, none⟩) n cap) L w) {k : Nat} (hk : k < L.length) (x' : Elem α) (hl : x'.cells.length = S.m)
    (hR : S.R w x'.cells x'.d x'.fp) (hlo : ∀ b ∈ x'.fp, base ≤ b) (hty : ∀ b ∈ x'.fp, ∃ cur t fr, w.heap[b]? = some (.cells cur t fr) ∧ t ≠ e) :
    RowE S base e (.slice (some ⟨g, 0, none⟩) n cap) (L.set k x') (putAll w g (k * S.m) x'.cells) := by
  have hne : ∀ b : Nat, (∃ cur t fr, w.heap[b]? = some (.cells cur t fr) ∧ t ≠ e) → b ≠ g := by
    rintro b ⟨cur, t, fr, h1, h2⟩ rfl
    rcases h.row.2 with ⟨h', _⟩ | ⟨g', cap', cur', h', _, hg, _⟩
    · cases h'
    · simp only [Value.slice.injEq, Option.some.injEq, Addr.mk.injEq, and_true] at h'
      obtain ⟨rfl, _⟩ := h'
      rw [h1] at hg
      simp only [Option.some.injEq, Obj.cells.injEq] at hg
      exact h2 hg.2.1
  have hK := putAll_kept (g := g) x'.cells w (k * S.m)
  have hblk : ∀ b : Nat, b < w.heap.size → b ≠ g → (putAll w g (k * S.m) x'.cells).heap[b]? = w.heap[b]? := fun b hb hn => hK.block b hb (by simpa using hn)
  have hmem : ∀ x ∈ L.set k x', x = x' ∨ x ∈ L := fun x hx => by
    rcases List.mem_or_eq_of_mem_set hx with h | h
    · exact .inr h
    · exact .inl h
  refine ⟨?_, fun x hx' => ?_, fun x hx' => ?_, fun x hx' => ?_, fun x hx' => ?_⟩
  · have hn : L.length = n := by
      rcases h.row.2 with ⟨h', _⟩ | ⟨g', cap', cur, h', _⟩
      · cases h'
      · simp only [Value.slice.injEq] at h'; exact h'.2.1.symm
    have hrow := h.row
    rw [hn] at hrow
    have := putAll_row x'.cells w _ (k * S.m) hrow
    rw [setFrom_flat h.len hk x' hl] at this
    rw [List.length_set, hn]
    exact this
  · rcases hmem x hx' with rfl | hx'
    · exact hl
    · exact h.len x hx'
  · rcases hmem x hx' with rfl | hx'
    · exact S.frame (fun b hb => hblk b (S.lt hR b hb) (hne b (hty b hb))) hR
    · exact S.frame (fun b hb => hblk b (S.lt (h.el x hx') b hb) (hne b (h.ty x hx' b hb))) (h.el x hx')
  · rcases hmem x hx' with rfl | hx'
    · exact hlo
    · exact h.lo x hx'
  · intro b hb
    rcases hmem x hx' with rfl | hx'
    · obtain ⟨cur, t, fr, h1, h2⟩ := hty b hb
      exact ⟨cur, t, fr, (hblk b (Array.getElem?_eq_some_iff.1 h1).1 (hne b ⟨cur, t, fr, h1, h2⟩)).trans h1, h2⟩
    · obtain ⟨cur, t, fr, h1, h2⟩ := h.ty x hx' b hb
      exact ⟨cur, t, fr, (hblk b (Array.getElem?_eq_some_iff.1 h1).1 (hne b ⟨cur, t, fr, h1, h2⟩)).trans h1, h2⟩
end

/-- append(s, row...), the row one of the call's own. -/
theorem wp_append_rows {α : Type} {S : Shape α} {P : Program} {t e : TypeId} {z : Value} {bytes : Nat} (ti : TI P t e z S.m bytes) (hzs : z.cells.size = S.m) (h0 : 0 < S.m) (w : World) {L M : List (Elem α)} {ops : Array Oper} {rest : List Oper} {o : Oper} {a : Act} {Q : Exit → Act → World → Prop}
    (hg : o.guard = none) (s y : Operand) (ho : o.op = .call { callee := .builtin .append, args := #[s, y], argTypes := #[t, t] })
    (base : Nat) (v u : Value) (hs : a.eval s = v) (hown : RowE S base e v L w) (hy : a.eval y = u) (HM : RowE S base e u M w) (h1 : ∀ x ∈ M, ∀ u ∈ x.cells, u.oneCell' = true)
    (h63 : L.length + M.length ≤ maxLen) (hbytes : (L.length + M.length) * bytes ≤ 140737488355328) (hbase : base ≤ w.heap.size)
    (h : ∀ v' w', RowE S base e v' (L ++ M) w' → w.grownBy w' v.ownBlock → wpList P ops Q rest (a.put o.dst v') w') : wpList P ops Q (o :: rest) a w := by
  rcases HM.row.2 with ⟨rfl, hz⟩ | ⟨g, cap, cur, rfl, _⟩
  · have hM : M = [] := List.length_eq_zero_iff.1 hz
    subst hM
    obtain ⟨i, hi, hz0, hz1, hz2⟩ := info_parts ti.2
    refine wpList_append_own_none hg s y t ho base e i S.m ti.1 hi v L.length _ hs hown.row hy ?_
    exact h v w (by simpa using hown) ⟨rfl, rfl, rfl, Nat.le_refl _, fun _ _ _ => rfl⟩
  · refine wp_append_rowE ti hzs h0 w (X := M) hg s y ho base v hs hown g M.length cap hy rfl HM.len h1 ?_ HM.el HM.lo HM.ty h63 hbytes hbase h
    intro j u hj
    have hlt : j < (M.flatMap (·.cells)).length := (List.getElem?_eq_some_iff.1 hj).1
    rw [flatMap_len HM.len] at hlt
    rw [HM.row.cellAt j hlt]
    exact hj

/-- An operation whose guard holds is walked as one without. -/
theorem wpList_guarded {P : Program} {ops : Array Oper} {rest : List Oper} {a : Act} {w : World} {Q : Exit → Act → World → Prop} {d : Option Tmp} {op : Op} {ty : TypeId} {pos : String} {after : Array Edge} {g : Option (Nat × Bool)}
    (hw : Region.wanted (Oper.mk d op ty pos after g) (yielded ops a.tmps) = true) (h : wpList P ops Q (Oper.mk d op ty pos after none :: rest) a w) : wpList P ops Q (Oper.mk d op ty pos after g :: rest) a w := by
  unfold wpList at h ⊢
  rw [if_pos hw]
  rw [if_pos (show Region.wanted (Oper.mk d op ty pos after none) (yielded ops a.tmps) = true from rfl)] at h
  exact h

/-- .. and where the row lies then. -/
theorem wp_append_rowsB {α : Type} {S : Shape α} {P : Program} {t e : TypeId} {z : Value} {bytes : Nat} (ti : TI P t e z S.m bytes) (hzs : z.cells.size = S.m) (h0 : 0 < S.m) (w : World) {L M : List (Elem α)} {ops : Array Oper} {rest : List Oper} {o : Oper} {a : Act} {Q : Exit → Act → World → Prop}
    (hg : o.guard = none) (s y : Operand) (ho : o.op = .call { callee := .builtin .append, args := #[s, y], argTypes := #[t, t] })
    (base top : Nat) (v u : Value) (hs : a.eval s = v) (hown : RowE S base e v L w) (hy : a.eval y = u) (HM : RowE S base e u M w) (h1 : ∀ x ∈ M, ∀ u ∈ x.cells, u.oneCell' = true)
    (h63 : L.length + M.length ≤ maxLen) (hbytes : (L.length + M.length) * bytes ≤ 140737488355328) (hbase : base ≤ top) (htop : top ≤ w.heap.size) (hv : ∀ b, v.ownBlock = some b → top ≤ b)
    (h : ∀ v' w', RowE S base e v' (L ++ M) w' → w.grownBy w' v.ownBlock → (∀ b, v'.ownBlock = some b → top ≤ b) → wpList P ops Q rest (a.put o.dst v') w') : wpList P ops Q (o :: rest) a w := by
  obtain ⟨i, hi, hz0, hz1, hz2⟩ := info_parts ti.2
  rcases HM.row.2 with ⟨rfl, hz⟩ | ⟨g, cap, cur, rfl, _⟩
  · have hM : M = [] := List.length_eq_zero_iff.1 hz
    subst hM
    refine wpList_append_own_none hg s y t ho base e i S.m ti.1 hi v L.length _ hs hown.row hy ?_
    exact h v w (by simpa using hown) ⟨rfl, rfl, rfl, Nat.le_refl _, fun _ _ _ => rfl⟩ hv
  · have hrow2 : w.ownsRow top e S.m v L.length (L.flatMap (·.cells)) := ⟨hown.row.1, by
      rcases hown.row.2 with h0 | ⟨g, cap, cur, h1, h2, h3⟩
      · exact .inl h0
      · exact .inr ⟨g, cap, cur, h1, hv g (by rw [h1]; rfl), h3⟩⟩
    refine wpList_append_own _ hg s y t ho top e i z S.m bytes ti.1 hi hz0 hz1 hz2 hzs h0 v L.length _ hs hrow2 ⟨g, 0, none⟩ M.length cap (M.flatMap (·.cells)) hy (flatMap_len HM.len) ?_ ?_ h63 hbytes htop fun v' w' a b _ => h v' w' ?_ b (fun g hg => (a.lt g hg).1)
    · intro j u hj
      rw [addr_add, Nat.zero_add]
      have hlt : j < (M.flatMap (·.cells)).length := (List.getElem?_eq_some_iff.1 hj).1
      rw [flatMap_len HM.len] at hlt
      rw [HM.row.cellAt j hlt]
      exact hj
    · intro u hu
      obtain ⟨x, hx, hu⟩ := List.mem_flatMap.1 hu
      exact h1 x hx u hu
    · refine hown.appended ?_ b HM.len HM.el HM.lo HM.ty
      rw [List.length_append, List.flatMap_append]
      refine ⟨a.1, ?_⟩
      rcases a.2 with h0 | ⟨g, cap, cur, h1, h2, h3⟩
      · exact .inl h0
      · exact .inr ⟨g, cap, cur, h1, Nat.le_trans hbase h2, h3⟩

end Go.Proofs.Ytbkmapaieillmaa

/- The drawing of lists of tokens. -/
namespace Go.Proofs.Ytbkmapaieillmaa
open Go.RowKit

/-- Tokens are drawn. -/
def DrawnList (w : World) (e : Ending) (w' : World) : Prop :=
  ∃ (v : Value) (L : List (Elem Tok)), e = .returned v ∧ RowE sTok w.heap.size 25 v L w' ∧ (∀ x ∈ L, okTok x.d) ∧ L.length ≤ 61 ∧ Below w.heap.size w w'
theorem okPlus : okTok ⟨4, ⟨#[43]⟩, false, []⟩ := ⟨by decide, by decide, by decide, by decide⟩
/-- A token's Spaced is stored. -/
theorem RowE.spaced {base g n cap : Nat} {L : List (Elem Tok)} {w : World} (h : RowE sTok base 25 (.slice (some ⟨g, 0, none⟩) n cap) L w) {k : Nat} (hk : k < L.length) (b : Bool) :
    ∃ x', RowE sTok base 25 (.slice (some ⟨g, 0, none⟩) n cap) (L.set k x') (w.setCell ⟨g, k * 4 + 2, none⟩ (.bool b)) ∧ (okTok L[k].d → okTok x'.d) := by
  have hm := List.getElem_mem hk
  obtain ⟨hh, hcs, hi, hs, hK⟩ := h.el _ hm
  refine ⟨⟨[.int .i64 L[k].d.kind, .string L[k].d.text, .bool b, hh], ⟨L[k].d.kind, L[k].d.text, b, L[k].d.hidden⟩, L[k].fp⟩, h.set hk (j := 2) (by decide) _ _ (by rw [hcs]; rfl) ⟨hh, rfl, hi, hs, hK⟩ (fun b hb => h.lo L[k] hm b hb) (fun b hb => h.ty L[k] hm b hb), fun h => h⟩
theorem okSet {L : List (Elem Tok)} (h : ∀ x ∈ L, okTok x.d) {k : Nat} {x' : Elem Tok} (hx : okTok x'.d) : ∀ x ∈ L.set k x', okTok x.d := fun x hm => by
  rcases List.mem_or_eq_of_mem_set hm with h1 | h1
  · exact h x h1
  · subst h1; exact hx

end Go.Proofs.Ytbkmapaieillmaa

/- What a function with a struct and another result hands back; boxes. Over any program. -/
namespace Go.Proofs.Ytbkmapaieillmaa
open Go.RowKit

theorem results_cell2 {P : Program} {fn : Func} {p u : Tmp} {ty : TypeId} (h : fn.results = #[.cell p ty, .tmp u]) (tmps : Array Value) (w : World) (g : Nat) (t : TypeId) (cs : Array Value) (fr : Nat × Nat) (d : TypeDesc)
    (hp : tmps.getD p undef = .pointer (some ⟨g, 0, none⟩)) (hg : w.heap[g]? = some (.cells cs t fr))
    (hu : P.underlying ty = some d) (hd : (match d with | .struct _ | .array _ _ => true | _ => false) = true) (hi : (P.info? ty).map (·.size) = some cs.size) :
    (results fn tmps).run P w = .ok (.tuple #[.agg cs, tmps.getD u undef]) w := by
  have hp' : tmps[p]?.getD undef = .pointer (some ⟨g, 0, none⟩) := by simpa using hp
  rw [results_cell_tmp h]
  simp [hp', asAddr, run_loadVar_row w g t ty cs fr d hg hu hd hi, Result.andThen]

theorem mbox {w : World} {g : Nat} {arr : Array Value} {ty : TypeId} (h : w.heap[g]? = some (.cells arr ty (0, 0))) {w' : World} (hb : Below w.heap.size w w') : w'.heap[g]? = some (.cells arr ty (0, 0)) :=
  (hb.block g (Array.getElem?_eq_some_iff.1 h).1).trans h
theorem mlt {w : World} {g : Nat} {o : Obj} (h : w.heap[g]? = some o) : g < w.heap.size := (Array.getElem?_eq_some_iff.1 h).1

end Go.Proofs.Ytbkmapaieillmaa

/- Tokens that laws draw: literals of one, tokens with nothing behind them. -/
namespace Go.Proofs.Ytbkmapaieillmaa
open Go.RowKit

theorem tok_bare0 (k : Int) (s : ByteArray) (ao : Option Addr) (c : Nat) (w : World) (h0 : 0 ≤ k) (h1 : k ≤ 4) (h2 : s.size ≤ 1000) (h3 : c ≤ maxLen) : sTok.R w [.int .i64 k, .string s, .bool false, .slice ao 0 c] ⟨k, s, false, []⟩ [] :=
  ⟨_, rfl, (show okInt k from ⟨by omega, by omega⟩), (show s.size ≤ maxLen by unfold maxLen; omega), slice_empty sStr _ _ _ h3⟩
/-- A literal of one token. -/
theorem lit_one {w : World} {k : Int} {s : ByteArray} {sp : Bool} {v : Value} {x : Tok} {fp : List Nat} (h : sTok.R w [.int .i64 k, .string s, .bool sp, v] x fp) :
    (sSlice sTok).R (w.alloc (.cells #[.int .i64 k, .string s, .bool sp, v] 25)) [.slice (some ⟨w.heap.size, 0, none⟩) 1 1] [x] (w.heap.size :: fp) := by
  have hb := alloc_below' w (.cells #[.int .i64 k, .string s, .bool sp, v] 25)
  refine ⟨_, 1, rfl, Nat.le_refl _, by simp [maxLen], .inr ⟨by simp, w.heap.size, 0, fun _ => fp, rfl, by simp, by show _ < (w.heap.push _).size; simp, fun i hi => ?_⟩⟩
  obtain rfl : i = 0 := by simpa using hi
  refine ⟨_, ⟨rfl, fun j hj => ?_⟩, sTok.below h hb⟩
  have e : 0 + 0 * sTok.m + j = j := by simp
  rw [e, World.cell?_alloc_at _ _ _ _ rfl]
  simp

/-- A token is drawn. -/
def DrawnTk (w : World) (e : Ending) (w' : World) : Prop :=
  ∃ (k : Int) (s : ByteArray) (sp : Bool) (ao : Option Addr) (m c : Nat) (l : List ByteArray) (fp : List Nat), e = .returned (.agg #[.int .i64 k, .string s, .bool sp, .slice ao m c]) ∧
    sTok.R w' [.int .i64 k, .string s, .bool sp, .slice ao m c] ⟨k, s, sp, l⟩ fp ∧ okTok ⟨k, s, sp, l⟩ ∧ Below w.heap.size w w'
theorem ok_bare {k : Int} {s : ByteArray} (h0 : 0 ≤ k) (h1 : k ≤ 4) (h2 : s.size ≤ 1000) : okTok ⟨k, s, false, []⟩ := ⟨h2, h0, h1, by show (0 : Nat) ≤ 3; omega⟩
theorem list_hid {L : List (Elem Tok)} (h : ∀ x ∈ L, okTok x.d) : ∀ k, (hk : k < (L.map (fun x : Elem Tok => x.d)).length) → (L.map (fun x : Elem Tok => x.d))[k].hidden.length ≤ 2000000 := fun k hk => by
  obtain ⟨x, hx, e⟩ := List.mem_map.1 (List.getElem_mem hk)
  have := (h x hx).2.2.2
  rw [← e]; omega


end Go.Proofs.Ytbkmapaieillmaa

/- What the made texts of structs lean on. -/
namespace Go.Proofs.Ytbkmapaieillmaa
open Go.RowKit

/-- A struct that is made: its cells. -/
def MadeC {α : Type} (S : Shape α) (d : α) (w : World) (e : Ending) (w' : World) : Prop :=
  ∃ cs fp, e = .returned (.agg cs.toArray) ∧ S.R w' cs d fp ∧ Own w' w.heap.size fp ∧ Below w.heap.size w w'
/-- Marks in what a struct by value leads to. -/
def MarkedC {α : Type} (S : Shape α) (cs : List Value) (d : α) (fp : List Nat) (lo : Nat) (r : Int) (w : World) (e : Ending) (w' : World) : Prop :=
  e = .returned (.int .i64 r) ∧ S.R w' cs d fp ∧ Own w' lo fp ∧ Kept fp w w'
theorem alloc3_blk0 (w : World) (c0 c1 c2 : Array Value) (t0 t1 t2 : TypeId) :
    (((w.alloc (.cells c0 t0)).alloc (.cells c1 t1)).alloc (.cells c2 t2)).heap[w.heap.size]? = some (.cells c0 t0 (0, 0)) := by
  show (((w.heap.push _).push _).push _)[_]? = _
  rw [Array.getElem?_push, if_neg (by simp; omega), Array.getElem?_push, if_neg (by simp), Array.getElem?_push, if_pos rfl]
theorem size_setCell (w : World) (p : Addr) (v : Value) : (w.setCell p v).heap.size = w.heap.size := by simp [World.setCell]

end Go.Proofs.Ytbkmapaieillmaa

/- Tokens as arguments of a law: their size, their copy. -/
namespace Go.Proofs.Ytbkmapaieillmaa
open Go.RowKit

def wtToken (x : Tok) : Nat := x.text.size + wtStringS x.hidden

set_option maxHeartbeats 1000000 in
theorem szToken (cs : List Value) (x : Tok) (fp : List Nat) (w : World) (B : Int) (h0 : 0 ≤ B) (h1 : B ≤ 1048576) (H : sTok.R w cs x fp) :
    Calls Try.prog 18 #[.agg cs.toArray, .int .i64 B] w fun e w' => ∃ r : Int, e = .returned (.int .i64 r) ∧ SzR B r (wtToken x) ∧ Below w.heap.size w w' := by
  obtain ⟨h, rfl, _, hok, K⟩ := H
  unfold okStr maxLen at hok
  have b0 := alloc_below' w (.cells #[.int .i64 x.kind, .string x.text, .bool x.spaced, h] 39)
  by_cases ht : B < x.text.size
  · have HN : Hid (SzR B (-1) (wtToken x)) := SzR.no (by unfold wtToken; omega)
    go_enter Try.func18, Try.ntmps18
    go_wp2
    go_ret
    exact ⟨-1, rfl, HN.out, b0⟩
  · have HC : Hid (∀ W, Below w.heap.size w W → Calls Try.prog 48 #[h, .int .i64 (B - x.text.size)] W fun e w' => ∃ r : Int, e = .returned (.int .i64 r) ∧ SzR (B - x.text.size) r (wtStringS x.hidden) ∧ W = w') := fun W hb => szStringS h x.hidden fp W (B - x.text.size) (by omega) (by omega) ((sSlice sStr).below K hb)
    go_enter Try.func18, Try.ntmps18
    go_wp2_with fail
    refine (HC.out _ b0).mono ?_
    rintro e w1 ⟨r, rfl, hr, rfl⟩
    by_cases hn : r < 0
    · have HN : Hid (SzR B (-1) (wtToken x)) := by
        refine SzR.no ?_
        unfold SzR at hr; unfold wtToken; split at hr <;> omega
      go_wp2
      go_ret
      exact ⟨-1, rfl, HN.out, b0⟩
    · have hg := hr.good hn
      have hl := hr.le (by omega)
      have HN : Hid (SzR B r (wtToken x)) := SzR.yes (by unfold wtToken; omega) (by unfold wtToken; omega)
      clear hg hr
      go_wp2
      go_ret
      exact ⟨r, rfl, HN.out, b0⟩

set_option maxHeartbeats 2000000 in
theorem toToken (cs : List Value) (x : Tok) (fp : List Nat) (w : World) (hW : wtToken x ≤ 1048576) (H : sTok.R w cs x fp) :
    Calls Try.prog 19 #[.agg cs.toArray] w (MadeC sTok x w) := by
  obtain ⟨h, rfl, hk, hok, K⟩ := H
  have hW' : wtStringS x.hidden ≤ 1048576 := by unfold wtToken at hW; omega
  have HC : Hid (∀ W, Below w.heap.size w W → Calls Try.prog 49 #[h] W (Made (sSlice sStr) x.hidden W)) := fun W hb => toStringS h x.hidden fp W hW' ((sSlice sStr).below K hb)
  go_enter Try.func19, Try.ntmps19
  have b3 := below3 w #[.int .i64 x.kind, .string x.text, .bool x.spaced, h] #[.int .i64 0, .string ⟨#[]⟩, .bool false, .slice none 0 0] #[.int .i64 x.kind, .string x.text, .bool x.spaced, .slice none 0 0] 39 25 25
  obtain ⟨g1, g2, g3⟩ := alloc3_blk w #[.int .i64 x.kind, .string x.text, .bool x.spaced, h] #[.int .i64 0, .string ⟨#[]⟩, .bool false, .slice none 0 0] #[.int .i64 x.kind, .string x.text, .bool x.spaced, .slice none 0 0] 39 25 25
  have HG := Lib.hid (And.intro g1 (And.intro g2 g3))
  clear g1 g2 g3
  go_wp2_with fail
  refine (HC.out _ b3).mono ?_
  rintro e w1 ⟨h1, fp1, rfl, R1, O1, hb1⟩
  have HG1 : Hid (w1.heap[w.heap.size + 1]? = some (.cells #[.int .i64 0, .string ⟨#[]⟩, .bool false, .slice none 0 0] 25 (0, 0)) ∧ w1.heap[w.heap.size + 1 + 1]? = some (.cells #[.int .i64 x.kind, .string x.text, .bool x.spaced, .slice none 0 0] 25 (0, 0))) :=
    ⟨(hb1.block _ (by rw [HG.out.2.2]; omega)).trans HG.out.1, (hb1.block _ (by rw [HG.out.2.2]; omega)).trans HG.out.2.1⟩
  have hb := b3.trans (hb1.mono b3.size)
  have hlo : ∀ b ∈ fp1, w.heap.size + 3 ≤ b := fun b hb => by have := (O1.2 b hb).1; rw [HG.out.2.2] at this; omega
  rw [HG.out.2.2] at O1
  clear HG hb1 b3 HC
  obtain ⟨a1, cap1, rfl, hq⟩ := open_rows R1
  clear hq
  have c10 : w1.cell? ⟨w.heap.size + 1, 0, none⟩ = some (.int .i64 0) := cell_of_row w1 (w.heap.size + 1) 0 _ _ _ HG1.out.1
  have c11 : w1.cell? ⟨w.heap.size + 1, 1, none⟩ = some (.string ⟨#[]⟩) := cell_of_row w1 (w.heap.size + 1) 1 _ _ _ HG1.out.1
  have c12 : w1.cell? ⟨w.heap.size + 1, 2, none⟩ = some (.bool false) := cell_of_row w1 (w.heap.size + 1) 2 _ _ _ HG1.out.1
  have c13 : w1.cell? ⟨w.heap.size + 1, 3, none⟩ = some (.slice none 0 0) := cell_of_row w1 (w.heap.size + 1) 3 _ _ _ HG1.out.1
  have c20 : w1.cell? ⟨w.heap.size + 1 + 1, 0, none⟩ = some (.int .i64 x.kind) := cell_of_row w1 (w.heap.size + 1 + 1) 0 _ _ _ HG1.out.2
  have c21 : w1.cell? ⟨w.heap.size + 1 + 1, 1, none⟩ = some (.string x.text) := cell_of_row w1 (w.heap.size + 1 + 1) 1 _ _ _ HG1.out.2
  have c22 : w1.cell? ⟨w.heap.size + 1 + 1, 2, none⟩ = some (.bool x.spaced) := cell_of_row w1 (w.heap.size + 1 + 1) 2 _ _ _ HG1.out.2
  have c23 : w1.cell? ⟨w.heap.size + 1 + 1, 3, none⟩ = some (.slice none 0 0) := cell_of_row w1 (w.heap.size + 1 + 1) 3 _ _ _ HG1.out.2
  have f10 : w1.frozen? ⟨w.heap.size + 1, 0, none⟩ = false := frozen_of_row w1 (w.heap.size + 1) 0 _ _ HG1.out.1
  have f11 : w1.frozen? ⟨w.heap.size + 1, 1, none⟩ = false := frozen_of_row w1 (w.heap.size + 1) 1 _ _ HG1.out.1
  have f12 : w1.frozen? ⟨w.heap.size + 1, 2, none⟩ = false := frozen_of_row w1 (w.heap.size + 1) 2 _ _ HG1.out.1
  have f13 : w1.frozen? ⟨w.heap.size + 1, 3, none⟩ = false := frozen_of_row w1 (w.heap.size + 1) 3 _ _ HG1.out.1
  have f23 : w1.frozen? ⟨w.heap.size + 1 + 1, 3, none⟩ = false := frozen_of_row w1 (w.heap.size + 1 + 1) 3 _ _ HG1.out.2
  have hn1 : w.heap.size + 1 ∉ fp1 := fun hx => by have := hlo _ hx; omega
  have hn2 : w.heap.size + 1 + 1 ∉ fp1 := fun hx => by have := hlo _ hx; omega
  have HR := Lib.hid ((sSlice sStr).setB ((sSlice sStr).setB ((sSlice sStr).setB ((sSlice sStr).setB ((sSlice sStr).setB R1 hn2 3 (.slice a1 x.hidden.length cap1)) hn1 0 (.int .i64 x.kind)) hn1 1 (.string x.text)) hn1 2 (.bool x.spaced)) hn1 3 (.slice a1 x.hidden.length cap1))
  have HO := Lib.hid ((((((O1.lower (by omega : w.heap.size ≤ w.heap.size + 1 + 1 + 1)).setCell ⟨w.heap.size + 1 + 1, 3, none⟩ (.slice a1 x.hidden.length cap1)).setCell ⟨w.heap.size + 1, 0, none⟩ (.int .i64 x.kind)).setCell ⟨w.heap.size + 1, 1, none⟩ (.string x.text)).setCell ⟨w.heap.size + 1, 2, none⟩ (.bool x.spaced)).setCell ⟨w.heap.size + 1, 3, none⟩ (.slice a1 x.hidden.length cap1))
  have HB := Lib.hid (((((hb.setCell (p := ⟨w.heap.size + 1 + 1, 3, none⟩) (by simp; omega) (.slice a1 x.hidden.length cap1)).setCell (p := ⟨w.heap.size + 1, 0, none⟩) (by simp) (.int .i64 x.kind)).setCell (p := ⟨w.heap.size + 1, 1, none⟩) (by simp) (.string x.text)).setCell (p := ⟨w.heap.size + 1, 2, none⟩) (by simp) (.bool x.spaced)).setCell (p := ⟨w.heap.size + 1, 3, none⟩) (by simp) (.slice a1 x.hidden.length cap1))
  have HS := Lib.hid (blk_set (blk_set (blk_set (blk_set (blk_other HG1.out.1 (by omega : w.heap.size + 1 ≠ w.heap.size + 1 + 1) 3 (.slice a1 x.hidden.length cap1)) 0 (.int .i64 x.kind)) 1 (.string x.text)) 2 (.bool x.spaced)) 3 (.slice a1 x.hidden.length cap1))
  clear HG1
  go_wp2
  refine bodyPost_ret (results_cell_row rfl _ _ (w.heap.size + 1) _ _ _ _ rfl HS.out Try.underlying25 rfl (by kernel_rfl)) rfl ?_
  exact ⟨[.int .i64 x.kind, .string x.text, .bool x.spaced, .slice a1 x.hidden.length cap1], fp1, rfl, ⟨_, rfl, hk, hok, HR.out⟩, HO.out, HB.out⟩

section
variable {H : Type} {enc : TypeId × Value → H} {w : World} {base : Nat} {spare : Nat → Bool} {held : Bool}
theorem opens_Token : Opens enc Try.prog w base spare held 39 sTok :=
  opens_tok Try.underlying39 (by kernel_rfl) (by kernel_rfl) (opens_int Try.underlying3) (opens_str Try.underlying9) (opens_bool Try.underlying4) (opens_slice Try.underlying23 (by kernel_rfl) (by decide) (opens_str Try.underlying9))
end
abbrev zero_Token : Value := .agg #[.int .i64 0, .string ByteArray.empty, .bool false, .slice none 0 0]

end Go.Proofs.Ytbkmapaieillmaa

/- Slices of tokens as arguments of a law: their size, their copy. -/
namespace Go.Proofs.Ytbkmapaieillmaa
open Go.RowKit

def wtTokenS (l : List Tok) : Nat := l.length + (l.map wtToken).sum

set_option maxHeartbeats 2000000 in
set_option maxRecDepth 100000 in
theorem szTokenS (v : Value) (l : List Tok) (fp : List Nat) (w : World) (B : Int) (h0 : 0 ≤ B) (h1 : B ≤ 1048576) (H : (sSlice sTok).R w [v] l fp) :
    Calls Try.prog 23 #[v, .int .i64 B] w fun e w' => ∃ r : Int, e = .returned (.int .i64 r) ∧ SzR B r (wtTokenS l) ∧ Below w.heap.size w w' := by
  obtain ⟨a, cap, rfl, hc, hm, hrow⟩ := open_rows H
  unfold maxLen at hm
  clear H
  by_cases hl : B < l.length
  · have HN : Hid (SzR B (-1) (wtTokenS l)) := SzR.no (by unfold wtTokenS; omega)
    go_enter Try.func23, Try.ntmps23
    go_wp2
    go_ret
    exact ⟨-1, rfl, HN.out, Below.refl _ _⟩
  · go_enter Try.func23, Try.ntmps23
    go_wp2
    go_loopw [1, 5] (fun t i wr => ∃ (k : Nat) (r : Int), k ≤ l.length ∧ i = .int .i64 k ∧ t = .int .i64 r ∧ 0 ≤ r ∧ r ≤ B ∧ Hid (r = B - l.length - (((l.take k).map wtToken).sum : Nat)) ∧ Below w.heap.size w wr) (fun _ i _ => l.length - (intOf i).toNat)
    case atStart => exact ⟨0, _, by omega, rfl, rfl, by omega, by omega, by show _ = _; simp, Below.refl _ _⟩
    case round =>
      obtain ⟨k, r, hk, rfl, rfl, hr0, hr1, HA, hb⟩ := hrel
      by_cases hlt : k < l.length
      · obtain ⟨b1, off1, fps1, rfl, hb1, -, he1⟩ := hrow (by omega)
        obtain ⟨es1, hE1, hR1⟩ := he1 k hlt
        clear hrow he1
        have hR2 := sTok.below hR1 hb
        obtain ⟨h1', rfl, _, _, _⟩ := hR1
        have HC := Lib.hid (szToken _ _ _ wr r hr0 (by omega) hR2)
        clear hR2
        replace hE1 := hE1.frame (hb.block b1 hb1)
        have c10 : wr.cell? ⟨b1, off1 + k * 4, none⟩ = some _ := elem_cell0 hE1 (by decide) rfl
        have c11 : wr.cell? ⟨b1, off1 + k * 4 + 1, none⟩ = some _ := elem_cell (j := 1) hE1 (by decide) rfl
        have c12 : wr.cell? ⟨b1, off1 + k * 4 + 2, none⟩ = some _ := elem_cell (j := 2) hE1 (by decide) rfl
        have c13 : wr.cell? ⟨b1, off1 + k * 4 + 3, none⟩ = some _ := elem_cell (j := 3) hE1 (by decide) rfl
        clear hE1
        have HT := Lib.hid (wsum_succ wtToken l k hlt)
        have HT2 := Lib.hid (wsum_le wtToken l (k + 1))
        go_wp2_with fail
        refine (HC.out).mono ?_
        rintro e w1 ⟨r', rfl, hr', hb2⟩
        clear c10 c11 c12 c13
        by_cases hn : r' < 0
        · have HN : Hid (SzR B (-1) (wtTokenS l)) := SzR.no (by
            have hx : r < wtToken l[k] := by unfold SzR at hr'; split at hr' <;> omega
            have := HT2.out; have := HT.out; have := HA.out; unfold wtTokenS; omega)
          go_wp2
          go_ret
          exact ⟨-1, rfl, HN.out, hb.trans (hb2.mono hb.size)⟩
        · have hg := hr'.good hn
          have hle := hr'.le hr0
          have HA' : Hid (r' = B - l.length - (((l.take (k + 1)).map wtToken).sum : Nat)) := by
            show _ = _
            have := HT.out; have := HA.out
            omega
          clear hr' hg
          go_wp2
          go_roundw
          case rel => exact ⟨k + 1, _, by omega, by go_num, rfl, by omega, by omega, HA'.out, hb.trans (hb2.mono hb.size)⟩
          case measure => simp [intOf]; omega
      · have HN : Hid (SzR B r (wtTokenS l)) := by
          have h := HA.out
          rw [List.take_of_length_le (by omega)] at h
          exact SzR.yes (by unfold wtTokenS; omega) (by unfold wtTokenS; omega)
        go_wp2
        go_ret
        exact ⟨r, rfl, HN.out, hb⟩

set_option maxHeartbeats 4000000 in
set_option maxRecDepth 100000 in
theorem toTokenS (v : Value) (l : List Tok) (fp : List Nat) (w : World) (hW : wtTokenS l ≤ 1048576) (H : (sSlice sTok).R w [v] l fp) :
    Calls Try.prog 24 #[v] w (Made (sSlice sTok) l w) := by
  have hB : l.length ≤ 1048576 := by unfold wtTokenS at hW; omega
  have HW : Hid (∀ k, (hk : k < l.length) → wtToken l[k] ≤ 1048576) := fun k hk => by have := wsum_at wtToken l k hk; unfold wtTokenS at hW; omega
  obtain ⟨a, cap, rfl, hc, hm, hrow⟩ := open_rows H
  unfold maxLen at hm
  clear H hW
  go_enter Try.func24, Try.ntmps24
  go_wp2_with (at_make; refine wp_make_full ti_tok _ rfl _ _ rfl w.heap.size l.length rfl rfl (by omega) (by unfold maxLen; omega) (Nat.le_refl _) ?_; intro w1 hown hgrow)
  have hbel := (Below.refl w.heap.size w).grown hgrow (Nat.le_refl _) (by simp)
  have HF0 := Filling.start (S := sTok) (l := l) hown
  clear hgrow hown
  go_loopw [4] (fun i wr => ∃ (k : Nat) (L : List (Elem Tok)) (R : List Value), k ≤ l.length ∧ i = .int .i64 k ∧ Hid (Filling sTok w.heap.size 25 l k wr L R) ∧ Below w.heap.size w wr) (fun i _ => l.length - (intOf i).toNat)
  case atStart => exact ⟨0, _, _, by omega, rfl, HF0, hbel⟩
  case round =>
    obtain ⟨k, L, R, hk, rfl, HF, hb⟩ := hrel
    clear HF0 hbel
    by_cases hlt : k < l.length
    · obtain ⟨b1, off1, fps1, rfl, hb1, -, he1⟩ := hrow (by omega)
      obtain ⟨es1, hE1, hR1⟩ := he1 k hlt
      clear hrow he1
      have hR2 := sTok.below hR1 hb
      obtain ⟨h1', rfl, _, _, _⟩ := hR1
      have HC := Lib.hid (toToken _ _ _ wr (HW.out k hlt) hR2)
      clear hR2
      replace hE1 := hE1.frame (hb.block b1 hb1)
      have c10 : wr.cell? ⟨b1, off1 + k * 4, none⟩ = some _ := elem_cell0 hE1 (by decide) rfl
      have c11 : wr.cell? ⟨b1, off1 + k * 4 + 1, none⟩ = some _ := elem_cell (j := 1) hE1 (by decide) rfl
      have c12 : wr.cell? ⟨b1, off1 + k * 4 + 2, none⟩ = some _ := elem_cell (j := 2) hE1 (by decide) rfl
      have c13 : wr.cell? ⟨b1, off1 + k * 4 + 3, none⟩ = some _ := elem_cell (j := 3) hE1 (by decide) rfl
      clear hE1
      go_wp2_with fail
      refine (HC.out).mono ?_
      rintro e w2 ⟨cs, fp2, rfl, hR2, hO2, hb2⟩
      have HN := Lib.hid (HF.out.next (cs := cs) hlt hb2 (by obtain ⟨_, rfl, _⟩ := hR2; rfl) hR2 hO2)
      obtain ⟨h2, rfl, _, _, K2⟩ := hR2
      obtain ⟨ah, caph, rfl, -⟩ := open_rows K2
      have HF2 := Lib.hid (HF.out.below hb2)
      obtain ⟨u0, d0⟩ : ∃ u, w2.cell? ⟨w.heap.size, k * 4, none⟩ = some u := HF2.out.cell hlt (j := 0) (by decide)
      obtain ⟨u1, d1⟩ : ∃ u, w2.cell? ⟨w.heap.size, k * 4 + 1, none⟩ = some u := HF2.out.cell hlt (j := 1) (by decide)
      obtain ⟨u2, d2⟩ : ∃ u, w2.cell? ⟨w.heap.size, k * 4 + 2, none⟩ = some u := HF2.out.cell hlt (j := 2) (by decide)
      obtain ⟨u3, d3⟩ : ∃ u, w2.cell? ⟨w.heap.size, k * 4 + 3, none⟩ = some u := HF2.out.cell hlt (j := 3) (by decide)
      have f0 := HF2.out.frozen (k * 4)
      have f1 := HF2.out.frozen (k * 4 + 1)
      have f2 := HF2.out.frozen (k * 4 + 2)
      have f3 := HF2.out.frozen (k * 4 + 3)
      clear c10 c11 c12 c13 K2 hO2
      go_wp2
      obtain ⟨R', HN⟩ := HN.out
      go_roundw
      case rel => exact ⟨k + 1, _, R', by omega, by go_num, HN, putAll_below (Nat.le_refl _) [_, _, _, _] _ (k * 4) (hb.trans (hb2.mono hb.size))⟩
      case measure => simp [intOf]; omega
    · obtain ⟨fp', h1, h2⟩ := HF.out.done (by omega)
      go_wp2
      go_ret
      exact ⟨_, fp', rfl, h1, h2, hb⟩

end Go.Proofs.Ytbkmapaieillmaa

/- TokenValid of the program. -/
namespace Go.Proofs.Ytbkmapaieillmaa
open Go.RowKit

/-- One token, opened: the cells of its row. -/
theorem open_one {w : World} {v : Value} {t : Tok} {fp : List Nat} (H : (sSlice sTok).R w [v] [t] fp) :
    ∃ b off cap h, v = .slice (some ⟨b, off, none⟩) 1 cap ∧ cap ≤ maxLen ∧ 1 ≤ cap ∧ b < w.heap.size ∧ w.cell? ⟨b, off, none⟩ = some (.int .i64 t.kind) ∧ w.cell? ⟨b, off + 1, none⟩ = some (.string t.text) ∧ w.cell? ⟨b, off + 2, none⟩ = some (.bool t.spaced) ∧ w.cell? ⟨b, off + 3, none⟩ = some h ∧ okInt t.kind ∧ okStr t.text := by
  obtain ⟨a, cap, rfl, hc, hm, h⟩ := open_rows H
  obtain ⟨b, off, fps, rfl, hb, _, he⟩ := h (by simp)
  obtain ⟨es, ⟨h1, h2⟩, hh, h3, h4, h5, h6⟩ := he 0 (by simp)
  subst h3
  have g := fun j (hj : j < 4) => h2 j hj
  refine ⟨b, off, cap, hh, rfl, hm, by simpa using hc, hb, ?_, ?_, ?_, ?_, h4, h5⟩
  · simpa using g 0 (by omega)
  · simpa [Nat.add_assoc] using g 1 (by omega)
  · simpa [Nat.add_assoc] using g 2 (by omega)
  · simpa [Nat.add_assoc] using g 3 (by omega)

/-- What a question leaves: an answer; nothing that was there has turned. -/
def Says (b : Bool) (w : World) (e : Ending) (w' : World) : Prop := e = .returned (.bool b) ∧ Below w.heap.size w w'

set_option maxHeartbeats 1000000 in
theorem impl_isOneToken (x : ByteArray) (k : Int) (w : World) (hs : x.size ≤ maxLen) :
    Calls Try.prog 39 #[.string x, .int .i64 k] w (Says (oneTok x k) w) := by
  have HT : Hid (∀ W, Calls Try.prog 31 #[.string x] W (TokMade (tokRes x) W)) := fun W => impl_TokensOf x W hs
  go_enter Try.func39, Try.ntmps39
  rcases one_ways x k with ⟨hr, HF⟩ | ⟨l, hr, hl, HF⟩ | ⟨t, hr, hk, HF⟩ | ⟨t, hr, hk, hx, HF⟩ | ⟨t, hr, hk, hx, _, HF⟩
  · rw [hr] at HT
    clear hr
    go_wp2_with (go_at_call 31; refine (HT.out _).mono ?_; rintro e w' ⟨v, fp, rfl, hR, hO, hB⟩)
    go_ret
    exact ⟨ret_bool HF.out.symm, hB⟩
  · rw [hr] at HT
    have hl' : ((l.length : Int) != 1) = true := by simp; omega
    clear hr hl
    go_wp2_with (go_at_call 31; refine (HT.out _).mono ?_; rintro e w' ⟨v, fp, rfl, hR, hO, hB⟩; obtain ⟨a, cap, rfl, _, _, _⟩ := open_rows hR)
    go_ret
    exact ⟨ret_bool HF.out.symm, hB⟩
  · rw [hr] at HT
    have hk' : (t.kind == k) = false := by simp [hk]
    clear hr hk
    go_wp2_with (go_at_call 31; refine (HT.out _).mono ?_; rintro e w' ⟨v, fp, rfl, hR, hO, hB⟩; obtain ⟨b, off, cap, h, rfl, hc1, hc2, hb, h0, h1, h2, h3, _, _⟩ := open_one hR)
    go_ret
    exact ⟨ret_bool HF.out.symm, hB⟩
  · rw [hr] at HT
    have hk' : (t.kind == k) = true := by simp [hk]
    have hx' : (t.text.toList == x.toList) = false := bytes_bne hx
    clear hr hk hx
    go_wp2_with (go_at_call 31; refine (HT.out _).mono ?_; rintro e w' ⟨v, fp, rfl, hR, hO, hB⟩; obtain ⟨b, off, cap, h, rfl, hc1, hc2, hb, h0, h1, h2, h3, _, _⟩ := open_one hR)
    go_ret
    exact ⟨ret_bool HF.out.symm, hB⟩
  · rw [hr] at HT
    have hk' : (t.kind == k) = true := by simp [hk]
    have hx' : (t.text.toList == x.toList) = true := bytes_beq hx
    clear hr hk hx
    go_wp2_with (go_at_call 31; refine (HT.out _).mono ?_; rintro e w' ⟨v, fp, rfl, hR, hO, hB⟩; obtain ⟨b, off, cap, h, rfl, hc1, hc2, hb, h0, h1, h2, h3, _, _⟩ := open_one hR)
    go_ret
    exact ⟨ret_bool HF.out.symm, hB⟩

set_option maxHeartbeats 2000000 in
theorem impl_hiddenValid (v : Value) (l : List ByteArray) (fp : List Nat) (w : World) (H : (sSlice sStr).R w [v] l fp) :
    Calls Try.prog 40 #[v] w (Says (hidOk l) w) := by
  obtain ⟨a, cap, rfl, hc, hm, hcell, hsz⟩ := open_strs H
  unfold maxLen at hm
  by_cases hl : 60 < l.length
  · have HF := Lib.hid (hidOk_long hl)
    go_enter Try.func40, Try.ntmps40
    go_wp2
    go_ret
    exact ⟨ret_bool HF.out.symm, Below.refl _ _⟩
  · go_enter Try.func40, Try.ntmps40
    go_wp2
    go_loopw [10] (fun i wr => ∃ k : Nat, k ≤ l.length ∧ i = .int .i64 k ∧ HidUpto l k ∧ Below w.heap.size w wr) (fun i _ => l.length - (intOf i).toNat)
    case atStart => exact ⟨0, by omega, rfl, HidUpto.zero _, Below.refl _ _⟩
    case round =>
      obtain ⟨k, hk, rfl, hall, hbel⟩ := hrel
      by_cases hlt : k < l.length
      · obtain ⟨b, off, rfl, hb, _, hc2⟩ := hcell (by omega)
        have hck := (hbel.cell (p := ⟨b, off + k, none⟩) hb).trans (hc2 k hlt)
        have hsk := hsz k hlt
        have hbr : b < wr.heap.size := Nat.lt_of_lt_of_le hb hbel.size
        have HC : Hid (∀ W, Calls Try.prog 39 #[.string l[k], .int .i64 1] W (Says (oneTok l[k] 1) W)) := fun W => impl_isOneToken l[k] 1 W hsk
        rcases hid_ways hlt with ⟨h1, HF⟩ | ⟨h1, h0, HN⟩ | ⟨hp, h1, h2, HF⟩ | ⟨hp, h1, h2, HN⟩
        · rw [h1] at HC
          have HG := Lib.hid (hidOk_no hlt HF.out)
          clear h1 hc2 hall
          go_wp2_with (go_at_call 39; refine (HC.out _).mono ?_; rintro e w1 ⟨rfl, hb1⟩)
          go_ret
          exact ⟨ret_bool HG.out.symm, hbel.trans (hb1.mono hbel.size)⟩
        · rw [h1] at HC
          have HG := Lib.hid (hall.succ HN.out)
          have h0' : ¬ (0 : Int) < (k : Int) := by omega
          clear h1 h0 hc2 hall
          go_wp2_with (go_at_call 39; refine (HC.out _).mono ?_; rintro e w1 ⟨rfl, hb1⟩)
          go_roundw
          case rel => exact ⟨k + 1, by omega, by go_num, HG.out, hbel.trans (hb1.mono hbel.size)⟩
          case measure => simp [intOf]; omega
        · rw [h1] at HC
          have HG := Lib.hid (hidOk_no hlt HF.out)
          have hcp := (hbel.cell (p := ⟨b, off + (k - 1), none⟩) hb).trans (hc2 (k - 1) (by omega))
          have h6 : ((k : Int) - 1).toNat = k - 1 := by omega
          have h0' : (0 : Int) < (k : Int) := by omega
          have h2' : Op.bytesLess (l[k - 1]'(by omega)).toList l[k].toList = false := h2
          clear h1 h2 hc2 hall
          go_wp2_with (go_at_call 39; refine (HC.out _).mono ?_; rintro e w1 ⟨rfl, hb1⟩; have hcp1 := (hb1.cell (p := ⟨b, off + (k - 1), none⟩) hbr).trans hcp)
          go_ret
          exact ⟨ret_bool HG.out.symm, hbel.trans (hb1.mono hbel.size)⟩
        · rw [h1] at HC
          have HG := Lib.hid (hall.succ HN.out)
          have hcp := (hbel.cell (p := ⟨b, off + (k - 1), none⟩) hb).trans (hc2 (k - 1) (by omega))
          have h6 : ((k : Int) - 1).toNat = k - 1 := by omega
          have h0' : (0 : Int) < (k : Int) := by omega
          have h2' : Op.bytesLess (l[k - 1]'(by omega)).toList l[k].toList = true := h2
          clear h1 h2 hc2 hall
          go_wp2_with (go_at_call 39; refine (HC.out _).mono ?_; rintro e w1 ⟨rfl, hb1⟩; have hcp1 := (hb1.cell (p := ⟨b, off + (k - 1), none⟩) hbr).trans hcp)
          go_roundw
          case rel => exact ⟨k + 1, by omega, by go_num, HG.out, hbel.trans (hb1.mono hbel.size)⟩
          case measure => simp [intOf]; omega
      · have HG := Lib.hid (hidOk_yes hall (by omega) (by omega))
        clear hall
        go_wp2
        go_ret
        exact ⟨ret_bool HG.out.symm, hbel⟩

/-- A token as a value. -/
def tokV (t : Tok) (h : Value) : Value := .agg #[.int .i64 t.kind, .string t.text, .bool t.spaced, h]


set_option maxHeartbeats 1000000 in
theorem impl_TokenValid_a (t : Tok) (h : Value) (fp : List Nat) (w : World) (ht : okStr t.text) (H : (sSlice sStr).R w [h] t.hidden fp) :
    Calls Try.prog 12 #[.agg #[.int .i64 t.kind, .string t.text, .bool t.spaced, h]] w (Says (tokOk t) w) := by
  have HF : Hid (tokOk t = (oneTok t.text t.kind && hidOk t.hidden)) := rfl
  have HC : Hid (∀ W, Calls Try.prog 39 #[.string t.text, .int .i64 t.kind] W (Says (oneTok t.text t.kind) W)) := fun W => impl_isOneToken t.text t.kind W ht
  have HD : Hid (∀ W, Below w.heap.size w W → Calls Try.prog 40 #[h] W (Says (hidOk t.hidden) W)) := fun W hb => impl_hiddenValid h t.hidden fp W ((sSlice sStr).below H hb)
  go_enter Try.func12, Try.ntmps12
  have hb0 := alloc_below' w (.cells #[.int .i64 t.kind, .string t.text, .bool t.spaced, h] 25)
  cases h1 : oneTok t.text t.kind
  · rw [h1] at HC HF
    clear h1
    go_wp2_with (go_at_call 39; refine (HC.out _).mono ?_; rintro e w1 ⟨rfl, hb1⟩)
    go_ret
    exact ⟨ret_bool (by rw [HF.out]; rfl), hb0.trans (hb1.mono hb0.size)⟩
  · rw [h1] at HC HF
    clear h1
    go_wp2_with (first
      | (go_at_call 39; refine (HC.out _).mono ?_; rintro e w1 ⟨rfl, hb1⟩; have hcd := (hb1.cell (p := ⟨w.heap.size, 3, none⟩) (by simp)))
      | (go_at_call 40; refine (HD.out _ (hb0.trans (hb1.mono hb0.size))).mono ?_; rintro e w2 ⟨rfl, hb2⟩))
    go_ret
    exact ⟨ret_bool (by rw [HF.out]; rfl), hb0.trans ((hb1.trans (hb2.mono hb1.size)).mono hb0.size)⟩

theorem impl_TokenValid (cs : List Value) (x : Tok) (fp : List Nat) (w : World) (H : sTok.R w cs x fp) : Calls Try.prog 12 #[.agg cs.toArray] w (Says (tokOk x) w) := by
  obtain ⟨h, rfl, _, hok, K⟩ := H
  exact impl_TokenValid_a x h fp w hok K

end Go.Proofs.Ytbkmapaieillmaa
