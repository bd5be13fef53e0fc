/- Texts that the proof of U stands on, in one file. -/
import Derived.Test.YtlegeancmcmbaaaDoorZU5
import Derived.Test.YtlegeancmcmbaaaDoorZU6
import Derived.Test.YtlegeancmcmbaaaDoorZU3
import Derived.Deep.RegionHeld3
import Derived.Test.YtlegeancmcmbaaaDoorZU10
import Derived.Test.YtlegeancmcmbaaaDoorZU2
import Derived.Test.YtlegeancmcmbaaaDoorZU7
import Derived.Test.YtlegeancmcmbaaaDoorZU8
set_option linter.unusedVariables false
set_option linter.unusedSimpArgs false
/- An element put into a row: what the cells are. Over any program. -/
namespace Go.Proofs.YtlegeancmcmbaaaDoor
open Go.RowKit
end Go.Proofs.YtlegeancmcmbaaaDoor

/- Rows of the call's own whose elements lie anywhere but in the row's own block: appended, written, read. Over any program. -/
namespace Go.Proofs.YtlegeancmcmbaaaDoor
open Go.RowKit

theorem run_append_place {P : Program} (w : World) (base : Nat) (t ty e : TypeId) (i : TypeInfo) (z : Value) (size bytes : Nat) (ht : P.underlying t = some (.slice e)) (hi : P.info? e = some i) (hz : i.zero = some z)
  (hsize : i.size = size) (hby : i.bytes = bytes) (hzs : z.cells.size = size) (hsz : 0 < size)
  (v : Value) (n : Nat) (xs : List Value) (hown : w.ownsRow base e size v n xs)
  (a : Addr) (m c : Nat) (news : List Value) (hl : news.length = m * size) (hnews : ∀ j u, news[j]? = some u → w.cell? (a.add j) = some u) (h1 : ∀ u ∈ news, u.oneCell' = true)
  (h63 : n + m ≤ maxLen) (hbytes : (n + m) * bytes ≤ 140737488355328) (hbase : base ≤ w.heap.size) :
  ∃ v' w', (Builtin.append_ #[t, t] ty #[v, .slice (some a) m c]).run P w = .ok v' w' ∧ w'.ownsRow base e size v' (n + m) (xs ++ news) ∧ w.grownBy w' v.ownBlock ∧ (v'.ownBlock = v.ownBlock ∨ v'.ownBlock = some w.heap.size) := by
 obtain ⟨v', w', hr, h2, h3, h4⟩ := Go.run_append_own (P := P) w base t ty e i z size bytes ht hi hz hsize hby hzs hsz v n xs hown a m c news hl hnews h1 h63 hbytes hbase
 refine ⟨v', w', hr, h2, h3, ?_⟩
 have hsmall : n + m ≤ 9223372036854775807 := by simp only [maxLen] at h63; omega
 subst hsize
 subst hby
 rcases hown.2 with ⟨rfl, rfl⟩ | ⟨g, cap, cur, rfl, hbg, hg, hnc, hcm, hcs, htake⟩
 ·have hx : xs = [] := List.eq_nil_of_length_eq_zero (by simpa using hown.1)
  subst hx
  by_cases hm : m = 0
  ·exact .inl (by rw [h4.2 ⟨rfl, hm⟩])
  ·have hr2 := _root_.Go.run_append_nil (P := P) w t ty e i z ht hi hz a m c news hl hnews (by omega) (by omega) (by have hb := hbytes; simp only [Nat.zero_add] at hb; omega)
   rw [hr2] at hr
   obtain ⟨rfl, _⟩ := Result.ok.inj hr
   exact .inr rfl
 ·by_cases hroom : n + m ≤ cap
  ·have hfit : n * i.size + news.length ≤ cur.size := by rw [hl, hcs, ← Nat.add_mul]; exact Nat.mul_le_mul_right _ hroom
   have hr2 := Go.run_append_room (P := P) w t ty e i ht hi g n cap cur hg a m c news hl hnews h1 hroom hfit
   rw [hr2] at hr
   obtain ⟨rfl, _⟩ := Result.ok.inj hr
   exact .inl rfl
  ·have holds : ∀ j u, xs[j]? = some u → w.cell? ((⟨g, 0, none⟩ : Addr).add j) = some u := hown.cells (g := g) rfl
   have hr2 := _root_.Go.run_append_grow (P := P) w t ty e i z ht hi hz ⟨g, 0, none⟩ n cap xs hown.1 holds a m c news hl hnews (by omega) (by omega) (growslice_fits (by omega) hbytes)
   rw [hr2] at hr
   obtain ⟨rfl, _⟩ := Result.ok.inj hr
   exact .inr rfl

structure RowN {α : Type} (S : Shape α) (base : Nat) (e : TypeId) (v : Value) (L : List (Elem α)) (w : World) : Prop where
 row : w.ownsRow base e S.m v L.length (L.flatMap (·.cells))
 len : ∀ x ∈ L, x.cells.length = S.m
 el : ∀ x ∈ L, S.R w x.cells x.d x.fp
 ap : ∀ x ∈ L, ∀ b ∈ x.fp, v.ownBlock ≠ some b

section
variable {α : Type} {S : Shape α} {base : Nat} {e : TypeId} {v v' : Value} {L : List (Elem α)} {w w' : World}
theorem RowN.nil (S : Shape α) (base : Nat) (e : TypeId) (w : World) : RowN S base e (.slice none 0 0) [] w := ⟨World.ownsRow_nil _ _ _ _, by simp, by simp, by simp⟩
theorem RowN.lit0 (S : Shape α) (e : TypeId) (w : World) {base : Nat} (hb : base ≤ w.heap.size) : RowN S base e (.slice (some ⟨w.heap.size, 0, none⟩) 0 0) [] (w.alloc (.cells #[] e)) where
 row := World.ownsRow_lit (base := base) (e := e) (size := S.m) w #[] 0 hb (by unfold maxLen; omega) (by simp)
 len := by simp
 el := by simp
 ap := by simp
theorem RowN.same (h : RowN S base e v L w) (hv : ∀ g, v.ownBlock = some g → w'.heap[g]? = w.heap[g]?) (hb : ∀ x ∈ L, ∀ b ∈ x.fp, w'.heap[b]? = w.heap[b]?) : RowN S base e v L w' where
 row := ownsRow_same h.row hv
 len := h.len
 el := fun x hx => S.frame (fun b hb' => hb x hx b hb') (h.el x hx)
 ap := h.ap
theorem RowN.below (h : RowN S base e v L w) (hb : Below w.heap.size w w') : RowN S base e v L w' :=
 h.same (fun g hg => hb.block g (h.row.lt g hg).2) (fun x hx b hb' => hb.block b (S.lt (h.el x hx) b hb'))
theorem RowN.kept {K : List Nat} (h : RowN S base e v L w) (hk : Kept K w w') (hv : ∀ g, v.ownBlock = some g → g ∉ K) (hb : ∀ x ∈ L, ∀ b ∈ x.fp, b ∉ K) : RowN S base e v L w' :=
 h.same (fun g hg => hk.block g (h.row.lt g hg).2 (hv g hg)) (fun x hx b hb' => hk.block b (S.lt (h.el x hx) b hb') (hb x hx b hb'))
theorem RowN.val (h : RowN S base e v L w) : ∃ a cap, v = .slice a L.length cap ∧ L.length ≤ cap ∧ cap ≤ maxLen ∧ (0 < L.length → ∃ g, a = some ⟨g, 0, none⟩ ∧ base ≤ g ∧ g < w.heap.size) := by
 rcases h.row.2 with ⟨rfl, h0⟩ | ⟨g, cap, cur, rfl, hb, hg, hn, hc, _⟩
 ·exact ⟨none, 0, by rw [h0], by omega, by simp, fun h => by omega⟩
 ·exact ⟨_, cap, rfl, hn, hc, fun _ => ⟨g, rfl, hb, (Array.getElem?_eq_some_iff.1 hg).1⟩⟩
theorem RowN.mine (h : RowN S base e v L w) : ∀ b, v.ownBlock = some b → base ≤ b ∧ b < w.heap.size := fun b hb => h.row.lt b hb
theorem RowN.read (h : RowN S base e v L w) : ∃ fp, (sSlice S).R w [v] (L.map (·.d)) fp ∧ (∀ b ∈ fp, v.ownBlock = some b ∨ ∃ x ∈ L, b ∈ x.fp) ∧ (Own w base (L.flatMap (·.fp)) → Own w base fp) := by
 obtain ⟨fp, h1, h2, h3⟩ := slice_of_row h.row fun x hx => ⟨h.len x hx, h.el x hx⟩
 refine ⟨fp, h1, fun b hb => ?_, fun ho => h3 ho fun g hg hm => ?_⟩
 ·rcases h2 b hb with h | h
  ·exact .inl h
  ·obtain ⟨x, hx, hb'⟩ := List.mem_flatMap.1 h
   exact .inr ⟨x, hx, hb'⟩
 ·obtain ⟨x, hx, hb'⟩ := List.mem_flatMap.1 hm
  exact h.ap x hx g hb' hg
theorem RowN.len_eq {g n cap : Nat} (h : RowN S base e (.slice (some ⟨g, 0, none⟩) n cap) L w) : L.length = n := by
 rcases h.row.2 with ⟨h', _⟩ | ⟨g', cap', cur, h', _⟩
 ·cases h'
 ·simp only [Value.slice.injEq] at h'; exact h'.2.1.symm
theorem RowN.set {g n cap : Nat} (h : RowN S base e (.slice (some ⟨g, 0, none⟩) n cap) L w) {k : Nat} (hk : k < L.length) {j : Nat} (hj : j < S.m) (u : Value) (x' : Elem α) (hx : x'.cells = L[k].cells.set j u)
  (hR : S.R w x'.cells x'.d x'.fp) (hap : g ∉ x'.fp) : RowN S base e (.slice (some ⟨g, 0, none⟩) n cap) (L.set k x') (w.setCell ⟨g, k * S.m + j, none⟩ u) := by
 have hn : L.length = n := h.len_eq
 have hfar : ∀ b, b ≠ g → (w.setCell ⟨g, k * S.m + j, none⟩ u).heap[b]? = w.heap[b]? := fun b hb => Below.heap_setCell _ _ _ _ hb
 have hmem : ∀ x ∈ L.set k x', x = x' ∨ x ∈ L := fun x hx => by
  rcases List.mem_or_eq_of_mem_set hx with h | h
  ·exact .inr h
  ·exact .inl h
 have hne : ∀ x ∈ L.set k x', ∀ b ∈ x.fp, b ≠ g := fun x hx' b hb e => by
  subst e
  rcases hmem x hx' with rfl | hx'
  ·exact hap hb
  ·exact h.ap x hx' b hb rfl
 refine ⟨?_, fun x hx' => ?_, fun x hx' => S.frame (fun b hb => hfar b (hne x hx' b hb)) ?_, fun x hx' b hb hv => ?_⟩
 ·have hrow := h.row
  rw [hn] at hrow
  have := (hrow.stored (k * S.m + j) u).1
  rw [flatMap_set h.len hk hj u x' hx] at this
  rw [List.length_set, hn]
  exact this
 ·rcases hmem x hx' with rfl | hx'
  ·rw [hx, List.length_set]; exact h.len _ (List.getElem_mem hk)
  ·exact h.len x hx'
 ·rcases hmem x hx' with rfl | hx'
  ·exact hR
  ·exact h.el x hx'
 ·simp only [Value.ownBlock, Option.some.injEq] at hv
  exact hne x hx' b hb hv.symm
theorem RowN.put {g n cap : Nat} (h : RowN S base e (.slice (some ⟨g, 0, none⟩) n cap) L w) {k : Nat} (hk : k < L.length) (x' : Elem α) (hl : x'.cells.length = S.m) (hR : S.R w x'.cells x'.d x'.fp) (hap : g ∉ x'.fp) :
  RowN S base e (.slice (some ⟨g, 0, none⟩) n cap) (L.set k x') (putAll w g (k * S.m) x'.cells) := by
 have hn : L.length = n := h.len_eq
 have hK := putAll_kept (g := g) x'.cells w (k * S.m)
 have hmem : ∀ x ∈ L.set k x', x = x' ∨ x ∈ L := fun x hx => by
  rcases List.mem_or_eq_of_mem_set hx with h | h
  ·exact .inr h
  ·exact .inl h
 have hne : ∀ x ∈ L.set k x', ∀ b ∈ x.fp, b ≠ g := fun x hx' b hb e => by
  subst e
  rcases hmem x hx' with rfl | hx'
  ·exact hap hb
  ·exact h.ap x hx' b hb rfl
 have hel : ∀ x ∈ L.set k x', x.cells.length = S.m ∧ S.R w x.cells x.d x.fp := fun x hx' => by
  rcases hmem x hx' with rfl | hx'
  ·exact ⟨hl, hR⟩
  ·exact ⟨h.len x hx', h.el x hx'⟩
 refine ⟨?_, fun x hx' => (hel x hx').1, fun x hx' => S.frame (fun b hb => hK.block b (S.lt (hel x hx').2 b hb) (by simp; exact hne x hx' b hb)) (hel x hx').2, fun x hx' b hb hv => ?_⟩
 ·have hrow := h.row
  rw [hn] at hrow
  have r1 := putAll_row x'.cells w _ (k * S.m) hrow
  have hsplit : L.flatMap (·.cells) = (L.take k).flatMap (·.cells) ++ (L[k].cells ++ (L.drop (k + 1)).flatMap (·.cells)) := by
   have e0 : L = L.take k ++ (L[k] :: L.drop (k + 1)) := by rw [← List.drop_eq_getElem_cons hk, List.take_append_drop]
   conv => lhs; rw [e0]
   rw [List.flatMap_append, List.flatMap_cons]
  have hsplit2 : (L.set k x').flatMap (·.cells) = (L.take k).flatMap (·.cells) ++ (x'.cells ++ (L.drop (k + 1)).flatMap (·.cells)) := by
   rw [List.set_eq_take_append_cons_drop, if_pos hk, List.flatMap_append, List.flatMap_cons]
  have hA : ((L.take k).flatMap (·.cells)).length = k * S.m := by rw [flatMap_len (f := Elem.cells) (m := S.m) (fun y hy => h.len y (List.mem_of_mem_take hy)), List.length_take]; congr 1; omega
  have e1 := setFrom_app x'.cells ((L.take k).flatMap (·.cells)) L[k].cells ((L.drop (k + 1)).flatMap (·.cells)) (by rw [hl]; exact h.len _ (List.getElem_mem hk))
  rw [hA, ← hsplit, ← hsplit2] at e1
  rw [e1] at r1
  rw [List.length_set, hn]
  exact r1
 ·simp only [Value.ownBlock, Option.some.injEq] at hv
  exact hne x hx' b hb hv.symm
theorem RowN.appended (h : RowN S base e v L w) {X : List (Elem α)} (hrow : w'.ownsRow base e S.m v' (L ++ X).length ((L ++ X).flatMap (·.cells))) (hg : w.grownBy w' v.ownBlock) (hp : v'.ownBlock = v.ownBlock ∨ v'.ownBlock = some w.heap.size)
  (hX : ∀ x ∈ X, x.cells.length = S.m ∧ S.R w x.cells x.d x.fp ∧ ∀ b ∈ x.fp, v.ownBlock ≠ some b) : RowN S base e v' (L ++ X) w' := by
 have hall : ∀ x ∈ L ++ X, x.cells.length = S.m ∧ S.R w x.cells x.d x.fp ∧ ∀ b ∈ x.fp, v.ownBlock ≠ some b := fun x hx => by
  rcases List.mem_append.1 hx with hx | hx
  ·exact ⟨h.len x hx, h.el x hx, h.ap x hx⟩
  ·exact hX x hx
 refine ⟨hrow, fun x hx => (hall x hx).1, fun x hx => ?_, fun x hx b hb => ?_⟩
 ·exact S.frame (fun b hb => hg.block b (S.lt (hall x hx).2.1 b hb) fun hv => (hall x hx).2.2 b hb hv.symm) (hall x hx).2.1
 ·rcases hp with hp | hp
  ·rw [hp]; exact (hall x hx).2.2 b hb
  ·rw [hp]
   intro h2
   simp only [Option.some.injEq] at h2
   have := S.lt (hall x hx).2.1 b hb
   omega
end

theorem step_append_rowN {α : Type} {S : Shape α} {P : Program} {t e : TypeId} {z : Value} {bytes : Nat} (ti : TI P t e z S.m bytes) (hzs : z.cells.size = S.m) (h0 : 0 < S.m) (w : World) {L X : List (Elem α)} {o : Oper} {a : Act} {K : Act → World → Prop} {Q : Exit → Act → World → Prop}
  (s y : Operand) (ho : o.op = .call { callee := .builtin .append, args := #[s, y], argTypes := #[t, t] })
  (base : Nat) (v : Value) (hs : a.eval s = v) (hown : RowN S base e v L w) (ad : Addr) (m c : Nat) (hy : a.eval y = .slice (some ad) m c) (hm : X.length = m)
  (hX : ∀ x ∈ X, x.cells.length = S.m ∧ S.R w x.cells x.d x.fp ∧ ∀ b ∈ x.fp, v.ownBlock ≠ some b) (h1 : ∀ x ∈ X, ∀ u ∈ x.cells, u.oneCell' = true) (hcell : ∀ j u, (X.flatMap (·.cells))[j]? = some u → w.cell? (ad.add j) = some u)
  (h63 : L.length + m ≤ maxLen) (hbytes : (L.length + m) * bytes ≤ 140737488355328) (hbase : base ≤ w.heap.size)
  (h : ∀ v' w', RowN S base e v' (L ++ X) w' → w.grownBy w' v.ownBlock → (v'.ownBlock = v.ownBlock ∨ v'.ownBlock = some w.heap.size) → K (a.put o.dst v') w') : o.wp P a w K Q := by
 obtain ⟨i, hi, hz0, hz1, hz2⟩ := info_parts ti.2
 subst hm
 obtain ⟨v', w', hr, r1, r2, r3⟩ := run_append_place (P := P) w base t o.type e i z S.m bytes ti.1 hi hz0 hz1 hz2 hzs h0 v L.length _ hown.row ad X.length c (X.flatMap (·.cells)) (flatMap_len (f := Elem.cells) fun x hx => (hX x hx).1) hcell
  (fun u hu => by obtain ⟨x, hx, hu⟩ := List.mem_flatMap.1 hu; exact h1 x hx u hu) h63 hbytes hbase
 unfold Oper.wp execOp
 simp only [ho, resolve, invoke, builtin, Sem.run_bind, Sem.run_pure, Result.andThen_ok, List.map_toArray, List.map_cons, List.map_nil, hs, hy, hr]
 refine h v' w' (hown.appended ?_ r2 r3 hX) r2 r3
 rw [List.length_append, List.flatMap_append]
 exact r1
theorem wp_append_rowN {α : Type} {S : Shape α} {P : Program} {t e : TypeId} {z : Value} {bytes : Nat} (ti : TI P t e z S.m bytes) (hzs : z.cells.size = S.m) (h0 : 0 < S.m) (w : World) {L X : List (Elem α)} {ops : Array Oper} {rest : List Oper} {o : Oper} {a : Act} {Q : Exit → Act → World → Prop}
  (hg : o.guard = none) (s y : Operand) (ho : o.op = .call { callee := .builtin .append, args := #[s, y], argTypes := #[t, t] })
  (base : Nat) (v : Value) (hs : a.eval s = v) (hown : RowN S base e v L w) (ad : Addr) (m c : Nat) (hy : a.eval y = .slice (some ad) m c) (hm : X.length = m)
  (hX : ∀ x ∈ X, x.cells.length = S.m ∧ S.R w x.cells x.d x.fp ∧ ∀ b ∈ x.fp, v.ownBlock ≠ some b) (h1 : ∀ x ∈ X, ∀ u ∈ x.cells, u.oneCell' = true) (hcell : ∀ j u, (X.flatMap (·.cells))[j]? = some u → w.cell? (ad.add j) = some u)
  (h63 : L.length + m ≤ maxLen) (hbytes : (L.length + m) * bytes ≤ 140737488355328) (hbase : base ≤ w.heap.size)
  (h : ∀ v' w', RowN S base e v' (L ++ X) w' → w.grownBy w' v.ownBlock → (v'.ownBlock = v.ownBlock ∨ v'.ownBlock = some w.heap.size) → wpList P ops Q rest (a.put o.dst v') w') : wpList P ops Q (o :: rest) a w :=
 wpList_plain hg fun _ hK => step_append_rowN ti hzs h0 w s y ho base v hs hown ad m c hy hm hX h1 hcell h63 hbytes hbase fun v' w' h2 h3 h4 => hK _ _ (h v' w' h2 h3 h4)
theorem run_append_none {P : Program} {w : World} (base : Nat) (t ty e : TypeId) (i : TypeInfo) (size c : Nat) (ht : P.underlying t = some (.slice e)) (hi : P.info? e = some i)
  (v : Value) (n : Nat) (xs : List Value) (hown : w.ownsRow base e size v n xs) : (Builtin.append_ #[t, t] ty #[v, .slice none 0 c]).run P w = .ok v w := by
 rcases hown.2 with ⟨rfl, rfl⟩ | ⟨g, cap, cur, rfl, _, _, hnc, _⟩
 ·simp [Builtin.append_, run_underlying ht, sizeOf, typeInfo, hi, Builtin.lenOf, Builtin.firstCells]
 ·simp [Builtin.append_, run_underlying ht, sizeOf, typeInfo, hi, Builtin.lenOf, Builtin.firstCells, hnc, storeCells]
theorem elems_in {α : Type} {S : Shape α} {w : World} {u : Value} {M : List α} {fp : List Nat} (H : (sSlice S).R w [u] M fp) :
  ∃ (X : List (Elem α)) (a : Option Addr) (cap : Nat), X.map (·.d) = M ∧ X.length = M.length ∧ u = .slice a M.length cap ∧ M.length ≤ maxLen ∧ (∀ x ∈ X, x.cells.length = S.m ∧ S.R w x.cells x.d x.fp ∧ ∀ b ∈ x.fp, b ∈ fp) ∧
   (0 < M.length → ∃ b off, a = some ⟨b, off, none⟩ ∧ b < w.heap.size ∧ ∀ k, (hk : k < X.length) → ElemAt w b off S.m k X[k].cells) := by
 obtain ⟨a, cap, rfl, hc, hm, hrow⟩ := open_rows H
 by_cases h0 : 0 < M.length
 ·obtain ⟨b, off, fps, rfl, hb, hfp, he⟩ := hrow h0
  have key : ∀ k : Fin M.length, ∃ x : Elem α, x.d = M[k.1] ∧ x.fp = fps k.1 ∧ ElemAt w b off S.m k.1 x.cells ∧ S.R w x.cells x.d x.fp := fun k => by
   obtain ⟨es, hE, hR⟩ := he k.1 k.2
   exact ⟨⟨es, M[k.1], fps k.1⟩, rfl, rfl, hE, hR⟩
  let X : List (Elem α) := List.ofFn fun k : Fin M.length => (key k).choose
  have hXl : X.length = M.length := by simp [X]
  have hX : ∀ k, (hk : k < X.length) → ∃ hk' : k < M.length, X[k] = (key ⟨k, hk'⟩).choose := fun k hk => ⟨by omega, by simp [X]⟩
  refine ⟨X, _, cap, ?_, hXl, rfl, by omega, fun x hx => ?_, fun _ => ⟨b, off, rfl, hb, fun k hk => ?_⟩⟩
  ·apply List.ext_getElem
   ·simp [hXl]
   ·intro k h1 h2
    rw [List.getElem_map]
    obtain ⟨hk', e⟩ := hX k (by simpa using h1)
    rw [e]
    exact (key ⟨k, hk'⟩).choose_spec.1
  ·obtain ⟨k, hk, rfl⟩ := List.getElem_of_mem hx
   obtain ⟨hk', e⟩ := hX k hk
   obtain ⟨s1, s2, s3, s4⟩ := (key ⟨k, hk'⟩).choose_spec
   rw [e]
   refine ⟨s3.1, s4, fun c hc => ?_⟩
   rw [s2] at hc
   rw [hfp]
   exact List.mem_cons_of_mem _ (List.mem_flatMap.2 ⟨k, List.mem_range.2 hk', hc⟩)
  ·obtain ⟨hk', e⟩ := hX k hk
   rw [e]
   exact (key ⟨k, hk'⟩).choose_spec.2.2.1
 ·have hM : M = [] := List.length_eq_zero_iff.1 (by omega)
  subst hM
  exact ⟨[], a, cap, rfl, rfl, rfl, by unfold maxLen; simp, by simp, fun h => absurd h (by simp)⟩
theorem step_append_anyN {α : Type} {S : Shape α} {P : Program} {t e : TypeId} {z : Value} {bytes : Nat} (ti : TI P t e z S.m bytes) (hzs : z.cells.size = S.m) (h0 : 0 < S.m) (hone : ∀ w cs x fp, S.R w cs x fp → ∀ u ∈ cs, u.oneCell' = true) (w : World) {L : List (Elem α)} {o : Oper} {a : Act} {K : Act → World → Prop} {Q : Exit → Act → World → Prop}
  (s y : Operand) (ho : o.op = .call { callee := .builtin .append, args := #[s, y], argTypes := #[t, t] })
  (base : Nat) (v u : Value) (M : List α) (fp : List Nat) (hs : a.eval s = v) (hown : RowN S base e v L w) (hy : a.eval y = u) (HM : (sSlice S).R w [u] M fp) (hfp : ∀ b ∈ fp, v.ownBlock ≠ some b)
  (h63 : L.length + M.length ≤ maxLen) (hbytes : (L.length + M.length) * bytes ≤ 140737488355328) (hbase : base ≤ w.heap.size)
  (h : ∀ v' X w', X.map (·.d) = M → (∀ x ∈ X, ∀ b ∈ x.fp, b ∈ fp) → RowN S base e v' (L ++ X) w' → w.grownBy w' v.ownBlock → (v'.ownBlock = v.ownBlock ∨ v'.ownBlock = some w.heap.size) → K (a.put o.dst v') w') : o.wp P a w K Q := by
 obtain ⟨X, ad, cap, hXM, hXl, rfl, hmm, hX, hat⟩ := elems_in HM
 rw [← hXl] at h63 hbytes
 have hX2 : ∀ x ∈ X, x.cells.length = S.m ∧ S.R w x.cells x.d x.fp ∧ ∀ b ∈ x.fp, v.ownBlock ≠ some b := fun x hx => ⟨(hX x hx).1, (hX x hx).2.1, fun c hc => hfp c ((hX x hx).2.2 c hc)⟩
 by_cases hM : 0 < M.length
 ·obtain ⟨b, off, rfl, hb, hE⟩ := hat hM
  refine step_append_rowN ti hzs h0 w (X := X) s y ho base v hs hown ⟨b, off, none⟩ M.length cap hy hXl hX2 (fun x hx => hone _ _ _ _ (hX x hx).2.1) ?_ (by rw [← hXl]; exact h63) (by rw [← hXl]; exact hbytes) hbase fun v' w' r1 r2 r3 => h v' X w' hXM (fun x hx => (hX x hx).2.2) r1 r2 r3
  intro j u hj
  have hjl : j < X.length * S.m := by
   have := (List.getElem?_eq_some_iff.1 hj).1
   rwa [flatMap_len (f := Elem.cells) fun x hx => (hX x hx).1] at this
  have hk : j / S.m < X.length := Nat.div_lt_of_lt_mul (by rw [Nat.mul_comm]; exact hjl)
  have hr : j % S.m < S.m := Nat.mod_lt _ h0
  have hj2 : j / S.m * S.m + j % S.m = j := Nat.div_add_mod' _ _
  rw [← hj2, flatMap_at (f := Elem.cells) (fun x hx => (hX x hx).1) hk hr] at hj
  have := (hE (j / S.m) hk).2 (j % S.m) hr
  rw [Nat.add_assoc, hj2] at this
  rw [Addr.add_lit, this]
  exact hj
 ·have hX0 : X = [] := List.length_eq_zero_iff.1 (by omega)
  have hM0 : M.length = 0 := by omega
  subst hX0
  obtain ⟨i, hi, hz0, hz1, hz2⟩ := info_parts ti.2
  have hdone : K (a.put o.dst v) w := h v [] w (by simpa using hXM) (by simp) (by simpa using hown) ⟨rfl, rfl, rfl, Nat.le_refl _, fun _ _ _ => rfl⟩ (.inl rfl)
  rw [hM0] at hy
  cases ad with
  |
   none =>
   have hrun := run_append_none (P := P) (w := w) base _ o.type _ i S.m cap ti.1 hi v L.length _ hown.row
   unfold Oper.wp
   simp [execOp, ho, resolve, invoke, builtin, hs, hy, hrun, Result.andThen]
   exact hdone
  |
   some ad =>
   exact step_append_rowN ti hzs h0 w (X := []) s y ho base v hs hown ad 0 cap hy rfl (by simp) (by simp) (by simp) (by simpa using h63) (by simpa using hbytes) hbase fun v' w' r1 r2 r3 => h v' [] w' (by simpa using hXM) (by simp) r1 r2 r3
theorem wp_append_anyN {α : Type} {S : Shape α} {P : Program} {t e : TypeId} {z : Value} {bytes : Nat} (ti : TI P t e z S.m bytes) (hzs : z.cells.size = S.m) (h0 : 0 < S.m) (hone : ∀ w cs x fp, S.R w cs x fp → ∀ u ∈ cs, u.oneCell' = true) (w : World) {L : List (Elem α)} {ops : Array Oper} {rest : List Oper} {o : Oper} {a : Act} {Q : Exit → Act → World → Prop}
  (hg : o.guard = none) (s y : Operand) (ho : o.op = .call { callee := .builtin .append, args := #[s, y], argTypes := #[t, t] })
  (base : Nat) (v u : Value) (M : List α) (fp : List Nat) (hs : a.eval s = v) (hown : RowN S base e v L w) (hy : a.eval y = u) (HM : (sSlice S).R w [u] M fp) (hfp : ∀ b ∈ fp, v.ownBlock ≠ some b)
  (h63 : L.length + M.length ≤ maxLen) (hbytes : (L.length + M.length) * bytes ≤ 140737488355328) (hbase : base ≤ w.heap.size)
  (h : ∀ v' X w', X.map (·.d) = M → (∀ x ∈ X, ∀ b ∈ x.fp, b ∈ fp) → RowN S base e v' (L ++ X) w' → w.grownBy w' v.ownBlock → (v'.ownBlock = v.ownBlock ∨ v'.ownBlock = some w.heap.size) → wpList P ops Q rest (a.put o.dst v') w') : wpList P ops Q (o :: rest) a w :=
 wpList_plain hg fun _ hK => step_append_anyN ti hzs h0 hone w s y ho base v u M fp hs hown hy HM hfp h63 hbytes hbase fun v' X w' q1 q2 h2 h3 h4 => hK _ _ (h v' X w' q1 q2 h2 h3 h4)

end Go.Proofs.YtlegeancmcmbaaaDoor

/- Four cells stored into one block; an operation of a drawn region taken first; two structs as results. Over any program. -/
namespace Go.Proofs.YtlegeancmcmbaaaDoor
open Go.RowKit
section
variable {P : Program} {ops : Array Oper} {Q : Exit → Act → World → Prop} {md : Region.Mode} {S : World → Prop}
theorem takeH2 (i d : Nat) {oi : Oper} {v : Value} {fuel : Nat} {listed : Array Bool} {a : Act} {w : World} (hi : ops[i]? = some oi) (hd : oi.dst = some d)
  (hs : Region.noSelect ops = true) (hf : Region.free md ops listed i = true) (hr : (Region.ready md ops listed).contains i = true)
  (hQ : ∀ c a w, Q (.panic c) (a.put (some d) v) w → Q (.panic c) a w) (hw : Region.wanted oi (yielded ops a.tmps) = true) (hS : S w)
  (hy : ∀ w, S w → (execOp a.eval oi).run P w = .ok (.value v) w)
  (h : wpAnyH P md ops Q S fuel (listed.setIfInBounds i true) (a.put (some d) v) w) : wpAnyH P md ops Q S (fuel + 1) listed a w :=
 wpAnyH_take hi hs hf hr (by rw [hd]; exact hQ) (.inl ⟨hw, hy⟩) hS (by rw [hd]; exact h)
end
section
variable {α : Type} {S : Shape α} {w w7 : World} {g2 g3 : Nat} {T : TypeId} {z0 z1 z2 z3 y0 y1 y2 y3 : Value} {cs cs' : List Value} {d d' : α} {fp fp' : List Nat}
end

end Go.Proofs.YtlegeancmcmbaaaDoor

/- TokenBytes of the model. -/
namespace Go.Proofs.YtlegeancmcmbaaaDoor
open Go.RowKit
def OutAt (s : ByteArray) (k : Nat) (out : ByteArray) : Prop := out ++ outTo s k = outTo s 1 ∧ tClose s k = some s.size ∧ 1 ≤ k ∧ out.size ≤ k
theorem OutAt.done {s : ByteArray} {k : Nat} {out : ByteArray} (h : OutAt s k out) (hk : s.size ≤ k + 1) : out = outTo s 1 := by
 rw [← h.1, outTo_end hk]; exact ByteArray.append_empty.symm

end Go.Proofs.YtlegeancmcmbaaaDoor

/- A token by value: its marks. -/
namespace Go.Proofs.YtlegeancmcmbaaaDoor
open Go.RowKit
end Go.Proofs.YtlegeancmcmbaaaDoor

/- TextToken of the model. (Made by gen_txt.py.) -/
namespace Go.Proofs.YtlegeancmcmbaaaDoor
open Go.RowKit
end Go.Proofs.YtlegeancmcmbaaaDoor

/- Names of two lists, of both; slices.BinarySearch of strings. -/
namespace Go.Proofs.YtlegeancmcmbaaaDoor
open Go.RowKit

/-! ### Places of names -/
/-! ### The library's -/
/-! ### Names that are in both -/
end Go.Proofs.YtlegeancmcmbaaaDoor

/- PasteTokens of both. (Made by gen_pst2.py.) -/
namespace Go.Proofs.YtlegeancmcmbaaaDoor
open Go.RowKit
end Go.Proofs.YtlegeancmcmbaaaDoor
