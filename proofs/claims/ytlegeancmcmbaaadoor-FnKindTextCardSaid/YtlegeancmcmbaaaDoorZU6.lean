/- Texts that the proof of U stands on, in one file. -/
import Derived.Test.YtlegeancmcmbaaaDoorZU5
import Derived.StillTailTactics
import Derived.Test.YtlegeancmcmbaaaDoorZU3
import Derived.Laws.AppendOwnNone
import Derived.Test.YtlegeancmcmbaaaDoorZU1
import Derived.Orders
import Derived.Test.YtlegeancmcmbaaaDoorZU2
import Derived.IntWalk
import Derived.Outline
import Derived.Laws.BitsAllLaws
import Derived.Deep.QuietTactic
import Derived.BigQuiet
import Derived.Laws.Concat
set_option linter.unusedVariables false
set_option linter.unusedSimpArgs false
/- PrintTokens: the model. -/
namespace Go.Proofs.YtlegeancmcmbaaaDoor
open Go.RowKit
end Go.Proofs.YtlegeancmcmbaaaDoor

/- Macros: the model's own helpers; what both sides walk over. -/
namespace Go.Proofs.YtlegeancmcmbaaaDoor
open Go.RowKit

set_option maxHeartbeats 1000000 in
theorem spec_l5Name (x : ByteArray) (w : World) (hs : x.size ≤ maxLen) :
  Calls Tryd.prog 96 #[.string x] w (Says (oneTok x 1) w) := by
 have HT : Hid (∀ W, Calls Tryd.prog 37 #[.string x] W (TokMade (tokRes x) W)) := fun W => spec_TokensOf x W hs
 go_enter Tryd.func96, Tryd.ntmps96
 rcases one_ways x 1 with ⟨hr, HF⟩ | ⟨l, hr, hl, HF⟩ | ⟨t, hr, hk, HF⟩ | ⟨t, hr, hk, hx, HF⟩ | ⟨t, hr, hk, hx, _, HF⟩
 ·rw [hr] at HT
  clear hr
  go_wp2_with (go_at_call 37; refine (HT.out _).mono ?_; rintro e w' ⟨v, fp, rfl, hR, hO, hB⟩)
  go_ret
  exact ⟨ret_bool HF.out.symm, hB⟩
 ·rw [hr] at HT
  have hl' : ((l.length : Int) == 1) = false := by simp; omega
  clear hr hl
  go_wp2_with (go_at_call 37; refine (HT.out _).mono ?_; rintro e w' ⟨v, fp, rfl, hR, hO, hB⟩; obtain ⟨a, cap, rfl, _, _, _⟩ := open_rows hR)
  go_ret
  exact ⟨ret_bool HF.out.symm, hB⟩
 ·rw [hr] at HT
  have hk' : (t.kind == 1) = false := by simp [hk]
  clear hr hk
  go_wp2_with (go_at_call 37; refine (HT.out _).mono ?_; rintro e w' ⟨v, fp, rfl, hR, hO, hB⟩; obtain ⟨b, off, cap, h, rfl, hc1, hc2, hb, h0, h1, h2, h3, _, _⟩ := open_one hR)
  go_ret
  exact ⟨ret_bool HF.out.symm, hB⟩
 ·rw [hr] at HT
  have hk' : (t.kind == 1) = true := by simp [hk]
  have hx' : (t.text.toList == x.toList) = false := bytes_bne hx
  clear hr hk hx
  go_wp2_with (go_at_call 37; refine (HT.out _).mono ?_; rintro e w' ⟨v, fp, rfl, hR, hO, hB⟩; obtain ⟨b, off, cap, h, rfl, hc1, hc2, hb, h0, h1, h2, h3, _, _⟩ := open_one hR)
  go_ret
  exact ⟨ret_bool HF.out.symm, hB⟩
 ·rw [hr] at HT
  have hk' : (t.kind == 1) = true := by simp [hk]
  have hx' : (t.text.toList == x.toList) = true := bytes_beq hx
  clear hr hk hx
  go_wp2_with (go_at_call 37; refine (HT.out _).mono ?_; rintro e w' ⟨v, fp, rfl, hR, hO, hB⟩; obtain ⟨b, off, cap, h, rfl, hc1, hc2, hb, h0, h1, h2, h3, _, _⟩ := open_one hR)
  go_ret
  exact ⟨ret_bool HF.out.symm, hB⟩

theorem par_end {ps : List ByteArray} {t : Tok} {k : Nat} (h : ps.length ≤ k) : parFrom ps t k = -1 := by rw [parFrom, dif_neg (by omega)]
theorem par_hit {ps : List ByteArray} {t : Tok} {k : Nat} (h : k < ps.length) (h1 : t.kind = 1) (h2 : ps[k] = t.text) : parFrom ps t k = k := by rw [parFrom, dif_pos h, if_pos ⟨h1, h2⟩]
theorem par_miss {ps : List ByteArray} {t : Tok} {k : Nat} (h : k < ps.length) (h1 : ¬ (t.kind = 1 ∧ ps[k] = t.text)) : parFrom ps t k = parFrom ps t (k + 1) := by rw [parFrom, dif_pos h, if_neg h1]

set_option maxHeartbeats 4000000 in
set_option maxRecDepth 100000 in
theorem spec_l5Param (csM csT : List Value) (m : DMacro) (t : Tok) (fpM fpT : List Nat) (w : World) (HM : sMacro.R w csM m fpM) (HT : sTok.R w csT t fpT) :
  Calls Tryd.prog 97 #[.agg csM.toArray, .agg csT.toArray] w fun e w' => e = .returned (.int .i64 (parOf m.params t)) ∧ Below w.heap.size w w' := by
 obtain ⟨h2, h3, fp2, fp3, rfl, -, K2, K3, rfl⟩ := HM
 obtain ⟨hh, rfl, -, -, -⟩ := HT
 obtain ⟨a, cap, rfl, hc, hm, hcell, hsz⟩ := open_strs K2
 unfold maxLen at hm
 clear K2 K3
 have b0 := alloc_below' w (.cells #[.string m.name, .bool m.function, .slice a m.params.length cap, h3] 79)
 have b1 := b0.trans ((alloc_below' (w.alloc (.cells #[.string m.name, .bool m.function, .slice a m.params.length cap, h3] 79)) (.cells #[.int .i64 t.kind, .string t.text, .bool t.spaced, hh] 47)).mono b0.size)
 have HX := Lib.hid (alloc2_blk w #[.string m.name, .bool m.function, .slice a m.params.length cap, h3] #[.int .i64 t.kind, .string t.text, .bool t.spaced, hh] 79 47)
 go_enter Tryd.func97, Tryd.ntmps97
 go_wp2
 generalize (w.alloc (.cells #[.string m.name, .bool m.function, .slice a m.params.length cap, h3] 79)).alloc (.cells #[.int .i64 t.kind, .string t.text, .bool t.spaced, hh] 47) = W at *
 clear b0
 go_loopw [5] (fun i wr => ∃ k : Nat, k ≤ m.params.length ∧ i = .int .i64 k ∧ Hid (parOf m.params t = parFrom m.params t k) ∧ Below W.heap.size W wr) (fun i _ => m.params.length - (intOf i).toNat)
 case atStart => exact ⟨0, by omega, rfl, rfl, Below.refl _ _⟩
 case round =>
  obtain ⟨k, hk, rfl, HP, hb⟩ := hrel
  have HX1 := Lib.hid (And.intro ((hb.block _ (Array.getElem?_eq_some_iff.1 HX.out.1).1).trans HX.out.1) ((hb.block _ (Array.getElem?_eq_some_iff.1 HX.out.2).1).trans HX.out.2))
  have q2 : wr.cell? ⟨w.heap.size, 2, none⟩ = some (.slice a m.params.length cap) := cell_of_row _ _ 2 _ _ _ HX1.out.1
  have p0 : wr.cell? ⟨w.heap.size + 1, 0, none⟩ = some (.int .i64 t.kind) := cell_of_row _ _ 0 _ _ _ HX1.out.2
  have p1 : wr.cell? ⟨w.heap.size + 1, 1, none⟩ = some (.string t.text) := cell_of_row _ _ 1 _ _ _ HX1.out.2
  by_cases hlt : k < m.params.length
  ·obtain ⟨b, off, rfl, hbl, _, hc2⟩ := hcell (by omega)
   have hck := ((b1.trans (hb.mono b1.size)).cell (p := ⟨b, off + k, none⟩) hbl).trans (hc2 k hlt)
   clear hcell hc2
   by_cases e1 : t.kind = 1
   ·have g1 : (t.kind == 1) = true := by simp [e1]
    by_cases e2 : m.params[k] = t.text
    ·have g2 := bytes_beq e2
     have HF := Lib.hid (par_hit hlt e1 e2)
     clear e1 e2
     go_wp2
     go_quiet (fail)
     go_wp2
     go_ret
     exact ⟨ret_int (by rw [HP.out, HF.out]), b1.trans ((belowN hb _).mono b1.size)⟩
    ·have g2 : (m.params[k].toList == t.text.toList) = false := bytes_bne e2
     have HF := Lib.hid (par_miss hlt (fun h => e2 h.2))
     clear e1 e2
     go_wp2
     go_quiet (fail)
     go_wp2
     go_roundw
     case rel => exact ⟨k + 1, by omega, by go_num, by show _ = _; rw [HP.out, HF.out], belowN hb _⟩
     case measure => simp [intOf]; omega
   ·have g1 : (t.kind == 1) = false := by simp [e1]
    have HF := Lib.hid (par_miss hlt (fun h => e1 h.1))
    clear e1
    go_wp2
    go_quiet (fail)
    go_wp2
    go_roundw
    case rel => exact ⟨k + 1, by omega, by go_num, by show _ = _; rw [HP.out, HF.out], belowN hb _⟩
    case measure => simp [intOf]; omega
  ·have HF := Lib.hid (par_end (t := t) (by omega : m.params.length ≤ k))
   go_wp2
   go_ret
   exact ⟨ret_int (by rw [HP.out, HF.out]), b1.trans (hb.mono b1.size)⟩

end Go.Proofs.YtlegeancmcmbaaaDoor

/- Rows of the call's own whose elements have memory behind them. Over any program. -/
namespace Go.Proofs.YtlegeancmcmbaaaDoor
open Go.RowKit

structure RowE {α : Type} (S : Shape α) (base : Nat) (e : TypeId) (v : Value) (L : List (Elem α)) (w : World) : Prop where
 row : w.ownsRow base e S.m v L.length (L.flatMap (·.cells))
 len : ∀ x ∈ L, x.cells.length = S.m
 el : ∀ x ∈ L, S.R w x.cells x.d x.fp
 lo : ∀ x ∈ L, ∀ b ∈ x.fp, base ≤ b
 ty : ∀ x ∈ L, ∀ b ∈ x.fp, ∃ cur t fr, w.heap[b]? = some (.cells cur t fr) ∧ t ≠ e

section
variable {α : Type} {S : Shape α} {base : Nat} {e : TypeId} {v v' : Value} {L : List (Elem α)} {w w' : World}
theorem ownsRow_same {n : Nat} {xs : List Value} {m : Nat} (h : w.ownsRow base e m v n xs) (hb : ∀ g, v.ownBlock = some g → w'.heap[g]? = w.heap[g]?) : w'.ownsRow base e m v n xs := by
 refine ⟨h.1, ?_⟩
 rcases h.2 with h0 | ⟨g, cap, cur, h1, h2, h3, h4⟩
 ·exact .inl h0
 ·exact .inr ⟨g, cap, cur, h1, h2, (hb g (by rw [h1]; rfl)).trans h3, h4⟩
theorem RowE.same (h : RowE S base e v L w) (hb : ∀ b, b < w.heap.size → base ≤ b → w'.heap[b]? = w.heap[b]?) : RowE S base e v L w' where
 row := ownsRow_same h.row fun g hg => by
  have := h.row.lt g hg
  exact hb g this.2 this.1
 len := h.len
 el := fun x hx => S.frame (fun b hb' => hb b (S.lt (h.el x hx) b hb') (h.lo x hx b hb')) (h.el x hx)
 lo := h.lo
 ty := fun x hx b hb' => by
  obtain ⟨cur, t, fr, h1, h2⟩ := h.ty x hx b hb'
  exact ⟨cur, t, fr, (hb b (S.lt (h.el x hx) b hb') (h.lo x hx b hb')).trans h1, h2⟩
theorem RowE.below (h : RowE S base e v L w) (hb : Below w.heap.size w w') : RowE S base e v L w' := h.same fun b hb' _ => hb.block b hb'
theorem RowE.nil (S : Shape α) (base : Nat) (e : TypeId) (w : World) : RowE S base e (.slice none 0 0) [] w := ⟨World.ownsRow_nil _ _ _ _, by simp, by simp, by simp, by simp⟩
theorem RowE.val (h : RowE S base e v L w) : ∃ a cap, v = .slice a L.length cap ∧ L.length ≤ cap ∧ cap ≤ maxLen ∧ (0 < L.length → ∃ g, a = some ⟨g, 0, none⟩ ∧ base ≤ g ∧ g < w.heap.size) := by
 rcases h.row.2 with ⟨rfl, h0⟩ | ⟨g, cap, cur, rfl, hb, hg, hn, hc, _⟩
 ·exact ⟨none, 0, by rw [h0], by omega, by simp, fun h => by omega⟩
 ·exact ⟨_, cap, rfl, hn, hc, fun _ => ⟨g, rfl, hb, (Array.getElem?_eq_some_iff.1 hg).1⟩⟩
theorem RowE.mine (h : RowE S base e v L w) : ∀ b, v.ownBlock = some b → base ≤ b := fun b hb => (h.row.lt b hb).1
theorem RowE.slice (h : RowE S base e v L w) : ∃ fp, (sSlice S).R w [v] (L.map (·.d)) fp := by
 obtain ⟨fp, h1, _⟩ := slice_of_row h.row fun x hx => ⟨h.len x hx, h.el x hx⟩
 exact ⟨fp, h1⟩
theorem RowE.ap (h : RowE S base e v L w) {x : Elem α} (hx : x ∈ L) {b : Nat} (hb : b ∈ x.fp) : v.ownBlock ≠ some b := by
 intro hv
 obtain ⟨cur, t, fr, h1, h2⟩ := h.ty x hx b hb
 rcases h.row.2 with ⟨rfl, _⟩ | ⟨g, cap, cur', rfl, _, hg, _⟩
 ·simp [Value.ownBlock] at hv
 ·simp only [Value.ownBlock, Option.some.injEq] at hv
  subst hv
  rw [h1] at hg
  simp only [Option.some.injEq, Obj.cells.injEq] at hg
  exact h2 hg.2.1
theorem flatMap_set {f : Elem α → List Value} {m : Nat} : ∀ {L : List (Elem α)} (_ : ∀ x ∈ L, (f x).length = m) {k : Nat} (hk : k < L.length) {j : Nat} (_ : j < m) (u : Value) (x' : Elem α) (_ : f x' = (f L[k]).set j u), (L.flatMap f).set (k * m + j) u = (L.set k x').flatMap f
 | [], _, k, hk, _, _, _, _, _ => by simp at hk
 |
  x :: L, hL, 0, _, j, hj, u, x', hx => by
  simp only [List.flatMap_cons, List.set_cons_zero, Nat.zero_mul, Nat.zero_add]
  rw [List.set_append_left _ _ (by rw [hL x (by simp)]; exact hj), hx]; rfl
 |
  x :: L, hL, k + 1, hk, j, hj, u, x', hx => by
  have hl := hL x (by simp)
  have e : (k + 1) * m + j = m + (k * m + j) := by rw [Nat.succ_mul]; omega
  simp only [List.flatMap_cons, List.set_cons_succ]
  rw [List.set_append_right _ _ (by rw [hl, e]; omega), hl, e, Nat.add_sub_cancel_left]
  rw [flatMap_set (fun y hy => hL y (by simp [hy])) (by simpa using hk) hj u x' (by simpa using hx)]
theorem RowE.set {g n cap : Nat} (h : RowE S base e (.slice (some ⟨g, 0, none⟩) n cap) L w) {k : Nat} (hk : k < L.length) {j : Nat} (hj : j < S.m) (u : Value) (x' : Elem α) (hx : x'.cells = L[k].cells.set j u)
  (hR : S.R w x'.cells x'.d x'.fp) (hlo : ∀ b ∈ x'.fp, base ≤ b) (hty : ∀ b ∈ x'.fp, ∃ cur t fr, w.heap[b]? = some (.cells cur t fr) ∧ t ≠ e) :
  RowE S base e (.slice (some ⟨g, 0, none⟩) n cap) (L.set k x') (w.setCell ⟨g, k * S.m + j, none⟩ u) := by
 have hne : ∀ b : Nat, (∃ cur t fr, w.heap[b]? = some (.cells cur t fr) ∧ t ≠ e) → b ≠ g := by
  rintro b ⟨cur, t, fr, h1, h2⟩ rfl
  rcases h.row.2 with ⟨h', _⟩ | ⟨g', cap', cur', h', _, hg, _⟩
  ·cases h'
  ·simp only [Value.slice.injEq, Option.some.injEq, Addr.mk.injEq, and_true] at h'
   obtain ⟨rfl, _⟩ := h'
   rw [h1] at hg
   simp only [Option.some.injEq, Obj.cells.injEq] at hg
   exact h2 hg.2.1
 have hblk : ∀ b : Nat, b ≠ g → (w.setCell ⟨g, k * S.m + j, none⟩ u).heap[b]? = w.heap[b]? := fun b hb => Below.heap_setCell _ _ _ _ hb
 have hmem : ∀ x ∈ L.set k x', x = x' ∨ x ∈ L := fun x hx => by
  rcases List.mem_or_eq_of_mem_set hx with h | h
  ·exact .inr h
  ·exact .inl h
 refine ⟨?_, fun x hx' => ?_, fun x hx' => ?_, fun x hx' => ?_, fun x hx' => ?_⟩
 ·have hn : L.length = n := by
   rcases h.row.2 with ⟨h', _⟩ | ⟨g', cap', cur, h', _⟩
   ·cases h'
   ·simp only [Value.slice.injEq] at h'; exact h'.2.1.symm
  have hrow := h.row
  rw [hn] at hrow
  have := (hrow.stored (k * S.m + j) u).1
  rw [flatMap_set h.len hk hj u x' hx] at this
  rw [List.length_set, hn]
  exact this
 ·rcases hmem x hx' with rfl | hx'
  ·rw [hx, List.length_set]; exact h.len _ (List.getElem_mem hk)
  ·exact h.len x hx'
 ·rcases hmem x hx' with rfl | hx'
  ·exact S.frame (fun b hb => hblk b (hne b (hty b hb))) hR
  ·exact S.frame (fun b hb => hblk b (hne b (h.ty x hx' b hb))) (h.el x hx')
 ·rcases hmem x hx' with rfl | hx'
  ·exact hlo
  ·exact h.lo x hx'
 ·intro b hb
  rcases hmem x hx' with rfl | hx'
  ·obtain ⟨cur, t, fr, h1, h2⟩ := hty b hb
   exact ⟨cur, t, fr, (hblk b (hne b ⟨cur, t, fr, h1, h2⟩)).trans h1, h2⟩
  ·obtain ⟨cur, t, fr, h1, h2⟩ := h.ty x hx' b hb
   exact ⟨cur, t, fr, (hblk b (hne b ⟨cur, t, fr, h1, h2⟩)).trans h1, h2⟩
theorem RowE.appended (h : RowE S base e v L w) {X : List (Elem α)} (hrow : w'.ownsRow base e S.m v' (L ++ X).length ((L ++ X).flatMap (·.cells))) (hg : w.grownBy w' v.ownBlock)
  (hlen : ∀ x ∈ X, x.cells.length = S.m) (hR : ∀ x ∈ X, S.R w x.cells x.d x.fp) (hlo : ∀ x ∈ X, ∀ b ∈ x.fp, base ≤ b) (hty : ∀ x ∈ X, ∀ b ∈ x.fp, ∃ cur t fr, w.heap[b]? = some (.cells cur t fr) ∧ t ≠ e) :
  RowE S base e v' (L ++ X) w' := by
 have hne : ∀ b : Nat, (∃ cur t fr, w.heap[b]? = some (.cells cur t fr) ∧ t ≠ e) → w'.heap[b]? = w.heap[b]? := by
  rintro b ⟨cur, t, fr, h1, h2⟩
  refine hg.block b (Array.getElem?_eq_some_iff.1 h1).1 fun hv => ?_
  rcases h.row.2 with ⟨rfl, _⟩ | ⟨g', cap', cur', rfl, _, hg', _⟩
  ·simp [Value.ownBlock] at hv
  ·simp only [Value.ownBlock, Option.some.injEq] at hv
   subst hv
   rw [h1] at hg'
   simp only [Option.some.injEq, Obj.cells.injEq] at hg'
   exact h2 hg'.2.1
 refine ⟨hrow, fun x hx => ?_, fun x hx => ?_, fun x hx => ?_, fun x hx b hb => ?_⟩ <;> rcases List.mem_append.1 hx with hx | hx
 ·exact h.len x hx
 ·exact hlen x hx
 ·exact S.frame (fun b hb => hne b (h.ty x hx b hb)) (h.el x hx)
 ·exact S.frame (fun b hb => hne b (hty x hx b hb)) (hR x hx)
 ·exact h.lo x hx
 ·exact hlo x hx
 ·obtain ⟨cur, t, fr, h1, h2⟩ := h.ty x hx b hb
  exact ⟨cur, t, fr, (hne b ⟨cur, t, fr, h1, h2⟩).trans h1, h2⟩
 ·obtain ⟨cur, t, fr, h1, h2⟩ := hty x hx b hb
  exact ⟨cur, t, fr, (hne b ⟨cur, t, fr, h1, h2⟩).trans h1, h2⟩
end

theorem wp_append_rowE {α : Type} {S : Shape α} {P : Program} {t e : TypeId} {z : Value} {bytes : Nat} (ti : TI P t e z S.m bytes) (hzs : z.cells.size = S.m) (h0 : 0 < S.m) (w : World) {L X : List (Elem α)} {ops : Array Oper} {rest : List Oper} {o : Oper} {a : Act} {Q : Exit → Act → World → Prop}
  (hg : o.guard = none) (s y : Operand) (ho : o.op = .call { callee := .builtin .append, args := #[s, y], argTypes := #[t, t] })
  (base : Nat) (v : Value) (hs : a.eval s = v) (hown : RowE S base e v L w) (g m c : Nat) (hy : a.eval y = .slice (some ⟨g, 0, none⟩) m c) (hm : X.length = m)
  (hlen : ∀ x ∈ X, x.cells.length = S.m) (h1 : ∀ x ∈ X, ∀ u ∈ x.cells, u.oneCell' = true) (hcell : ∀ j u, (X.flatMap (·.cells))[j]? = some u → w.cell? ⟨g, j, none⟩ = some u)
  (hR : ∀ x ∈ X, S.R w x.cells x.d x.fp) (hlo : ∀ x ∈ X, ∀ b ∈ x.fp, base ≤ b) (hty : ∀ x ∈ X, ∀ b ∈ x.fp, ∃ cur t fr, w.heap[b]? = some (.cells cur t fr) ∧ t ≠ e)
  (h63 : L.length + m ≤ maxLen) (hbytes : (L.length + m) * bytes ≤ 140737488355328) (hbase : base ≤ w.heap.size)
  (h : ∀ v' w', RowE S base e v' (L ++ X) w' → w.grownBy w' v.ownBlock → wpList P ops Q rest (a.put o.dst v') w') : wpList P ops Q (o :: rest) a w := by
 obtain ⟨i, hi, hz0, hz1, hz2⟩ := info_parts ti.2
 subst hm
 refine wpList_append_own _ hg s y t ho base e i z S.m bytes ti.1 hi hz0 hz1 hz2 hzs h0 v L.length _ hs hown.row ⟨g, 0, none⟩ X.length c (X.flatMap (·.cells)) hy (flatMap_len hlen) ?_ ?_ h63 hbytes hbase fun v' w' a b _ => h v' w' ?_ b
 ·intro j u hj
  rw [addr_add, Nat.zero_add]
  exact hcell j u hj
 ·intro u hu
  obtain ⟨x, hx, hu⟩ := List.mem_flatMap.1 hu
  exact h1 x hx u hu
 ·refine hown.appended ?_ b hlen hR hlo hty
  rw [List.length_append, List.flatMap_append]
  exact a

end Go.Proofs.YtlegeancmcmbaaaDoor

/- Rows of the call's own: literals, whole elements stored, rows behind rows. Over any program. -/
namespace Go.Proofs.YtlegeancmcmbaaaDoor
open Go.RowKit

section
variable {α : Type} {S : Shape α} {base : Nat} {e : TypeId} {v v' : Value} {L : List (Elem α)} {w w' : World}
theorem RowE.lit (X : List (Elem α)) (hlen : ∀ x ∈ X, x.cells.length = S.m) (hR : ∀ x ∈ X, S.R w x.cells x.d x.fp) (hlo : ∀ x ∈ X, ∀ b ∈ x.fp, base ≤ b) (hty : ∀ x ∈ X, ∀ b ∈ x.fp, ∃ cur t fr, w.heap[b]? = some (.cells cur t fr) ∧ t ≠ e)
  (hb : base ≤ w.heap.size) (hn : X.length ≤ 1000000) : RowE S base e (.slice (some ⟨w.heap.size, 0, none⟩) X.length X.length) X (w.alloc (.cells (X.flatMap (·.cells)).toArray e)) where
 row := World.ownsRow_lit (base := base) (e := e) (size := S.m) w (X.flatMap (·.cells)).toArray X.length hb (by unfold maxLen; omega) (by simpa using flatMap_len hlen)
 len := hlen
 el := fun x hx => S.below (hR x hx) (alloc_below' _ _)
 lo := hlo
 ty := fun x hx b hb' => by
  obtain ⟨cur, t, fr, h1, h2⟩ := hty x hx b hb'
  exact ⟨cur, t, fr, ((alloc_below' w _).block b (Array.getElem?_eq_some_iff.1 h1).1).trans h1, h2⟩
theorem setFrom_flat : ∀ {L : List (Elem α)} {m : Nat} (_ : ∀ x ∈ L, x.cells.length = m) {k : Nat} (hk : k < L.length) (x' : Elem α) (_ : x'.cells.length = m), setFrom (L.flatMap (·.cells)) (k * m) x'.cells = (L.set k x').flatMap (·.cells) := by
 intro L m hL k hk x' hx'
 have h1 : L = L.take k ++ (L[k] :: L.drop (k + 1)) := by rw [List.getElem_cons_drop, List.take_append_drop]
 have h2 : (L.take k).length = k := by rw [List.length_take]; omega
 have h3 : ((L.take k).flatMap (·.cells)).length = k * m := by rw [flatMap_len (m := m) (fun x hx => hL x (List.mem_of_mem_take hx)), h2]
 have h4 : L.flatMap (·.cells) = (L.take k).flatMap (·.cells) ++ (L[k].cells ++ (L.drop (k + 1)).flatMap (·.cells)) := by
  conv => lhs; rw [h1]
  rw [List.flatMap_append, List.flatMap_cons]
 have h5 : L.set k x' = L.take k ++ (x' :: L.drop (k + 1)) := by rw [List.set_eq_take_append_cons_drop, if_pos hk]
 rw [h4, ← h3, setFrom_app _ _ _ _ (by rw [hL _ (List.getElem_mem hk), hx']), h5, List.flatMap_append, List.flatMap_cons]
theorem RowE.put {g n cap : Nat} (h : RowE S base e (.slice (some ⟨g, 0, none⟩) n cap) L w) {k : Nat} (hk : k < L.length) (x' : Elem α) (hl : x'.cells.length = S.m)
  (hR : S.R w x'.cells x'.d x'.fp) (hlo : ∀ b ∈ x'.fp, base ≤ b) (hty : ∀ b ∈ x'.fp, ∃ cur t fr, w.heap[b]? = some (.cells cur t fr) ∧ t ≠ e) :
  RowE S base e (.slice (some ⟨g, 0, none⟩) n cap) (L.set k x') (putAll w g (k * S.m) x'.cells) := by
 have hne : ∀ b : Nat, (∃ cur t fr, w.heap[b]? = some (.cells cur t fr) ∧ t ≠ e) → b ≠ g := by
  rintro b ⟨cur, t, fr, h1, h2⟩ rfl
  rcases h.row.2 with ⟨h', _⟩ | ⟨g', cap', cur', h', _, hg, _⟩
  ·cases h'
  ·simp only [Value.slice.injEq, Option.some.injEq, Addr.mk.injEq, and_true] at h'
   obtain ⟨rfl, _⟩ := h'
   rw [h1] at hg
   simp only [Option.some.injEq, Obj.cells.injEq] at hg
   exact h2 hg.2.1
 have hK := putAll_kept (g := g) x'.cells w (k * S.m)
 have hblk : ∀ b : Nat, b < w.heap.size → b ≠ g → (putAll w g (k * S.m) x'.cells).heap[b]? = w.heap[b]? := fun b hb hn => hK.block b hb (by simpa using hn)
 have hmem : ∀ x ∈ L.set k x', x = x' ∨ x ∈ L := fun x hx => by
  rcases List.mem_or_eq_of_mem_set hx with h | h
  ·exact .inr h
  ·exact .inl h
 refine ⟨?_, fun x hx' => ?_, fun x hx' => ?_, fun x hx' => ?_, fun x hx' => ?_⟩
 ·have hn : L.length = n := by
   rcases h.row.2 with ⟨h', _⟩ | ⟨g', cap', cur, h', _⟩
   ·cases h'
   ·simp only [Value.slice.injEq] at h'; exact h'.2.1.symm
  have hrow := h.row
  rw [hn] at hrow
  have := putAll_row x'.cells w _ (k * S.m) hrow
  rw [setFrom_flat h.len hk x' hl] at this
  rw [List.length_set, hn]
  exact this
 ·rcases hmem x hx' with rfl | hx'
  ·exact hl
  ·exact h.len x hx'
 ·rcases hmem x hx' with rfl | hx'
  ·exact S.frame (fun b hb => hblk b (S.lt hR b hb) (hne b (hty b hb))) hR
  ·exact S.frame (fun b hb => hblk b (S.lt (h.el x hx') b hb) (hne b (h.ty x hx' b hb))) (h.el x hx')
 ·rcases hmem x hx' with rfl | hx'
  ·exact hlo
  ·exact h.lo x hx'
 ·intro b hb
  rcases hmem x hx' with rfl | hx'
  ·obtain ⟨cur, t, fr, h1, h2⟩ := hty b hb
   exact ⟨cur, t, fr, (hblk b (Array.getElem?_eq_some_iff.1 h1).1 (hne b ⟨cur, t, fr, h1, h2⟩)).trans h1, h2⟩
  ·obtain ⟨cur, t, fr, h1, h2⟩ := h.ty x hx' b hb
   exact ⟨cur, t, fr, (hblk b (Array.getElem?_eq_some_iff.1 h1).1 (hne b ⟨cur, t, fr, h1, h2⟩)).trans h1, h2⟩
end
theorem wpList_guarded {P : Program} {ops : Array Oper} {rest : List Oper} {a : Act} {w : World} {Q : Exit → Act → World → Prop} {d : Option Tmp} {op : Op} {ty : TypeId} {pos : String} {after : Array Edge} {g : Option (Nat × Bool)}
  (hw : Region.wanted (Oper.mk d op ty pos after g) (yielded ops a.tmps) = true) (h : wpList P ops Q (Oper.mk d op ty pos after none :: rest) a w) : wpList P ops Q (Oper.mk d op ty pos after g :: rest) a w := by
 unfold wpList at h ⊢
 rw [if_pos hw]
 rw [if_pos (show Region.wanted (Oper.mk d op ty pos after none) (yielded ops a.tmps) = true from rfl)] at h
 exact h

end Go.Proofs.YtlegeancmcmbaaaDoor

/- A region that draws its order, walked by what its operations leave: in whatever order they come up, each finds what those before it have left. Over any program. -/
namespace Go.Proofs.YtlegeancmcmbaaaDoor
open Go.RowKit

def Sw (K : Act → World → Prop) : Exit → Act → World → Prop
 | .normal, a, w => K a w
 | _, _, _ => False
theorem Sw.noOut {K : Act → World → Prop} : ¬ LetsOut (Sw K) := fun ⟨_, _, h⟩ => h
theorem sw_wp {P : Program} {o : Oper} {a : Act} {w : World} {K : Act → World → Prop} {Q : Exit → Act → World → Prop} (h : o.wp P a w K (Sw K)) : o.wp P a w K Q := by
 unfold Oper.wp at *
 generalize (execOp a.eval o).run P w = r at *
 cases r with
 |
  ok n w' =>
  cases n <;> simp only [Oper.upon] at h ⊢ <;>
   first
    | exact h
    | exact Calls.mono h (fun e w'' he => by cases e <;> first | exact he | exact absurd he id | exact absurd he Sw.noOut)
    | exact Rows.mono h (fun _ _ he => he)
 |
  halt x w' =>
  cases x <;> simp only [Oper.upon] at h ⊢
  exact absurd h id
theorem sw_op {P : Program} {ops : Array Oper} {i : Nat} {o : Oper} {a : Act} {w : World} {K : Act → World → Prop} {Q : Exit → Act → World → Prop} (hi : ops[i]? = some o) (h : wpList P ops (Sw K) [o] a w) : wpOp P ops Q i K a w := by
 unfold wpOp
 rw [hi]
 unfold wpList at h
 show if _ then _ else _
 split
 ·rename_i hw
  rw [if_pos hw] at h
  rcases h with h | ⟨_, h⟩
  ·exact .inl (sw_wp h)
  ·exact absurd h Sw.noOut
 ·rename_i hw
  rw [if_neg hw] at h
  exact h

def fill (a : Act) : List (Option Nat) → List Value → Act
 | d :: ds, x :: xs => fill (a.put d x) ds xs
 | _, _ => a
theorem put_twice (a : Act) (d : Nat) (x v : Value) : (a.put (some d) x).put (some d) v = a.put (some d) v := by
 simp [Act.put, Array.setIfInBounds_setIfInBounds]
theorem put_swap (a : Act) (d e : Option Nat) (x v : Value) (h : d ≠ e ∨ d = none) : (a.put d x).put e v = (a.put e v).put d x := by
 cases d with
 | none => rfl
 |
  some d =>
  cases e with
  | none => rfl
  |
   some e =>
   have hne : d ≠ e := by
    rcases h with h | h
    ·intro hh; exact h (by rw [hh])
    ·cases h
   simp only [Act.put]
   rw [Array.setIfInBounds_comm _ _ hne]
def apartDsts : List (Option Nat) → Bool
 | [] => true
 | d :: ds => (d == none || !ds.contains d) && apartDsts ds
theorem fill_swap (ds : List (Option Nat)) : ∀ (a : Act) (xs : List Value) (d : Option Nat) (v : Value), (d = none ∨ d ∉ ds) → (fill a ds xs).put d v = fill (a.put d v) ds xs := by
 induction ds with
 | nil => intro a xs d v _; rfl
 |
  cons e ds ih =>
  intro a xs d v h
  cases xs with
  | nil => rfl
  |
   cons x xs =>
   show (fill (a.put e x) ds xs).put d v = fill ((a.put d v).put e x) ds xs
   rw [ih _ _ _ _ (by rcases h with h | h; exact .inl h; exact .inr (fun hh => h (by simp [hh])))]
   rw [put_swap a e d x v (by
                rcases h with rfl | h; · cases e <;> simp
                ·left; rintro rfl; exact h (by simp))]
theorem fill_put (ds : List (Option Nat)) (hd : apartDsts ds = true) : ∀ (a : Act) (xs : List Value) (i : Nat) (d : Option Nat) (v : Value), xs.length = ds.length → ds[i]? = some d → (fill a ds xs).put d v = fill a ds (xs.set i v) := by
 induction ds with
 | nil => intro a xs i d v _ h; simp at h
 |
  cons e ds ih =>
  unfold apartDsts at hd
  rw [Bool.and_eq_true, Bool.or_eq_true] at hd
  intro a xs i d v hl h
  cases xs with
  | nil => simp at hl
  |
   cons x xs =>
   cases i with
   |
    zero =>
    simp only [List.getElem?_cons_zero, Option.some.injEq] at h
    subst h
    show (fill (a.put e x) ds xs).put e v = fill (a.put e v) ds xs
    rw [fill_swap ds _ _ _ _ (by
                  rcases hd.1 with h | h; · left; simpa using h
                  ·right; simpa using h)]
    cases e with
    | none => rfl
    | some e => rw [put_twice]
   |
    succ i =>
    show (fill (a.put e x) ds xs).put d v = fill (a.put e x) ds (xs.set i v)
    exact ih hd.2 _ _ _ _ _ (by simpa using hl) (by simpa using h)
theorem fill_self (ds : List (Option Nat)) : ∀ (a : Act), fill a ds (ds.map fun d => match d with | some t => a.tmps.getD t undef | none => undef) = a := by
 induction ds with
 | nil => intro a; rfl
 |
  cons d ds ih =>
  intro a
  have e : a.put d (match d with | some t => a.tmps.getD t undef | none => undef) = a := by
   cases d with
   | none => rfl
   |
    some t =>
    obtain ⟨T, D⟩ := a
    simp only [Act.put, Act.mk.injEq, and_true]
    apply Array.ext_getElem?
    intro j
    rw [Array.getElem?_setIfInBounds]
    split
    ·rename_i h
     subst h
     split
     ·rename_i h2; simp [Array.getD, h2]
     ·rename_i h2; rw [Array.getElem?_eq_none (by omega)]
    ·rfl
  show fill (a.put d _) ds _ = a
  rw [e]
  exact ih a

def regionOk (ops : Array Oper) : Bool :=
 apartDsts (ops.toList.map (·.dst)) && (List.range ops.size).all fun i => ((ops[i]?).map fun o => o.after.all fun e => decide (e.on < i)).getD false

def At (Ps : List (Value → World → Prop)) (i : Nat) (v : Value) (w : World) : Prop := ∀ p, Ps[i]? = some p → p v w
def origs (a : Act) (ds : List (Option Nat)) : List Value := ds.map fun d => match d with | some t => a.tmps.getD t undef | none => undef

def covers (o : Oper) (i n : Nat) : Bool := (List.range n).all fun j => j == i || o.after.any fun e => Region.binds .any e && e.on == j
def cnt (n : Nat) (L : Array Bool) : Nat := (List.range n).countP fun i => L.getD i false
theorem cnt_set {n : Nat} {L : Array Bool} {i : Nat} (hi : i < n) (hs : L.size = n) (h : L.getD i true = false) : cnt n (L.setIfInBounds i true) = cnt n L + 1 := by
 have h' : L.getD i false = false := by
  simp only [Array.getD] at h ⊢
  split at h
  ·rename_i h2; rw [dif_pos h2]; exact h
  ·cases h
 have key : ∀ l : List Nat, l.Nodup → (l.countP fun j => (L.setIfInBounds i true).getD j false) = (l.countP fun j => L.getD j false) + (if i ∈ l then 1 else 0) := by
  intro l
  induction l with
  | nil => intro _; simp
  |
   cons x l ih =>
   intro hn
   rw [List.nodup_cons] at hn
   rw [List.countP_cons, List.countP_cons, ih hn.2]
   by_cases e : x = i
   ·subst e
    have h1 : (L.setIfInBounds x true).getD x false = true := by simp [Array.getD, hs, hi]
    rw [if_neg hn.1, h1, h', if_pos (by simp)]; simp
   ·have h1 : (L.setIfInBounds i true).getD x false = L.getD x false := by
     have e' : ¬ i = x := fun h => e h.symm
     simp only [Array.getD, Array.size_setIfInBounds]
     split
     ·rename_i hx
      show (L.setIfInBounds i true)[x]'_ = L[x]'_
      rw [Array.getElem_setIfInBounds (by simpa using hx), if_neg e']
     ·rfl
    rw [h1]
    have h2 : (i ∈ x :: l) ↔ i ∈ l := by simp [Ne.symm e]
    simp only [h2]; omega
 unfold cnt
 rw [key _ List.nodup_range, if_pos (by simpa using hi)]
theorem cnt_lt {n : Nat} {L : Array Bool} {i : Nat} (hi : i < n) (h : L.getD i false = false) : cnt n L < n := by
 unfold cnt
 have h1 := List.countP_le_length (p := fun i => L.getD i false) (l := List.range n)
 have h2 : ¬ (List.range n).countP (fun i => L.getD i false) = (List.range n).length := fun e => by
  have := List.countP_eq_length.1 e i (by simpa using hi)
  simp [h] at this
 rw [List.length_range] at h1 h2
 omega

theorem regionOk_after {ops : Array Oper} (h : regionOk ops = true) {i : Nat} {o : Oper} (hi : ops[i]? = some o) : ∀ e ∈ o.after, e.on < i := by
 unfold regionOk at h
 rw [Bool.and_eq_true, List.all_eq_true] at h
 have hlt := (Array.getElem?_eq_some_iff.1 hi).1
 have := h.2 i (by simpa using hlt)
 rw [hi] at this
 simp only [Option.map_some, Option.getD_some, Array.all_eq_true'] at this
 intro e he
 simpa using this e he

theorem getD_ft {L : Array Bool} {i : Nat} (h : L.getD i true = false) : L.getD i false = false := by
 simp only [Array.getD] at h ⊢
 split at h
 ·rename_i h2; rw [dif_pos h2]; exact h
 ·cases h
theorem getD_tf {L : Array Bool} {i : Nat} (hi : i < L.size) (h : L.getD i false = false) : L.getD i true = false := by
 simp only [Array.getD] at h ⊢
 rw [dif_pos hi] at h ⊢; exact h
theorem getD_put {L : Array Bool} {i j : Nat} (hi : i < L.size) : (L.setIfInBounds i true).getD j false = (decide (j = i) || L.getD j false) := by
 simp only [Array.getD, Array.size_setIfInBounds]
 by_cases e : j = i
 ·subst e; rw [dif_pos hi]; simp
 ·have e' : ¬ i = j := fun h => e h.symm
  split
  ·rename_i hx
   show (L.setIfInBounds i true)[j]'_ = _
   rw [Array.getElem_setIfInBounds (by simpa using hx), if_neg e']
   simp [e]
  ·simp [e]

end Go.Proofs.YtlegeancmcmbaaaDoor

/- Lists of a given length. -/
namespace Go.Proofs.YtlegeancmcmbaaaDoor
open Go.RowKit
theorem cons_of_len {n : Nat} {xs : List Value} (h : xs.length = n + 1) : ∃ x t, xs = x :: t ∧ t.length = n := by
 cases xs with
 | nil => simp at h
 | cons x t => exact ⟨x, t, rfl, by simpa using h⟩
theorem len1 {xs : List Value} (h : xs.length = 1) : ∃ x0, xs = [x0] := by
 obtain ⟨x, t, rfl, ht⟩ := cons_of_len (n := 0) h
 exact ⟨x, by rw [List.eq_nil_of_length_eq_zero ht]⟩
theorem len2 {xs : List Value} (h : xs.length = 2) : ∃ x0 x1, xs = [x0, x1] := by
 obtain ⟨x0, t, rfl, ht⟩ := cons_of_len (n := 1) h
 obtain ⟨x1, rfl⟩ := len1 ht
 exact ⟨x0, x1, rfl⟩
theorem len3 {xs : List Value} (h : xs.length = 3) : ∃ x0 x1 x2, xs = [x0, x1, x2] := by
 obtain ⟨x0, t, rfl, ht⟩ := cons_of_len (n := 2) h
 obtain ⟨x1, x2, rfl⟩ := len2 ht
 exact ⟨x0, x1, x2, rfl⟩
theorem len4 {xs : List Value} (h : xs.length = 4) : ∃ x0 x1 x2 x3, xs = [x0, x1, x2, x3] := by
 obtain ⟨x0, t, rfl, ht⟩ := cons_of_len (n := 3) h
 obtain ⟨x1, x2, x3, rfl⟩ := len3 ht
 exact ⟨x0, x1, x2, x3, rfl⟩
theorem len5 {xs : List Value} (h : xs.length = 5) : ∃ x0 x1 x2 x3 x4, xs = [x0, x1, x2, x3, x4] := by
 obtain ⟨x0, t, rfl, ht⟩ := cons_of_len (n := 4) h
 obtain ⟨x1, x2, x3, x4, rfl⟩ := len4 ht
 exact ⟨x0, x1, x2, x3, x4, rfl⟩
theorem len6 {xs : List Value} (h : xs.length = 6) : ∃ x0 x1 x2 x3 x4 x5, xs = [x0, x1, x2, x3, x4, x5] := by
 obtain ⟨x0, t, rfl, ht⟩ := cons_of_len (n := 5) h
 obtain ⟨x1, x2, x3, x4, x5, rfl⟩ := len5 ht
 exact ⟨x0, x1, x2, x3, x4, x5, rfl⟩
theorem len7 {xs : List Value} (h : xs.length = 7) : ∃ x0 x1 x2 x3 x4 x5 x6, xs = [x0, x1, x2, x3, x4, x5, x6] := by
 obtain ⟨x0, t, rfl, ht⟩ := cons_of_len (n := 6) h
 obtain ⟨x1, x2, x3, x4, x5, x6, rfl⟩ := len6 ht
 exact ⟨x0, x1, x2, x3, x4, x5, x6, rfl⟩
theorem len8 {xs : List Value} (h : xs.length = 8) : ∃ x0 x1 x2 x3 x4 x5 x6 x7, xs = [x0, x1, x2, x3, x4, x5, x6, x7] := by
 obtain ⟨x0, t, rfl, ht⟩ := cons_of_len (n := 7) h
 obtain ⟨x1, x2, x3, x4, x5, x6, x7, rfl⟩ := len7 ht
 exact ⟨x0, x1, x2, x3, x4, x5, x6, x7, rfl⟩
theorem len9 {xs : List Value} (h : xs.length = 9) : ∃ x0 x1 x2 x3 x4 x5 x6 x7 x8, xs = [x0, x1, x2, x3, x4, x5, x6, x7, x8] := by
 obtain ⟨x0, t, rfl, ht⟩ := cons_of_len (n := 8) h
 obtain ⟨x1, x2, x3, x4, x5, x6, x7, x8, rfl⟩ := len8 ht
 exact ⟨x0, x1, x2, x3, x4, x5, x6, x7, x8, rfl⟩
theorem len10 {xs : List Value} (h : xs.length = 10) : ∃ x0 x1 x2 x3 x4 x5 x6 x7 x8 x9, xs = [x0, x1, x2, x3, x4, x5, x6, x7, x8, x9] := by
 obtain ⟨x0, t, rfl, ht⟩ := cons_of_len (n := 9) h
 obtain ⟨x1, x2, x3, x4, x5, x6, x7, x8, x9, rfl⟩ := len9 ht
 exact ⟨x0, x1, x2, x3, x4, x5, x6, x7, x8, x9, rfl⟩
theorem len11 {xs : List Value} (h : xs.length = 11) : ∃ x0 x1 x2 x3 x4 x5 x6 x7 x8 x9 x10, xs = [x0, x1, x2, x3, x4, x5, x6, x7, x8, x9, x10] := by
 obtain ⟨x0, t, rfl, ht⟩ := cons_of_len (n := 10) h
 obtain ⟨x1, x2, x3, x4, x5, x6, x7, x8, x9, x10, rfl⟩ := len10 ht
 exact ⟨x0, x1, x2, x3, x4, x5, x6, x7, x8, x9, x10, rfl⟩
theorem len12 {xs : List Value} (h : xs.length = 12) : ∃ x0 x1 x2 x3 x4 x5 x6 x7 x8 x9 x10 x11, xs = [x0, x1, x2, x3, x4, x5, x6, x7, x8, x9, x10, x11] := by
 obtain ⟨x0, t, rfl, ht⟩ := cons_of_len (n := 11) h
 obtain ⟨x1, x2, x3, x4, x5, x6, x7, x8, x9, x10, x11, rfl⟩ := len11 ht
 exact ⟨x0, x1, x2, x3, x4, x5, x6, x7, x8, x9, x10, x11, rfl⟩
theorem len13 {xs : List Value} (h : xs.length = 13) : ∃ x0 x1 x2 x3 x4 x5 x6 x7 x8 x9 x10 x11 x12, xs = [x0, x1, x2, x3, x4, x5, x6, x7, x8, x9, x10, x11, x12] := by
 obtain ⟨x0, t, rfl, ht⟩ := cons_of_len (n := 12) h
 obtain ⟨x1, x2, x3, x4, x5, x6, x7, x8, x9, x10, x11, x12, rfl⟩ := len12 ht
 exact ⟨x0, x1, x2, x3, x4, x5, x6, x7, x8, x9, x10, x11, x12, rfl⟩
theorem len14 {xs : List Value} (h : xs.length = 14) : ∃ x0 x1 x2 x3 x4 x5 x6 x7 x8 x9 x10 x11 x12 x13, xs = [x0, x1, x2, x3, x4, x5, x6, x7, x8, x9, x10, x11, x12, x13] := by
 obtain ⟨x0, t, rfl, ht⟩ := cons_of_len (n := 13) h
 obtain ⟨x1, x2, x3, x4, x5, x6, x7, x8, x9, x10, x11, x12, x13, rfl⟩ := len13 ht
 exact ⟨x0, x1, x2, x3, x4, x5, x6, x7, x8, x9, x10, x11, x12, x13, rfl⟩
theorem len15 {xs : List Value} (h : xs.length = 15) : ∃ x0 x1 x2 x3 x4 x5 x6 x7 x8 x9 x10 x11 x12 x13 x14, xs = [x0, x1, x2, x3, x4, x5, x6, x7, x8, x9, x10, x11, x12, x13, x14] := by
 obtain ⟨x0, t, rfl, ht⟩ := cons_of_len (n := 14) h
 obtain ⟨x1, x2, x3, x4, x5, x6, x7, x8, x9, x10, x11, x12, x13, x14, rfl⟩ := len14 ht
 exact ⟨x0, x1, x2, x3, x4, x5, x6, x7, x8, x9, x10, x11, x12, x13, x14, rfl⟩
theorem len16 {xs : List Value} (h : xs.length = 16) : ∃ x0 x1 x2 x3 x4 x5 x6 x7 x8 x9 x10 x11 x12 x13 x14 x15, xs = [x0, x1, x2, x3, x4, x5, x6, x7, x8, x9, x10, x11, x12, x13, x14, x15] := by
 obtain ⟨x0, t, rfl, ht⟩ := cons_of_len (n := 15) h
 obtain ⟨x1, x2, x3, x4, x5, x6, x7, x8, x9, x10, x11, x12, x13, x14, x15, rfl⟩ := len15 ht
 exact ⟨x0, x1, x2, x3, x4, x5, x6, x7, x8, x9, x10, x11, x12, x13, x14, x15, rfl⟩
theorem len17 {xs : List Value} (h : xs.length = 17) : ∃ x0 x1 x2 x3 x4 x5 x6 x7 x8 x9 x10 x11 x12 x13 x14 x15 x16, xs = [x0, x1, x2, x3, x4, x5, x6, x7, x8, x9, x10, x11, x12, x13, x14, x15, x16] := by
 obtain ⟨x0, t, rfl, ht⟩ := cons_of_len (n := 16) h
 obtain ⟨x1, x2, x3, x4, x5, x6, x7, x8, x9, x10, x11, x12, x13, x14, x15, x16, rfl⟩ := len16 ht
 exact ⟨x0, x1, x2, x3, x4, x5, x6, x7, x8, x9, x10, x11, x12, x13, x14, x15, x16, rfl⟩
theorem len18 {xs : List Value} (h : xs.length = 18) : ∃ x0 x1 x2 x3 x4 x5 x6 x7 x8 x9 x10 x11 x12 x13 x14 x15 x16 x17, xs = [x0, x1, x2, x3, x4, x5, x6, x7, x8, x9, x10, x11, x12, x13, x14, x15, x16, x17] := by
 obtain ⟨x0, t, rfl, ht⟩ := cons_of_len (n := 17) h
 obtain ⟨x1, x2, x3, x4, x5, x6, x7, x8, x9, x10, x11, x12, x13, x14, x15, x16, x17, rfl⟩ := len17 ht
 exact ⟨x0, x1, x2, x3, x4, x5, x6, x7, x8, x9, x10, x11, x12, x13, x14, x15, x16, x17, rfl⟩
theorem len19 {xs : List Value} (h : xs.length = 19) : ∃ x0 x1 x2 x3 x4 x5 x6 x7 x8 x9 x10 x11 x12 x13 x14 x15 x16 x17 x18, xs = [x0, x1, x2, x3, x4, x5, x6, x7, x8, x9, x10, x11, x12, x13, x14, x15, x16, x17, x18] := by
 obtain ⟨x0, t, rfl, ht⟩ := cons_of_len (n := 18) h
 obtain ⟨x1, x2, x3, x4, x5, x6, x7, x8, x9, x10, x11, x12, x13, x14, x15, x16, x17, x18, rfl⟩ := len18 ht
 exact ⟨x0, x1, x2, x3, x4, x5, x6, x7, x8, x9, x10, x11, x12, x13, x14, x15, x16, x17, x18, rfl⟩
theorem len20 {xs : List Value} (h : xs.length = 20) : ∃ x0 x1 x2 x3 x4 x5 x6 x7 x8 x9 x10 x11 x12 x13 x14 x15 x16 x17 x18 x19, xs = [x0, x1, x2, x3, x4, x5, x6, x7, x8, x9, x10, x11, x12, x13, x14, x15, x16, x17, x18, x19] := by
 obtain ⟨x0, t, rfl, ht⟩ := cons_of_len (n := 19) h
 obtain ⟨x1, x2, x3, x4, x5, x6, x7, x8, x9, x10, x11, x12, x13, x14, x15, x16, x17, x18, x19, rfl⟩ := len19 ht
 exact ⟨x0, x1, x2, x3, x4, x5, x6, x7, x8, x9, x10, x11, x12, x13, x14, x15, x16, x17, x18, x19, rfl⟩
theorem len21 {xs : List Value} (h : xs.length = 21) : ∃ x0 x1 x2 x3 x4 x5 x6 x7 x8 x9 x10 x11 x12 x13 x14 x15 x16 x17 x18 x19 x20, xs = [x0, x1, x2, x3, x4, x5, x6, x7, x8, x9, x10, x11, x12, x13, x14, x15, x16, x17, x18, x19, x20] := by
 obtain ⟨x0, t, rfl, ht⟩ := cons_of_len (n := 20) h
 obtain ⟨x1, x2, x3, x4, x5, x6, x7, x8, x9, x10, x11, x12, x13, x14, x15, x16, x17, x18, x19, x20, rfl⟩ := len20 ht
 exact ⟨x0, x1, x2, x3, x4, x5, x6, x7, x8, x9, x10, x11, x12, x13, x14, x15, x16, x17, x18, x19, x20, rfl⟩
theorem len22 {xs : List Value} (h : xs.length = 22) : ∃ x0 x1 x2 x3 x4 x5 x6 x7 x8 x9 x10 x11 x12 x13 x14 x15 x16 x17 x18 x19 x20 x21, xs = [x0, x1, x2, x3, x4, x5, x6, x7, x8, x9, x10, x11, x12, x13, x14, x15, x16, x17, x18, x19, x20, x21] := by
 obtain ⟨x0, t, rfl, ht⟩ := cons_of_len (n := 21) h
 obtain ⟨x1, x2, x3, x4, x5, x6, x7, x8, x9, x10, x11, x12, x13, x14, x15, x16, x17, x18, x19, x20, x21, rfl⟩ := len21 ht
 exact ⟨x0, x1, x2, x3, x4, x5, x6, x7, x8, x9, x10, x11, x12, x13, x14, x15, x16, x17, x18, x19, x20, x21, rfl⟩
theorem len23 {xs : List Value} (h : xs.length = 23) : ∃ x0 x1 x2 x3 x4 x5 x6 x7 x8 x9 x10 x11 x12 x13 x14 x15 x16 x17 x18 x19 x20 x21 x22, xs = [x0, x1, x2, x3, x4, x5, x6, x7, x8, x9, x10, x11, x12, x13, x14, x15, x16, x17, x18, x19, x20, x21, x22] := by
 obtain ⟨x0, t, rfl, ht⟩ := cons_of_len (n := 22) h
 obtain ⟨x1, x2, x3, x4, x5, x6, x7, x8, x9, x10, x11, x12, x13, x14, x15, x16, x17, x18, x19, x20, x21, x22, rfl⟩ := len22 ht
 exact ⟨x0, x1, x2, x3, x4, x5, x6, x7, x8, x9, x10, x11, x12, x13, x14, x15, x16, x17, x18, x19, x20, x21, x22, rfl⟩
theorem len24 {xs : List Value} (h : xs.length = 24) : ∃ x0 x1 x2 x3 x4 x5 x6 x7 x8 x9 x10 x11 x12 x13 x14 x15 x16 x17 x18 x19 x20 x21 x22 x23, xs = [x0, x1, x2, x3, x4, x5, x6, x7, x8, x9, x10, x11, x12, x13, x14, x15, x16, x17, x18, x19, x20, x21, x22, x23] := by
 obtain ⟨x0, t, rfl, ht⟩ := cons_of_len (n := 23) h
 obtain ⟨x1, x2, x3, x4, x5, x6, x7, x8, x9, x10, x11, x12, x13, x14, x15, x16, x17, x18, x19, x20, x21, x22, x23, rfl⟩ := len23 ht
 exact ⟨x0, x1, x2, x3, x4, x5, x6, x7, x8, x9, x10, x11, x12, x13, x14, x15, x16, x17, x18, x19, x20, x21, x22, x23, rfl⟩
theorem len25 {xs : List Value} (h : xs.length = 25) : ∃ x0 x1 x2 x3 x4 x5 x6 x7 x8 x9 x10 x11 x12 x13 x14 x15 x16 x17 x18 x19 x20 x21 x22 x23 x24, xs = [x0, x1, x2, x3, x4, x5, x6, x7, x8, x9, x10, x11, x12, x13, x14, x15, x16, x17, x18, x19, x20, x21, x22, x23, x24] := by
 obtain ⟨x0, t, rfl, ht⟩ := cons_of_len (n := 24) h
 obtain ⟨x1, x2, x3, x4, x5, x6, x7, x8, x9, x10, x11, x12, x13, x14, x15, x16, x17, x18, x19, x20, x21, x22, x23, x24, rfl⟩ := len24 ht
 exact ⟨x0, x1, x2, x3, x4, x5, x6, x7, x8, x9, x10, x11, x12, x13, x14, x15, x16, x17, x18, x19, x20, x21, x22, x23, x24, rfl⟩
theorem len26 {xs : List Value} (h : xs.length = 26) : ∃ x0 x1 x2 x3 x4 x5 x6 x7 x8 x9 x10 x11 x12 x13 x14 x15 x16 x17 x18 x19 x20 x21 x22 x23 x24 x25, xs = [x0, x1, x2, x3, x4, x5, x6, x7, x8, x9, x10, x11, x12, x13, x14, x15, x16, x17, x18, x19, x20, x21, x22, x23, x24, x25] := by
 obtain ⟨x0, t, rfl, ht⟩ := cons_of_len (n := 25) h
 obtain ⟨x1, x2, x3, x4, x5, x6, x7, x8, x9, x10, x11, x12, x13, x14, x15, x16, x17, x18, x19, x20, x21, x22, x23, x24, x25, rfl⟩ := len25 ht
 exact ⟨x0, x1, x2, x3, x4, x5, x6, x7, x8, x9, x10, x11, x12, x13, x14, x15, x16, x17, x18, x19, x20, x21, x22, x23, x24, x25, rfl⟩
theorem len27 {xs : List Value} (h : xs.length = 27) : ∃ x0 x1 x2 x3 x4 x5 x6 x7 x8 x9 x10 x11 x12 x13 x14 x15 x16 x17 x18 x19 x20 x21 x22 x23 x24 x25 x26, xs = [x0, x1, x2, x3, x4, x5, x6, x7, x8, x9, x10, x11, x12, x13, x14, x15, x16, x17, x18, x19, x20, x21, x22, x23, x24, x25, x26] := by
 obtain ⟨x0, t, rfl, ht⟩ := cons_of_len (n := 26) h
 obtain ⟨x1, x2, x3, x4, x5, x6, x7, x8, x9, x10, x11, x12, x13, x14, x15, x16, x17, x18, x19, x20, x21, x22, x23, x24, x25, x26, rfl⟩ := len26 ht
 exact ⟨x0, x1, x2, x3, x4, x5, x6, x7, x8, x9, x10, x11, x12, x13, x14, x15, x16, x17, x18, x19, x20, x21, x22, x23, x24, x25, x26, rfl⟩
end Go.Proofs.YtlegeancmcmbaaaDoor

/- The drawing of inputs: the reader. -/
namespace Go.Proofs.YtlegeancmcmbaaaDoor
open Go.RowKit

structure Rd (w : World) (rb : Nat) (p : Nat) : Prop where
 mk ::
 ex : ∃ (a : Option Addr) (l : List UInt8) (cap : Nat) (fp : List Nat), w.heap[rb]? = some (.cells #[.slice a l.length cap, .int .i64 p] 71 (0, 0)) ∧ (sSlice sByte).R w [.slice a l.length cap] l fp ∧ Under rb fp ∧ l.length ≤ 2000
 hp : p ≤ 1000000

theorem Rd.step {w : World} {rb p : Nat} (H : Rd w rb p) (hp : p < 1000000) : Rd (w.setCell ⟨rb, 1, none⟩ (.int .i64 ((p : Int) + 1))) rb (p + 1) ∧ Kept [rb] w (w.setCell ⟨rb, 1, none⟩ (.int .i64 ((p : Int) + 1))) := by
 obtain ⟨⟨a, l, cap, fp, hb, hr, hu, hl⟩, hp'⟩ := H
 have hk : Kept [rb] w (w.setCell ⟨rb, 1, none⟩ (.int .i64 ((p : Int) + 1))) := (Kept.refl _ _).setCell (by simp) _
 refine ⟨⟨⟨a, l, cap, fp, ?_, (sSlice sByte).kept hr (fun b hb' => by have := hu b hb'; simp; omega) hk, hu, hl⟩, by omega⟩, hk⟩
 simp [World.setCell, Array.getElem?_modify, hb]

def Picked (rb p : Nat) (n : Int) (w : World) (e : Ending) (w' : World) : Prop :=
 ∃ r : Int, e = .returned (.int .i64 r) ∧ 0 ≤ r ∧ (r < n ∨ n < 1 ∧ r = 0) ∧ Rd w' rb (p + 1) ∧ Kept [rb] w w'

theorem Picked.of {rb p : Nat} {n r : Int} {w : World} (H : Rd w rb p) (hp : p < 1000000) (h0 : 0 ≤ r) (h1 : r < n ∨ n < 1 ∧ r = 0) (m : Nat) :
  Picked rb p n w (.returned (.int .i64 r)) ((w.setCell ⟨rb, 1, none⟩ (.int .i64 ((p : Int) + 1))).drewN m) :=
 ⟨r, rfl, h0, h1, ⟨(H.step hp).1.ex, (H.step hp).1.hp⟩, (H.step hp).2.drewN m⟩

theorem xor_i64_nonneg (a b : Nat) (ha : a < 4611686018427387904) (hb : b < 4611686018427387904) : 0 ≤ bits .xor .i64 (a : Int) (b : Int) := by
 have hx : a ^^^ b < 2 ^ 62 := Nat.xor_lt_two_pow (by omega) (by omega)
 have h1 : (BitVec.ofInt 64 (a : Int)).toNat = a := by
  rw [BitVec.ofInt_natCast, BitVec.toNat_ofNat]; exact Nat.mod_eq_of_lt (by omega)
 have h2 : (BitVec.ofInt 64 (b : Int)).toNat = b := by
  rw [BitVec.ofInt_natCast, BitVec.toNat_ofNat]; exact Nat.mod_eq_of_lt (by omega)
 show 0 ≤ IntKind.i64.wrap ((BitVec.ofInt 64 (a : Int) ^^^ BitVec.ofInt 64 (b : Int)).toNat : Int)
 rw [BitVec.toNat_xor, h1, h2, IntWalk.i64_in _ (by omega)]
 omega
theorem xor_pick {X : Int} (h : 0 ≤ X ∧ X ≤ 1000000000) : 0 ≤ bits .xor .i64 X (X / 64) := by
 obtain ⟨x, rfl⟩ := Int.eq_ofNat_of_zero_le h.1
 have := xor_i64_nonneg x (x / 64) (by omega) (by omega)
 simpa using this
theorem wrap_byte (b : UInt8) : 0 ≤ wrap64 (b.toNat : Int) ∧ wrap64 (b.toNat : Int) ≤ 255 := by
 have := b.toNat_lt
 rw [show wrap64 (b.toNat : Int) = (b.toNat : Int) from by unfold wrap64; omega]
 omega
theorem rem_pick {x n : Int} (h : 0 ≤ x) (hn : 1 ≤ n) : 0 ≤ x.tmod n ∧ x.tmod n < n := by
 rw [Int.tmod_eq_emod_of_nonneg h]
 exact ⟨Int.emod_nonneg _ (by omega), Int.emod_lt_of_pos _ (by omega)⟩

set_option maxHeartbeats 2000000 in
theorem pick (rb p : Nat) (n : Int) (w : World) (H : Rd w rb p) (hp : p < 1000000) (hn : n ≤ 1000000) (hn0 : -1000000 ≤ n) :
  Calls Tryd.prog 29 #[.pointer (some ⟨rb, 0, none⟩), .int .i64 n] w (Picked rb p n w) := by
 have HP := fun (r : Int) h0 h1 m => Picked.of (n := n) (r := r) H hp h0 h1 m
 have HH := Lib.hid HP; clear HP
 obtain ⟨⟨a, l, cap, fp, hb, hr, hu, hl⟩, _⟩ := H
 have h0 : w.cell? ⟨rb, 0, none⟩ = some (.slice a l.length cap) := by simp [World.cell?, hb]
 have h1 : w.cell? ⟨rb, 1, none⟩ = some (.int .i64 p) := by simp [World.cell?, hb]
 have hf : w.frozen? ⟨rb, 1, none⟩ = false := by simp [World.frozen?, hb]
 clear hb
 obtain ⟨_, _, hv, _, _, hcell, _⟩ := open_flat hr
 simp only [Value.slice.injEq] at hv
 obtain ⟨rfl, _, rfl⟩ := hv
 clear hr
 by_cases hn1 : n < 1
 ·go_enter Tryd.func29, Tryd.ntmps29
  go_wp2
  go_ret
  exact HH.out 0 (by omega) (.inr ⟨hn1, rfl⟩) 0
 by_cases hl0 : l.length = 0
 ·have hl1 : ((l.length : Int) == 0) = true := by simp [hl0]
  go_enter Tryd.func29, Tryd.ntmps29
  go_wp2
  go_ret
  exact HH.out 0 (by omega) (.inl (by omega)) 0
 obtain ⟨b, off, rfl, hbw, hbf, hc⟩ := hcell (by omega)
 clear hcell
 have hlt := hu b hbf
 have hne : ¬ rb = b := by omega
 have hl1 : ((l.length : Int) == 0) = false := beq_eq_false_iff_ne.2 (by omega)
 by_cases hk : p < l.length
 ·have hcp := hc p hk
  simp only [encByte] at hcp
  have HZ := Lib.hid (rem_pick (wrap_byte l[p]).1 (show 1 ≤ n by omega))
  clear hc
  go_enter Tryd.func29, Tryd.ntmps29
  go_wp2
  go_ret
  exact HH.out _ HZ.out.1 (.inl HZ.out.2) 0
 ·obtain ⟨i1, hi1⟩ : ∃ i, i = p % l.length := ⟨_, rfl⟩
  obtain ⟨m3, hm3⟩ : ∃ m, m = p * 7 + 3 := ⟨_, rfl⟩
  obtain ⟨i2, hi2⟩ : ∃ i, i = m3 % l.length := ⟨_, rfl⟩
  obtain ⟨q1, hq1⟩ : ∃ q, q = p / l.length := ⟨_, rfl⟩
  have hi1l : i1 < l.length := by rw [hi1]; exact Nat.mod_lt _ (by omega)
  have hi2l : i2 < l.length := by rw [hi2]; exact Nat.mod_lt _ (by omega)
  have hq1l : q1 ≤ p := by rw [hq1]; exact Nat.div_le_self _ _
  obtain ⟨c1, hd1, hd2, hc1⟩ : ∃ c : Int, 0 ≤ c ∧ c ≤ 255 ∧ w.cell? ⟨b, off + i1, none⟩ = some (.int .u8 c) := ⟨_, by omega, by have := l[i1].toNat_lt; omega, hc i1 hi1l⟩
  obtain ⟨c2, hd3, hd4, hc2⟩ : ∃ c : Int, 0 ≤ c ∧ c ≤ 255 ∧ w.cell? ⟨b, off + i2, none⟩ = some (.int .u8 c) := ⟨_, by omega, by have := l[i2].toNat_lt; omega, hc i2 hi2l⟩
  have e1 : IntKind.i64.wrap ((p : Int).tmod (l.length : Int)) = (i1 : Int) := by
   rw [Int.tmod_eq_emod_of_nonneg (by omega), ← Int.natCast_emod, ← hi1]; exact IntWalk.i64_in _ (by omega)
  have e3 : IntKind.i64.wrap ((p : Int) * 7) = (p : Int) * 7 := IntWalk.i64_in _ (by omega)
  have e4 : IntKind.i64.wrap ((p : Int) * 7 + 3) = (m3 : Int) := by rw [IntWalk.i64_in _ (by omega)]; omega
  have e5 : IntKind.i64.wrap ((m3 : Int).tmod (l.length : Int)) = (i2 : Int) := by
   rw [Int.tmod_eq_emod_of_nonneg (by omega), ← Int.natCast_emod, ← hi2]; exact IntWalk.i64_in _ (by omega)
  have e6 : IntKind.i64.wrap c1 = c1 := IntWalk.i64_in _ (by omega)
  have e7 : IntKind.i64.wrap c2 = c2 := IntWalk.i64_in _ (by omega)
  have e8 : IntKind.i64.wrap (c1 * 131) = c1 * 131 := IntWalk.i64_in _ (by omega)
  have e9 : IntKind.i64.wrap (c2 * 1117) = c2 * 1117 := IntWalk.i64_in _ (by omega)
  have e10 : IntKind.i64.wrap (c1 * 131 + c2 * 1117) = c1 * 131 + c2 * 1117 := IntWalk.i64_in _ (by omega)
  have e11 : IntKind.i64.wrap ((p : Int) * 29) = (p : Int) * 29 := IntWalk.i64_in _ (by omega)
  have e12 : IntKind.i64.wrap (c1 * 131 + c2 * 1117 + (p : Int) * 29) = c1 * 131 + c2 * 1117 + (p : Int) * 29 := IntWalk.i64_in _ (by omega)
  have e13 : IntKind.i64.wrap ((p : Int).tdiv (l.length : Int)) = (q1 : Int) := by
   rw [Int.tdiv_eq_ediv_of_nonneg (by omega), ← Int.natCast_ediv, ← hq1]; exact IntWalk.i64_in _ (by omega)
  have e14 : IntKind.i64.wrap ((q1 : Int) * 53) = (q1 : Int) * 53 := IntWalk.i64_in _ (by omega)
  obtain ⟨X, hX⟩ : ∃ X : Int, X = c1 * 131 + c2 * 1117 + (p : Int) * 29 + (q1 : Int) * 53 := ⟨_, rfl⟩
  have hX0 : 0 ≤ X ∧ X ≤ 1000000000 := by omega
  have e15 : IntKind.i64.wrap (c1 * 131 + c2 * 1117 + (p : Int) * 29 + (q1 : Int) * 53) = X := by rw [← hX]; exact IntWalk.i64_in _ (by omega)
  have f1 : (p : Int) % (l.length : Int) = (i1 : Int) := by rw [hi1, Int.natCast_emod]
  have f2 : ((p : Int) * 7 + 3) % (l.length : Int) = (i2 : Int) := by rw [hi2, hm3, Int.natCast_emod]; rfl
  have f3 : (m3 : Int) % (l.length : Int) = (i2 : Int) := by rw [hi2, Int.natCast_emod]
  have f4 : (p : Int) / (l.length : Int) = (q1 : Int) := by rw [hq1, Int.natCast_ediv]
  have f5 := hX.symm
  have HX := Lib.hid hX0
  clear hX0 hX hi1 hm3 hi2 hq1 hc
  go_enter Tryd.func29, Tryd.ntmps29
  go_wp2
  go_quiet (fail)
  clear f1 f2 f3 f4 f5 e1 e3 e4 e5 e6 e7 e8 e9 e10 e11 e12 e13 e14 e15
  have hX0 := HX.out
  go_wp2
  go_ret
  have hr := rem_pick (xor_pick HX.out) (show 1 ≤ n by omega)
  exact HH.out _ hr.1 (.inl hr.2) _

def Odd (rb p : Nat) (w : World) (e : Ending) (w' : World) : Prop := ∃ b : Bool, ∃ q : Nat, e = .returned (.bool b) ∧ p ≤ q ∧ q ≤ p + 1 ∧ Rd w' rb q ∧ Kept [rb] w w'

set_option maxHeartbeats 1000000 in
theorem odd (rb p : Nat) (n : Int) (w : World) (H : Rd w rb p) (hp : p < 1000000) (hn : n ≤ 1000000) (hn0 : 0 ≤ n) :
  Calls Tryd.prog 33 #[.pointer (some ⟨rb, 0, none⟩), .int .i64 n] w (Odd rb p w) := by
 by_cases h0 : 0 < n
 ·go_enter Tryd.func33, Tryd.ntmps33
  go_wp2_with (go_at_call 29; refine (pick _ _ _ _ H hp hn (by omega)).mono ?_; rintro e w' ⟨r, rfl, hr0, hr1, hr2, hr3⟩)
  go_ret
  exact ⟨_, p + 1, rfl, by omega, by omega, hr2, hr3⟩
 ·have e0 : n = 0 := by omega
  subst e0
  go_enter Tryd.func33, Tryd.ntmps33
  go_wp2
  go_ret
  exact ⟨_, p, rfl, by omega, by omega, H, Kept.refl _ _⟩

end Go.Proofs.YtlegeancmcmbaaaDoor

/- The drawing of inputs: readers, and texts out of a list. -/
namespace Go.Proofs.YtlegeancmcmbaaaDoor
open Go.RowKit

theorem Rd.grow {w w' : World} {rb p : Nat} (H : Rd w rb p) (hb : Below w.heap.size w w') : Rd w' rb p := by
 obtain ⟨⟨a, l, cap, fp, h1, h2, h3, h4⟩, h5⟩ := H
 exact ⟨⟨a, l, cap, fp, (hb.block rb (Array.getElem?_eq_some_iff.1 h1).1).trans h1, (sSlice sByte).below h2 hb, h3, h4⟩, h5⟩
theorem Rd.lt {w : World} {rb p : Nat} (H : Rd w rb p) : rb < w.heap.size := by
 obtain ⟨⟨a, l, cap, fp, h1, h2, h3, h4⟩, h5⟩ := H
 exact (Array.getElem?_eq_some_iff.1 h1).1
theorem kept_below {B rb : Nat} {w0 w w' : World} (hb : Below B w0 w) (hk : Kept [rb] w w') (hr : B ≤ rb) (hs : B ≤ w.heap.size) : Below B w0 w' :=
 hb.trans (hk.below (fun b hb => by
  obtain rfl : b = rb := by simpa using hb
  exact hr) hs)

theorem lit_get (L : List ByteArray) (r : Int) (h0 : 0 ≤ r) (h1 : r < L.length) : ∃ s, s ∈ L ∧ ∀ A : Array Value, A = (L.map Value.string).toArray → A[r.toNat]? = some (.string s) := by
 have h : r.toNat < L.length := by omega
 refine ⟨L[r.toNat], List.getElem_mem h, ?_⟩
 rintro A rfl
 simp [List.getElem?_eq_getElem h]

theorem Kept.cell {fp : List Nat} {w w' : World} (hk : Kept fp w w') {p : Addr} (h1 : p.block < w.heap.size) (h2 : p.block ∉ fp) : w'.cell? p = w.cell? p :=
 World.cell?_of_block (hk.block p.block h1 h2)
theorem lit_pick (L : List ByteArray) (M : Nat) (hM : ∀ s ∈ L, s.size ≤ M) {rb : Nat} {wr w2 : World} {r : Int} (h0 : 0 ≤ r) (h1 : r < L.length) (hr : rb < wr.heap.size) (hK : Kept [rb] (wr.alloc (.cells (L.map Value.string).toArray 9)) w2) :
  ∃ s : ByteArray, s.size ≤ M ∧ w2.cell? ⟨wr.heap.size, r.toNat, none⟩ = some (.string s) := by
 obtain ⟨s, hs, hl⟩ := lit_get L r h0 h1
 refine ⟨s, hM s hs, ?_⟩
 rw [hK.cell (p := ⟨wr.heap.size, r.toNat, none⟩) (by simp) (by simp; omega), World.cell?_alloc_at _ _ _ _ rfl]
 exact hl _ rfl
def Opened (B : Nat) (w0 : World) (e : Ending) (w' : World) : Prop := ∃ rb, e = .returned (.pointer (some ⟨rb, 0, none⟩)) ∧ B ≤ rb ∧ Rd w' rb 0 ∧ Below B w0 w'

theorem slice_take {α : Type} {S : Shape α} {w : World} {a : Option Addr} {cap : Nat} {l : List α} {fp : List Nat} (n : Nat) (hn : n ≤ l.length) (H : (sSlice S).R w [.slice a l.length cap] l fp) :
  ∃ fp', (sSlice S).R w [.slice a n cap] (l.take n) fp' ∧ ∀ b ∈ fp', b ∈ fp := by
 obtain ⟨a', cap', hv, hc, hm, h⟩ := H
 simp only [List.cons.injEq, Value.slice.injEq, and_true, true_and] at hv
 obtain ⟨rfl, rfl⟩ := hv
 have hl : (l.take n).length = n := by simp; omega
 by_cases h0 : n = 0
 ·subst h0
  exact ⟨[], ⟨a, cap, by simp, by simp, hm, .inl ⟨by simp, rfl⟩⟩, by simp⟩
 ·rcases h with ⟨rfl, _⟩ | ⟨_, b, off, fps, ha, rfl, hb, he⟩
  ·simp at hn; omega
  ·refine ⟨b :: (List.range n).flatMap fps, ⟨a, cap, by rw [hl], by omega, hm, .inr ⟨by omega, b, off, fps, ha, by rw [hl], hb, fun i hi => ?_⟩⟩, ?_⟩
   ·rw [hl] at hi
    obtain ⟨es, h1, h2⟩ := he i (by omega)
    exact ⟨es, h1, by rw [List.getElem_take]; exact h2⟩
   ·intro x hx
    rcases List.mem_cons.1 hx with rfl | hx
    ·simp
    ·obtain ⟨i, hi, hx⟩ := List.mem_flatMap.1 hx
     refine List.mem_cons_of_mem _ (List.mem_flatMap.2 ⟨i, ?_, hx⟩)
     simp only [List.mem_range] at hi ⊢
     omega

theorem Opened.of {v : Value} {l : List UInt8} {a : Option Addr} {cap : Nat} {fp : List Nat} {w : World} (hv : v = .slice a l.length cap) (H : (sSlice sByte).R w [v] l fp) (hl : l.length ≤ 2000) :
  Opened w.heap.size w (.returned (.pointer (some ⟨w.heap.size, 0, none⟩))) (w.alloc (.cells #[v, .int .i64 0] 71)) := by
 subst hv
 have hb : Below w.heap.size w (w.alloc (.cells #[.slice a l.length cap, .int .i64 0] 71)) := (Below.refl _ _).alloc (Nat.le_refl _) _
 refine ⟨w.heap.size, rfl, Nat.le_refl _, ⟨⟨a, l, cap, fp, ?_, (sSlice sByte).below H hb, (sSlice sByte).lt H, hl⟩, by omega⟩, hb⟩
 show (w.heap.push _)[w.heap.size]? = _
 simp

set_option maxHeartbeats 1000000 in
theorem l20Open (v : Value) (l : List UInt8) (fp : List Nat) (w : World) (H : (sSlice sByte).R w [v] l fp) :
  Calls Tryd.prog 28 #[v] w (Opened w.heap.size w) := by
 obtain ⟨a, cap, hv, hc, hm, h⟩ := H
 obtain rfl : v = .slice a l.length cap := by simpa using hv
 unfold maxLen at hm
 by_cases hl : 2000 < l.length
 ·obtain ⟨fp', h', _⟩ := slice_take (S := sByte) 2000 (by omega) ⟨a, cap, rfl, hc, hm, h⟩
  have HO := Lib.hid (fun v hv (h : (sSlice sByte).R w [v] (l.take 2000) fp') => Opened.of (v := v) (a := a) (cap := cap) hv h (by simp; omega))
  go_enter Tryd.func28, Tryd.ntmps28
  go_wp2
  go_ret
  exact HO.out _ (by rw [List.length_take, Nat.min_eq_left (by omega)]) h'
 ·have HO := Lib.hid (Opened.of (v := .slice a l.length cap) rfl ⟨a, cap, rfl, hc, hm, h⟩ (by omega))
  go_enter Tryd.func28, Tryd.ntmps28
  go_wp2
  go_ret
  exact HO.out

end Go.Proofs.YtlegeancmcmbaaaDoor
