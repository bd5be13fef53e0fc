/- Texts that the proof of P stands on, in one file. -/
import Derived.Test.YtlegeancmcmbaaaDoorZP5
import Derived.Test.YtlegeancmcmbaaaDoorZP10
import Derived.OwnWalk
import Derived.IntWalk
import Derived.Test.YtlegeancmcmbaaaDoorZP3
import Derived.Test.YtlegeancmcmbaaaDoorZP1
import Derived.Test.YtlegeancmcmbaaaDoorZP6
import Derived.Test.YtlegeancmcmbaaaDoorZP7
set_option linter.unusedVariables false
set_option linter.unusedSimpArgs false
/- Rows of the call's own whose elements may read memory of others, too: the elements' blocks lie before the row's. Over any program. -/
namespace Go.Proofs.YtlegeancmcmbaaaDoor
open Go.RowKit

structure RowG {α : Type} (S : Shape α) (base : Nat) (e : TypeId) (v : Value) (L : List (Elem α)) (w : World) : Prop where
 row : w.ownsRow base e S.m v L.length (L.flatMap (·.cells))
 len : ∀ x ∈ L, x.cells.length = S.m
 el : ∀ x ∈ L, S.R w x.cells x.d x.fp
 hi : ∀ x ∈ L, ∀ b ∈ x.fp, b < base

section
variable {α : Type} {S : Shape α} {base : Nat} {e : TypeId} {v v' : Value} {L : List (Elem α)} {w w' : World}
theorem RowG.nil (S : Shape α) (base : Nat) (e : TypeId) (w : World) : RowG S base e (.slice none 0 0) [] w := ⟨World.ownsRow_nil _ _ _ _, by simp, by simp, by simp⟩
theorem RowG.ap (h : RowG S base e v L w) : ∀ x ∈ L, ∀ b ∈ x.fp, v.ownBlock ≠ some b := fun x hx b hb hv => by
 have h1 := h.hi x hx b hb
 have h2 := (h.row.lt b hv).1
 omega
theorem RowG.lit0 (S : Shape α) (e : TypeId) (w : World) : RowG S w.heap.size e (.slice (some ⟨w.heap.size, 0, none⟩) 0 0) [] (w.alloc (.cells #[] e)) where
 row := World.ownsRow_lit (base := w.heap.size) (e := e) (size := S.m) w #[] 0 (Nat.le_refl _) (by unfold maxLen; omega) (by simp)
 len := by simp
 el := by simp
 hi := by simp
theorem RowG.same (h : RowG S base e v L w) (hv : ∀ g, v.ownBlock = some g → w'.heap[g]? = w.heap[g]?) (hb : ∀ x ∈ L, ∀ b ∈ x.fp, w'.heap[b]? = w.heap[b]?) : RowG S base e v L w' where
 row := ownsRow_same h.row hv
 len := h.len
 el := fun x hx => S.frame (fun b hb' => hb x hx b hb') (h.el x hx)
 hi := h.hi
theorem RowG.below (h : RowG S base e v L w) (hb : Below w.heap.size w w') : RowG S base e v L w' :=
 h.same (fun g hg => hb.block g (h.row.lt g hg).2) (fun x hx b hb' => hb.block b (S.lt (h.el x hx) b hb'))
theorem RowG.kept {K : List Nat} (h : RowG S base e v L w) (hk : Kept K w w') (hv : ∀ g, v.ownBlock = some g → g ∉ K) (hb : ∀ x ∈ L, ∀ b ∈ x.fp, b ∉ K) : RowG S base e v L w' :=
 h.same (fun g hg => hk.block g (h.row.lt g hg).2 (hv g hg)) (fun x hx b hb' => hk.block b (S.lt (h.el x hx) b hb') (hb x hx b hb'))
theorem RowG.mine (h : RowG S base e v L w) : ∀ b, v.ownBlock = some b → base ≤ b := fun b hb => (h.row.lt b hb).1
theorem RowG.read (h : RowG S base e v L w) : ∃ fp, (sSlice S).R w [v] (L.map (·.d)) fp ∧ (∀ b ∈ fp, v.ownBlock = some b ∨ ∃ x ∈ L, b ∈ x.fp) ∧ (Own w base (L.flatMap (·.fp)) → Own w base fp) := by
 obtain ⟨fp, h1, h2, h3⟩ := slice_of_row h.row fun x hx => ⟨h.len x hx, h.el x hx⟩
 refine ⟨fp, h1, fun b hb => ?_, fun ho => h3 ho fun g hg hm => ?_⟩
 ·rcases h2 b hb with h | h
  ·exact .inl h
  ·obtain ⟨x, hx, hb'⟩ := List.mem_flatMap.1 h
   exact .inr ⟨x, hx, hb'⟩
 ·obtain ⟨x, hx, hb'⟩ := List.mem_flatMap.1 hm
  exact h.ap x hx g hb' hg
theorem RowG.len_eq {g n cap : Nat} (h : RowG S base e (.slice (some ⟨g, 0, none⟩) n cap) L w) : L.length = n := by
 rcases h.row.2 with ⟨h', _⟩ | ⟨g', cap', cur, h', _⟩
 ·cases h'
 ·simp only [Value.slice.injEq] at h'; exact h'.2.1.symm
theorem RowG.frozen {g n cap : Nat} (h : RowG S base e (.slice (some ⟨g, 0, none⟩) n cap) L w) (o : Nat) : w.frozen? ⟨g, o, none⟩ = false := by
 rcases h.row.2 with ⟨h', _⟩ | ⟨g', cap', cur, h', _, hg, _⟩
 ·cases h'
 ·simp only [Value.slice.injEq, Option.some.injEq, Addr.mk.injEq, and_true] at h'
  obtain ⟨rfl, _⟩ := h'
  exact frozen_of_row w g o cur e hg
theorem RowG.cellAt {g n cap : Nat} (h : RowG S base e (.slice (some ⟨g, 0, none⟩) n cap) L w) {k : Nat} (hk : k < L.length) {j : Nat} (hj : j < S.m) {u : Value} (hu : L[k].cells[j]? = some u) : w.cell? ⟨g, k * S.m + j, none⟩ = some u := by
 have hn : L.length = n := h.len_eq
 subst hn
 rw [h.row.cellAt (k * S.m + j) (by have : (k + 1) * S.m ≤ L.length * S.m := Nat.mul_le_mul_right _ hk; rw [Nat.succ_mul] at this; omega)]
 exact (flatMap_at (f := Elem.cells) h.len hk hj).trans hu
theorem RowG.set {g n cap : Nat} (h : RowG S base e (.slice (some ⟨g, 0, none⟩) n cap) L w) {k : Nat} (hk : k < L.length) {j : Nat} (hj : j < S.m) (u : Value) (x' : Elem α) (hx : x'.cells = L[k].cells.set j u)
  (hR : S.R w x'.cells x'.d x'.fp) (hn : ∀ b ∈ x'.fp, b < base) :
  RowG S base e (.slice (some ⟨g, 0, none⟩) n cap) (L.set k x') (w.setCell ⟨g, k * S.m + j, none⟩ u) := by
 have hblk : ∀ b : Nat, b ≠ g → (w.setCell ⟨g, k * S.m + j, none⟩ u).heap[b]? = w.heap[b]? := fun b hb => Below.heap_setCell _ _ _ _ hb
 have hmem : ∀ x ∈ L.set k x', x = x' ∨ x ∈ L := fun x hx => by
  rcases List.mem_or_eq_of_mem_set hx with h | h
  ·exact .inr h
  ·exact .inl h
 have hne : ∀ x ∈ L, ∀ b ∈ x.fp, b ≠ g := fun x hx b hb e => h.ap x hx b hb (by rw [e]; rfl)
 refine ⟨?_, fun x hx' => ?_, fun x hx' => ?_, fun x hx' => ?_⟩
 ·have hn := h.len_eq
  have hrow := h.row
  rw [hn] at hrow
  have := (hrow.stored (k * S.m + j) u).1
  rw [flatMap_set h.len hk hj u x' hx] at this
  rw [List.length_set, hn]
  exact this
 ·rcases hmem x hx' with rfl | hx'
  ·rw [hx, List.length_set]; exact h.len _ (List.getElem_mem hk)
  ·exact h.len x hx'
 ·rcases hmem x hx' with rfl | hx'
  ·exact S.frame (fun b hb => hblk b (fun e => by have h1 := hn b hb; have h2 := (h.row.lt g rfl).1; omega)) hR
  ·exact S.frame (fun b hb => hblk b (hne x hx' b hb)) (h.el x hx')
 ·rcases hmem x hx' with rfl | hx'
  ·exact hn
  ·exact h.hi x hx'
end
end Go.Proofs.YtlegeancmcmbaaaDoor

/- SplitArguments (spec). (Made by gen_spls.py.) -/
namespace Go.Proofs.YtlegeancmcmbaaaDoor
open Go.RowKit
set_option maxHeartbeats 2000000 in
theorem spec_l7Is (cs : List Value) (x : Tok) (fp : List Nat) (w : World) (c : UInt8) (H : sTok.R w cs x fp) :
  Calls Tryd.prog 41 #[.agg cs.toArray, .string ⟨#[c]⟩] w (Says (decide (x.kind = 4) && (x.text.toList == [c])) w) := by
 obtain ⟨h, rfl, hk, hok, K⟩ := H
 obtain ⟨a0, cap0, rfl, -⟩ := open_strs K
 have hb := alloc_below' w (.cells #[.int .i64 x.kind, .string x.text, .bool x.spaced, .slice a0 x.hidden.length cap0] 47)
 clear K
 go_enter Tryd.func41, Tryd.ntmps41
 by_cases h4 : x.kind = 4
 ·have e0 : (x.kind == 4) = true := by simp [h4]
  have HF : Hid ((decide (x.kind = 4) && (x.text.toList == [c])) = (x.text.toList == [c])) := by show _ = _; rw [decide_eq_true h4]; rfl
  clear h4
  go_wp2
  go_ret
  exact ⟨ret_bool (by rw [HF.out]), hb⟩
 ·have e0 : (x.kind == 4) = false := by simpa using h4
  have HF : Hid ((decide (x.kind = 4) && (x.text.toList == [c])) = false) := by show _ = _; rw [decide_eq_false h4]; rfl
  clear h4
  go_wp2
  go_ret
  exact ⟨ret_bool (by rw [HF.out]), hb⟩

structure SplSt (B0 B1 : Nat) (va vm : Value) (A : List (Elem (List Tok))) (M : List (Elem Tok)) (w : World) : Prop where
 e : RowE sToks B0 28 va A w
 b : ∀ g, va.ownBlock = some g → B1 ≤ g
 g : ∃ top, RowG sTok top 47 vm M w ∧ B1 ≤ top ∧ top ≤ w.heap.size ∧ ∀ x ∈ A, ∀ b ∈ x.fp, b < top
 m : ∀ x ∈ M, ∀ b ∈ x.fp, B0 ≤ b ∧ b < B1
 t : ∀ x ∈ M, TokTy w x.fp
theorem SplSt.below {B0 B1 : Nat} {va vm : Value} {A : List (Elem (List Tok))} {M : List (Elem Tok)} {w w' : World} (h : SplSt B0 B1 va vm A M w) (hb : Below w.heap.size w w') : SplSt B0 B1 va vm A M w' := by
 obtain ⟨top, g1, g2, g3, g4⟩ := h.g
 exact ⟨h.e.below hb, h.b, ⟨top, g1.below hb, g2, Nat.le_trans g3 hb.size, g4⟩, h.m, fun x hx => (h.t x hx).below hb⟩
theorem TokTy.rows {w : World} {fp : List Nat} (h : TokTy w fp) : ∀ b ∈ fp, ∃ cur t fr, w.heap[b]? = some (.cells cur t fr) ∧ t ≠ 28 := fun b hb => by
 obtain ⟨cur, t, fr, h1, h2⟩ := h b hb
 refine ⟨cur, t, fr, h1, ?_⟩
 rcases h2 with rfl | rfl <;> decide
theorem SplSt.next {B0 B1 : Nat} {va' : Value} {A' : List (Elem (List Tok))} {w' : World} (hE : RowE sToks B0 28 va' A' w') (hv : ∀ g, va'.ownBlock = some g → B1 ≤ g) (hB : B1 ≤ w'.heap.size) : SplSt B0 B1 va' (.slice (some ⟨w'.heap.size, 0, none⟩) 0 0) A' [] (w'.alloc (.cells #[] 47)) :=
 ⟨hE.below (alloc_below' _ _), hv, ⟨w'.heap.size, RowG.lit0 sTok 47 w', hB, by show _ ≤ (w'.heap.push _).size; simp, fun x hx b hb => sToks.lt (hE.el x hx) b hb⟩, by simp, by simp⟩

theorem spec_l1In (n lo hi : Int) (w : World) : Calls Tryd.prog 30 #[.int .i64 n, .int .i64 lo, .int .i64 hi] w (fun e w' => e = .returned (.bool (decide (lo ≤ n) && decide (n ≤ hi))) ∧ Below w.heap.size w w') := by
 go_enter Tryd.func30, Tryd.ntmps30
 by_cases h : lo ≤ n
 ·have e0 : decide (lo ≤ n) = true := decide_eq_true h
  have HF : Hid ((decide (lo ≤ n) && decide (n ≤ hi)) = decide (n ≤ hi)) := by show _ = _; rw [e0]; rfl
  go_wp2
  go_ret
  exact ⟨ret_bool (by first | rfl | rw [HF.out]), Below.refl _ _⟩
 ·have e0 : decide (lo ≤ n) = false := decide_eq_false h
  have HF : Hid ((decide (lo ≤ n) && decide (n ≤ hi)) = false) := by show _ = _; rw [e0]; rfl
  go_wp2
  go_ret
  exact ⟨ret_bool (by first | rfl | rw [HF.out]), Below.refl _ _⟩
end Go.Proofs.YtlegeancmcmbaaaDoor

/- Names in order: bytes alone. -/
namespace Go.Proofs.YtlegeancmcmbaaaDoor
open Go.RowKit
end Go.Proofs.YtlegeancmcmbaaaDoor

/- Texts of tokens: no program. -/
namespace Go.Proofs.YtlegeancmcmbaaaDoor
open Go.RowKit

def bs (s : ByteArray) : List UInt8 := s.data.toList
inductive Esc : List UInt8 → List UInt8 → Prop
 | nil : Esc [] []
 | back (c : UInt8) {a b : List UInt8} : Esc a b → Esc (92 :: c :: a) (c :: b)
 | byte {c : UInt8} {a b : List UInt8} : c.toNat ≠ 34 → c.toNat ≠ 92 → Esc a b → Esc (c :: a) (c :: b)
theorem Esc.app {a b c d : List UInt8} (h : Esc a b) (h2 : Esc c d) : Esc (a ++ c) (b ++ d) := by
 induction h with
 | nil => exact h2
 | back c _ ih => exact .back c ih
 | byte h1 h3 _ ih => exact .byte h1 h3 ih
def outTo (s : ByteArray) (k : Nat) : ByteArray :=
 if h : k + 1 < s.size then (if s[k].toNat = 92 then s.extract (k + 1) (k + 2) ++ outTo s (k + 2) else s.extract k (k + 1) ++ outTo s (k + 1)) else ⟨#[]⟩
termination_by s.size - k
theorem outTo_back {s : ByteArray} {k : Nat} (h : k + 1 < s.size) (hc : s[k].toNat = 92) : outTo s k = s.extract (k + 1) (k + 2) ++ outTo s (k + 2) := by rw [outTo, dif_pos h, if_pos hc]
theorem outTo_else {s : ByteArray} {k : Nat} (h : k + 1 < s.size) (hc : ¬ s[k].toNat = 92) : outTo s k = s.extract k (k + 1) ++ outTo s (k + 1) := by rw [outTo, dif_pos h, if_neg hc]
theorem outTo_end {s : ByteArray} {k : Nat} (h : s.size ≤ k + 1) : outTo s k = ⟨#[]⟩ := by rw [outTo, dif_neg (by omega)]
end Go.Proofs.YtlegeancmcmbaaaDoor

/- Pasting tokens, hiding names: no program. -/
namespace Go.Proofs.YtlegeancmcmbaaaDoor
open Go.RowKit

/-! ### Lists of names -/
def ins : List ByteArray → ByteArray → List ByteArray
 | [], n => [n]
 | x :: r, n => if sLess x n = true then x :: ins r n else if (x.toList == n.toList) = true then x :: r else n :: x :: r
/-! ### Pasting -/
/-! ### Hiding -/
end Go.Proofs.YtlegeancmcmbaaaDoor

/- Arguments put into bodies: no program. -/
namespace Go.Proofs.YtlegeancmcmbaaaDoor
open Go.RowKit
section
variable {m : DMacro} {raw ready : List (List Tok)} {k : Nat}
end
section
variable {m : DMacro} {raw ready : List (List Tok)} {k : Nat} {out part : List Tok} {emp paste : Bool} {nx : Nat} {ok : Bool}
end
end Go.Proofs.YtlegeancmcmbaaaDoor

/- An element put into a row: what the cells are. Over any program. -/
namespace Go.Proofs.YtlegeancmcmbaaaDoor
open Go.RowKit
end Go.Proofs.YtlegeancmcmbaaaDoor

/- Rows of the call's own whose elements lie anywhere but in the row's own block: appended, written, read. Over any program. -/
namespace Go.Proofs.YtlegeancmcmbaaaDoor
open Go.RowKit

theorem run_append_place {P : Program} (w : World) (base : Nat) (t ty e : TypeId) (i : TypeInfo) (z : Value) (size bytes : Nat) (ht : P.underlying t = some (.slice e)) (hi : P.info? e = some i) (hz : i.zero = some z)
  (hsize : i.size = size) (hby : i.bytes = bytes) (hzs : z.cells.size = size) (hsz : 0 < size)
  (v : Value) (n : Nat) (xs : List Value) (hown : w.ownsRow base e size v n xs)
  (a : Addr) (m c : Nat) (news : List Value) (hl : news.length = m * size) (hnews : ∀ j u, news[j]? = some u → w.cell? (a.add j) = some u) (h1 : ∀ u ∈ news, u.oneCell' = true)
  (h63 : n + m ≤ maxLen) (hbytes : (n + m) * bytes ≤ 140737488355328) (hbase : base ≤ w.heap.size) :
  ∃ v' w', (Builtin.append_ #[t, t] ty #[v, .slice (some a) m c]).run P w = .ok v' w' ∧ w'.ownsRow base e size v' (n + m) (xs ++ news) ∧ w.grownBy w' v.ownBlock ∧ (v'.ownBlock = v.ownBlock ∨ v'.ownBlock = some w.heap.size) := by
 obtain ⟨v', w', hr, h2, h3, h4⟩ := Go.run_append_own (P := P) w base t ty e i z size bytes ht hi hz hsize hby hzs hsz v n xs hown a m c news hl hnews h1 h63 hbytes hbase
 refine ⟨v', w', hr, h2, h3, ?_⟩
 have hsmall : n + m ≤ 9223372036854775807 := by simp only [maxLen] at h63; omega
 subst hsize
 subst hby
 rcases hown.2 with ⟨rfl, rfl⟩ | ⟨g, cap, cur, rfl, hbg, hg, hnc, hcm, hcs, htake⟩
 ·have hx : xs = [] := List.eq_nil_of_length_eq_zero (by simpa using hown.1)
  subst hx
  by_cases hm : m = 0
  ·exact .inl (by rw [h4.2 ⟨rfl, hm⟩])
  ·have hr2 := _root_.Go.run_append_nil (P := P) w t ty e i z ht hi hz a m c news hl hnews (by omega) (by omega) (by have hb := hbytes; simp only [Nat.zero_add] at hb; omega)
   rw [hr2] at hr
   obtain ⟨rfl, _⟩ := Result.ok.inj hr
   exact .inr rfl
 ·by_cases hroom : n + m ≤ cap
  ·have hfit : n * i.size + news.length ≤ cur.size := by rw [hl, hcs, ← Nat.add_mul]; exact Nat.mul_le_mul_right _ hroom
   have hr2 := Go.run_append_room (P := P) w t ty e i ht hi g n cap cur hg a m c news hl hnews h1 hroom hfit
   rw [hr2] at hr
   obtain ⟨rfl, _⟩ := Result.ok.inj hr
   exact .inl rfl
  ·have holds : ∀ j u, xs[j]? = some u → w.cell? ((⟨g, 0, none⟩ : Addr).add j) = some u := hown.cells (g := g) rfl
   have hr2 := _root_.Go.run_append_grow (P := P) w t ty e i z ht hi hz ⟨g, 0, none⟩ n cap xs hown.1 holds a m c news hl hnews (by omega) (by omega) (growslice_fits (by omega) hbytes)
   rw [hr2] at hr
   obtain ⟨rfl, _⟩ := Result.ok.inj hr
   exact .inr rfl

structure RowN {α : Type} (S : Shape α) (base : Nat) (e : TypeId) (v : Value) (L : List (Elem α)) (w : World) : Prop where
 row : w.ownsRow base e S.m v L.length (L.flatMap (·.cells))
 len : ∀ x ∈ L, x.cells.length = S.m
 el : ∀ x ∈ L, S.R w x.cells x.d x.fp
 ap : ∀ x ∈ L, ∀ b ∈ x.fp, v.ownBlock ≠ some b

section
variable {α : Type} {S : Shape α} {base : Nat} {e : TypeId} {v v' : Value} {L : List (Elem α)} {w w' : World}
theorem RowN.nil (S : Shape α) (base : Nat) (e : TypeId) (w : World) : RowN S base e (.slice none 0 0) [] w := ⟨World.ownsRow_nil _ _ _ _, by simp, by simp, by simp⟩
theorem RowN.lit0 (S : Shape α) (e : TypeId) (w : World) {base : Nat} (hb : base ≤ w.heap.size) : RowN S base e (.slice (some ⟨w.heap.size, 0, none⟩) 0 0) [] (w.alloc (.cells #[] e)) where
 row := World.ownsRow_lit (base := base) (e := e) (size := S.m) w #[] 0 hb (by unfold maxLen; omega) (by simp)
 len := by simp
 el := by simp
 ap := by simp
theorem RowN.same (h : RowN S base e v L w) (hv : ∀ g, v.ownBlock = some g → w'.heap[g]? = w.heap[g]?) (hb : ∀ x ∈ L, ∀ b ∈ x.fp, w'.heap[b]? = w.heap[b]?) : RowN S base e v L w' where
 row := ownsRow_same h.row hv
 len := h.len
 el := fun x hx => S.frame (fun b hb' => hb x hx b hb') (h.el x hx)
 ap := h.ap
theorem RowN.below (h : RowN S base e v L w) (hb : Below w.heap.size w w') : RowN S base e v L w' :=
 h.same (fun g hg => hb.block g (h.row.lt g hg).2) (fun x hx b hb' => hb.block b (S.lt (h.el x hx) b hb'))
theorem RowN.kept {K : List Nat} (h : RowN S base e v L w) (hk : Kept K w w') (hv : ∀ g, v.ownBlock = some g → g ∉ K) (hb : ∀ x ∈ L, ∀ b ∈ x.fp, b ∉ K) : RowN S base e v L w' :=
 h.same (fun g hg => hk.block g (h.row.lt g hg).2 (hv g hg)) (fun x hx b hb' => hk.block b (S.lt (h.el x hx) b hb') (hb x hx b hb'))
theorem RowN.lower {base' : Nat} (h : RowN S base e v L w) (hl : base' ≤ base) : RowN S base' e v L w where
 row := ⟨h.row.1, by
  rcases h.row.2 with h0 | ⟨g, cap, cur, h1, h2, h3⟩
  ·exact .inl h0
  ·exact .inr ⟨g, cap, cur, h1, Nat.le_trans hl h2, h3⟩⟩
 len := h.len
 el := h.el
 ap := h.ap
theorem RowN.val (h : RowN S base e v L w) : ∃ a cap, v = .slice a L.length cap ∧ L.length ≤ cap ∧ cap ≤ maxLen ∧ (0 < L.length → ∃ g, a = some ⟨g, 0, none⟩ ∧ base ≤ g ∧ g < w.heap.size) := by
 rcases h.row.2 with ⟨rfl, h0⟩ | ⟨g, cap, cur, rfl, hb, hg, hn, hc, _⟩
 ·exact ⟨none, 0, by rw [h0], by omega, by simp, fun h => by omega⟩
 ·exact ⟨_, cap, rfl, hn, hc, fun _ => ⟨g, rfl, hb, (Array.getElem?_eq_some_iff.1 hg).1⟩⟩
theorem RowN.mine (h : RowN S base e v L w) : ∀ b, v.ownBlock = some b → base ≤ b ∧ b < w.heap.size := fun b hb => h.row.lt b hb
theorem RowN.read (h : RowN S base e v L w) : ∃ fp, (sSlice S).R w [v] (L.map (·.d)) fp ∧ (∀ b ∈ fp, v.ownBlock = some b ∨ ∃ x ∈ L, b ∈ x.fp) ∧ (Own w base (L.flatMap (·.fp)) → Own w base fp) := by
 obtain ⟨fp, h1, h2, h3⟩ := slice_of_row h.row fun x hx => ⟨h.len x hx, h.el x hx⟩
 refine ⟨fp, h1, fun b hb => ?_, fun ho => h3 ho fun g hg hm => ?_⟩
 ·rcases h2 b hb with h | h
  ·exact .inl h
  ·obtain ⟨x, hx, hb'⟩ := List.mem_flatMap.1 h
   exact .inr ⟨x, hx, hb'⟩
 ·obtain ⟨x, hx, hb'⟩ := List.mem_flatMap.1 hm
  exact h.ap x hx g hb' hg
theorem RowN.len_eq {g n cap : Nat} (h : RowN S base e (.slice (some ⟨g, 0, none⟩) n cap) L w) : L.length = n := by
 rcases h.row.2 with ⟨h', _⟩ | ⟨g', cap', cur, h', _⟩
 ·cases h'
 ·simp only [Value.slice.injEq] at h'; exact h'.2.1.symm
theorem RowN.frozen {g n cap : Nat} (h : RowN S base e (.slice (some ⟨g, 0, none⟩) n cap) L w) (o : Nat) : w.frozen? ⟨g, o, none⟩ = false := by
 rcases h.row.2 with ⟨h', _⟩ | ⟨g', cap', cur, h', _, hg, _⟩
 ·cases h'
 ·simp only [Value.slice.injEq, Option.some.injEq, Addr.mk.injEq, and_true] at h'
  obtain ⟨rfl, _⟩ := h'
  exact frozen_of_row w g o cur e hg
theorem RowN.cellAt {g n cap : Nat} (h : RowN S base e (.slice (some ⟨g, 0, none⟩) n cap) L w) {k : Nat} (hk : k < L.length) {j : Nat} (hj : j < S.m) {u : Value} (hu : L[k].cells[j]? = some u) : w.cell? ⟨g, k * S.m + j, none⟩ = some u := by
 have hn : L.length = n := h.len_eq
 subst hn
 rw [h.row.cellAt (k * S.m + j) (by have : (k + 1) * S.m ≤ L.length * S.m := Nat.mul_le_mul_right _ hk; rw [Nat.succ_mul] at this; omega)]
 exact (flatMap_at (f := Elem.cells) h.len hk hj).trans hu
theorem RowN.set {g n cap : Nat} (h : RowN S base e (.slice (some ⟨g, 0, none⟩) n cap) L w) {k : Nat} (hk : k < L.length) {j : Nat} (hj : j < S.m) (u : Value) (x' : Elem α) (hx : x'.cells = L[k].cells.set j u)
  (hR : S.R w x'.cells x'.d x'.fp) (hap : g ∉ x'.fp) : RowN S base e (.slice (some ⟨g, 0, none⟩) n cap) (L.set k x') (w.setCell ⟨g, k * S.m + j, none⟩ u) := by
 have hn : L.length = n := h.len_eq
 have hfar : ∀ b, b ≠ g → (w.setCell ⟨g, k * S.m + j, none⟩ u).heap[b]? = w.heap[b]? := fun b hb => Below.heap_setCell _ _ _ _ hb
 have hmem : ∀ x ∈ L.set k x', x = x' ∨ x ∈ L := fun x hx => by
  rcases List.mem_or_eq_of_mem_set hx with h | h
  ·exact .inr h
  ·exact .inl h
 have hne : ∀ x ∈ L.set k x', ∀ b ∈ x.fp, b ≠ g := fun x hx' b hb e => by
  subst e
  rcases hmem x hx' with rfl | hx'
  ·exact hap hb
  ·exact h.ap x hx' b hb rfl
 refine ⟨?_, fun x hx' => ?_, fun x hx' => S.frame (fun b hb => hfar b (hne x hx' b hb)) ?_, fun x hx' b hb hv => ?_⟩
 ·have hrow := h.row
  rw [hn] at hrow
  have := (hrow.stored (k * S.m + j) u).1
  rw [flatMap_set h.len hk hj u x' hx] at this
  rw [List.length_set, hn]
  exact this
 ·rcases hmem x hx' with rfl | hx'
  ·rw [hx, List.length_set]; exact h.len _ (List.getElem_mem hk)
  ·exact h.len x hx'
 ·rcases hmem x hx' with rfl | hx'
  ·exact hR
  ·exact h.el x hx'
 ·simp only [Value.ownBlock, Option.some.injEq] at hv
  exact hne x hx' b hb hv.symm
theorem RowN.put {g n cap : Nat} (h : RowN S base e (.slice (some ⟨g, 0, none⟩) n cap) L w) {k : Nat} (hk : k < L.length) (x' : Elem α) (hl : x'.cells.length = S.m) (hR : S.R w x'.cells x'.d x'.fp) (hap : g ∉ x'.fp) :
  RowN S base e (.slice (some ⟨g, 0, none⟩) n cap) (L.set k x') (putAll w g (k * S.m) x'.cells) := by
 have hn : L.length = n := h.len_eq
 have hK := putAll_kept (g := g) x'.cells w (k * S.m)
 have hmem : ∀ x ∈ L.set k x', x = x' ∨ x ∈ L := fun x hx => by
  rcases List.mem_or_eq_of_mem_set hx with h | h
  ·exact .inr h
  ·exact .inl h
 have hne : ∀ x ∈ L.set k x', ∀ b ∈ x.fp, b ≠ g := fun x hx' b hb e => by
  subst e
  rcases hmem x hx' with rfl | hx'
  ·exact hap hb
  ·exact h.ap x hx' b hb rfl
 have hel : ∀ x ∈ L.set k x', x.cells.length = S.m ∧ S.R w x.cells x.d x.fp := fun x hx' => by
  rcases hmem x hx' with rfl | hx'
  ·exact ⟨hl, hR⟩
  ·exact ⟨h.len x hx', h.el x hx'⟩
 refine ⟨?_, fun x hx' => (hel x hx').1, fun x hx' => S.frame (fun b hb => hK.block b (S.lt (hel x hx').2 b hb) (by simp; exact hne x hx' b hb)) (hel x hx').2, fun x hx' b hb hv => ?_⟩
 ·have hrow := h.row
  rw [hn] at hrow
  have r1 := putAll_row x'.cells w _ (k * S.m) hrow
  have hsplit : L.flatMap (·.cells) = (L.take k).flatMap (·.cells) ++ (L[k].cells ++ (L.drop (k + 1)).flatMap (·.cells)) := by
   have e0 : L = L.take k ++ (L[k] :: L.drop (k + 1)) := by rw [← List.drop_eq_getElem_cons hk, List.take_append_drop]
   conv => lhs; rw [e0]
   rw [List.flatMap_append, List.flatMap_cons]
  have hsplit2 : (L.set k x').flatMap (·.cells) = (L.take k).flatMap (·.cells) ++ (x'.cells ++ (L.drop (k + 1)).flatMap (·.cells)) := by
   rw [List.set_eq_take_append_cons_drop, if_pos hk, List.flatMap_append, List.flatMap_cons]
  have hA : ((L.take k).flatMap (·.cells)).length = k * S.m := by rw [flatMap_len (f := Elem.cells) (m := S.m) (fun y hy => h.len y (List.mem_of_mem_take hy)), List.length_take]; congr 1; omega
  have e1 := setFrom_app x'.cells ((L.take k).flatMap (·.cells)) L[k].cells ((L.drop (k + 1)).flatMap (·.cells)) (by rw [hl]; exact h.len _ (List.getElem_mem hk))
  rw [hA, ← hsplit, ← hsplit2] at e1
  rw [e1] at r1
  rw [List.length_set, hn]
  exact r1
 ·simp only [Value.ownBlock, Option.some.injEq] at hv
  exact hne x hx' b hb hv.symm
theorem RowN.appended (h : RowN S base e v L w) {X : List (Elem α)} (hrow : w'.ownsRow base e S.m v' (L ++ X).length ((L ++ X).flatMap (·.cells))) (hg : w.grownBy w' v.ownBlock) (hp : v'.ownBlock = v.ownBlock ∨ v'.ownBlock = some w.heap.size)
  (hX : ∀ x ∈ X, x.cells.length = S.m ∧ S.R w x.cells x.d x.fp ∧ ∀ b ∈ x.fp, v.ownBlock ≠ some b) : RowN S base e v' (L ++ X) w' := by
 have hall : ∀ x ∈ L ++ X, x.cells.length = S.m ∧ S.R w x.cells x.d x.fp ∧ ∀ b ∈ x.fp, v.ownBlock ≠ some b := fun x hx => by
  rcases List.mem_append.1 hx with hx | hx
  ·exact ⟨h.len x hx, h.el x hx, h.ap x hx⟩
  ·exact hX x hx
 refine ⟨hrow, fun x hx => (hall x hx).1, fun x hx => ?_, fun x hx b hb => ?_⟩
 ·exact S.frame (fun b hb => hg.block b (S.lt (hall x hx).2.1 b hb) fun hv => (hall x hx).2.2 b hb hv.symm) (hall x hx).2.1
 ·rcases hp with hp | hp
  ·rw [hp]; exact (hall x hx).2.2 b hb
  ·rw [hp]
   intro h2
   simp only [Option.some.injEq] at h2
   have := S.lt (hall x hx).2.1 b hb
   omega
end

theorem step_append_rowN {α : Type} {S : Shape α} {P : Program} {t e : TypeId} {z : Value} {bytes : Nat} (ti : TI P t e z S.m bytes) (hzs : z.cells.size = S.m) (h0 : 0 < S.m) (w : World) {L X : List (Elem α)} {o : Oper} {a : Act} {K : Act → World → Prop} {Q : Exit → Act → World → Prop}
  (s y : Operand) (ho : o.op = .call { callee := .builtin .append, args := #[s, y], argTypes := #[t, t] })
  (base : Nat) (v : Value) (hs : a.eval s = v) (hown : RowN S base e v L w) (ad : Addr) (m c : Nat) (hy : a.eval y = .slice (some ad) m c) (hm : X.length = m)
  (hX : ∀ x ∈ X, x.cells.length = S.m ∧ S.R w x.cells x.d x.fp ∧ ∀ b ∈ x.fp, v.ownBlock ≠ some b) (h1 : ∀ x ∈ X, ∀ u ∈ x.cells, u.oneCell' = true) (hcell : ∀ j u, (X.flatMap (·.cells))[j]? = some u → w.cell? (ad.add j) = some u)
  (h63 : L.length + m ≤ maxLen) (hbytes : (L.length + m) * bytes ≤ 140737488355328) (hbase : base ≤ w.heap.size)
  (h : ∀ v' w', RowN S base e v' (L ++ X) w' → w.grownBy w' v.ownBlock → (v'.ownBlock = v.ownBlock ∨ v'.ownBlock = some w.heap.size) → K (a.put o.dst v') w') : o.wp P a w K Q := by
 obtain ⟨i, hi, hz0, hz1, hz2⟩ := info_parts ti.2
 subst hm
 obtain ⟨v', w', hr, r1, r2, r3⟩ := run_append_place (P := P) w base t o.type e i z S.m bytes ti.1 hi hz0 hz1 hz2 hzs h0 v L.length _ hown.row ad X.length c (X.flatMap (·.cells)) (flatMap_len (f := Elem.cells) fun x hx => (hX x hx).1) hcell
  (fun u hu => by obtain ⟨x, hx, hu⟩ := List.mem_flatMap.1 hu; exact h1 x hx u hu) h63 hbytes hbase
 unfold Oper.wp execOp
 simp only [ho, resolve, invoke, builtin, Sem.run_bind, Sem.run_pure, Result.andThen_ok, List.map_toArray, List.map_cons, List.map_nil, hs, hy, hr]
 refine h v' w' (hown.appended ?_ r2 r3 hX) r2 r3
 rw [List.length_append, List.flatMap_append]
 exact r1
theorem wp_append_rowN {α : Type} {S : Shape α} {P : Program} {t e : TypeId} {z : Value} {bytes : Nat} (ti : TI P t e z S.m bytes) (hzs : z.cells.size = S.m) (h0 : 0 < S.m) (w : World) {L X : List (Elem α)} {ops : Array Oper} {rest : List Oper} {o : Oper} {a : Act} {Q : Exit → Act → World → Prop}
  (hg : o.guard = none) (s y : Operand) (ho : o.op = .call { callee := .builtin .append, args := #[s, y], argTypes := #[t, t] })
  (base : Nat) (v : Value) (hs : a.eval s = v) (hown : RowN S base e v L w) (ad : Addr) (m c : Nat) (hy : a.eval y = .slice (some ad) m c) (hm : X.length = m)
  (hX : ∀ x ∈ X, x.cells.length = S.m ∧ S.R w x.cells x.d x.fp ∧ ∀ b ∈ x.fp, v.ownBlock ≠ some b) (h1 : ∀ x ∈ X, ∀ u ∈ x.cells, u.oneCell' = true) (hcell : ∀ j u, (X.flatMap (·.cells))[j]? = some u → w.cell? (ad.add j) = some u)
  (h63 : L.length + m ≤ maxLen) (hbytes : (L.length + m) * bytes ≤ 140737488355328) (hbase : base ≤ w.heap.size)
  (h : ∀ v' w', RowN S base e v' (L ++ X) w' → w.grownBy w' v.ownBlock → (v'.ownBlock = v.ownBlock ∨ v'.ownBlock = some w.heap.size) → wpList P ops Q rest (a.put o.dst v') w') : wpList P ops Q (o :: rest) a w :=
 wpList_plain hg fun _ hK => step_append_rowN ti hzs h0 w s y ho base v hs hown ad m c hy hm hX h1 hcell h63 hbytes hbase fun v' w' h2 h3 h4 => hK _ _ (h v' w' h2 h3 h4)
theorem run_append_none {P : Program} {w : World} (base : Nat) (t ty e : TypeId) (i : TypeInfo) (size c : Nat) (ht : P.underlying t = some (.slice e)) (hi : P.info? e = some i)
  (v : Value) (n : Nat) (xs : List Value) (hown : w.ownsRow base e size v n xs) : (Builtin.append_ #[t, t] ty #[v, .slice none 0 c]).run P w = .ok v w := by
 rcases hown.2 with ⟨rfl, rfl⟩ | ⟨g, cap, cur, rfl, _, _, hnc, _⟩
 ·simp [Builtin.append_, run_underlying ht, sizeOf, typeInfo, hi, Builtin.lenOf, Builtin.firstCells]
 ·simp [Builtin.append_, run_underlying ht, sizeOf, typeInfo, hi, Builtin.lenOf, Builtin.firstCells, hnc, storeCells]
theorem elems_in {α : Type} {S : Shape α} {w : World} {u : Value} {M : List α} {fp : List Nat} (H : (sSlice S).R w [u] M fp) :
  ∃ (X : List (Elem α)) (a : Option Addr) (cap : Nat), X.map (·.d) = M ∧ X.length = M.length ∧ u = .slice a M.length cap ∧ M.length ≤ maxLen ∧ (∀ x ∈ X, x.cells.length = S.m ∧ S.R w x.cells x.d x.fp ∧ ∀ b ∈ x.fp, b ∈ fp) ∧
   (0 < M.length → ∃ b off, a = some ⟨b, off, none⟩ ∧ b < w.heap.size ∧ ∀ k, (hk : k < X.length) → ElemAt w b off S.m k X[k].cells) := by
 obtain ⟨a, cap, rfl, hc, hm, hrow⟩ := open_rows H
 by_cases h0 : 0 < M.length
 ·obtain ⟨b, off, fps, rfl, hb, hfp, he⟩ := hrow h0
  have key : ∀ k : Fin M.length, ∃ x : Elem α, x.d = M[k.1] ∧ x.fp = fps k.1 ∧ ElemAt w b off S.m k.1 x.cells ∧ S.R w x.cells x.d x.fp := fun k => by
   obtain ⟨es, hE, hR⟩ := he k.1 k.2
   exact ⟨⟨es, M[k.1], fps k.1⟩, rfl, rfl, hE, hR⟩
  let X : List (Elem α) := List.ofFn fun k : Fin M.length => (key k).choose
  have hXl : X.length = M.length := by simp [X]
  have hX : ∀ k, (hk : k < X.length) → ∃ hk' : k < M.length, X[k] = (key ⟨k, hk'⟩).choose := fun k hk => ⟨by omega, by simp [X]⟩
  refine ⟨X, _, cap, ?_, hXl, rfl, by omega, fun x hx => ?_, fun _ => ⟨b, off, rfl, hb, fun k hk => ?_⟩⟩
  ·apply List.ext_getElem
   ·simp [hXl]
   ·intro k h1 h2
    rw [List.getElem_map]
    obtain ⟨hk', e⟩ := hX k (by simpa using h1)
    rw [e]
    exact (key ⟨k, hk'⟩).choose_spec.1
  ·obtain ⟨k, hk, rfl⟩ := List.getElem_of_mem hx
   obtain ⟨hk', e⟩ := hX k hk
   obtain ⟨s1, s2, s3, s4⟩ := (key ⟨k, hk'⟩).choose_spec
   rw [e]
   refine ⟨s3.1, s4, fun c hc => ?_⟩
   rw [s2] at hc
   rw [hfp]
   exact List.mem_cons_of_mem _ (List.mem_flatMap.2 ⟨k, List.mem_range.2 hk', hc⟩)
  ·obtain ⟨hk', e⟩ := hX k hk
   rw [e]
   exact (key ⟨k, hk'⟩).choose_spec.2.2.1
 ·have hM : M = [] := List.length_eq_zero_iff.1 (by omega)
  subst hM
  exact ⟨[], a, cap, rfl, rfl, rfl, by unfold maxLen; simp, by simp, fun h => absurd h (by simp)⟩
theorem step_append_anyN {α : Type} {S : Shape α} {P : Program} {t e : TypeId} {z : Value} {bytes : Nat} (ti : TI P t e z S.m bytes) (hzs : z.cells.size = S.m) (h0 : 0 < S.m) (hone : ∀ w cs x fp, S.R w cs x fp → ∀ u ∈ cs, u.oneCell' = true) (w : World) {L : List (Elem α)} {o : Oper} {a : Act} {K : Act → World → Prop} {Q : Exit → Act → World → Prop}
  (s y : Operand) (ho : o.op = .call { callee := .builtin .append, args := #[s, y], argTypes := #[t, t] })
  (base : Nat) (v u : Value) (M : List α) (fp : List Nat) (hs : a.eval s = v) (hown : RowN S base e v L w) (hy : a.eval y = u) (HM : (sSlice S).R w [u] M fp) (hfp : ∀ b ∈ fp, v.ownBlock ≠ some b)
  (h63 : L.length + M.length ≤ maxLen) (hbytes : (L.length + M.length) * bytes ≤ 140737488355328) (hbase : base ≤ w.heap.size)
  (h : ∀ v' X w', X.map (·.d) = M → (∀ x ∈ X, ∀ b ∈ x.fp, b ∈ fp) → RowN S base e v' (L ++ X) w' → w.grownBy w' v.ownBlock → (v'.ownBlock = v.ownBlock ∨ v'.ownBlock = some w.heap.size) → K (a.put o.dst v') w') : o.wp P a w K Q := by
 obtain ⟨X, ad, cap, hXM, hXl, rfl, hmm, hX, hat⟩ := elems_in HM
 rw [← hXl] at h63 hbytes
 have hX2 : ∀ x ∈ X, x.cells.length = S.m ∧ S.R w x.cells x.d x.fp ∧ ∀ b ∈ x.fp, v.ownBlock ≠ some b := fun x hx => ⟨(hX x hx).1, (hX x hx).2.1, fun c hc => hfp c ((hX x hx).2.2 c hc)⟩
 by_cases hM : 0 < M.length
 ·obtain ⟨b, off, rfl, hb, hE⟩ := hat hM
  refine step_append_rowN ti hzs h0 w (X := X) s y ho base v hs hown ⟨b, off, none⟩ M.length cap hy hXl hX2 (fun x hx => hone _ _ _ _ (hX x hx).2.1) ?_ (by rw [← hXl]; exact h63) (by rw [← hXl]; exact hbytes) hbase fun v' w' r1 r2 r3 => h v' X w' hXM (fun x hx => (hX x hx).2.2) r1 r2 r3
  intro j u hj
  have hjl : j < X.length * S.m := by
   have := (List.getElem?_eq_some_iff.1 hj).1
   rwa [flatMap_len (f := Elem.cells) fun x hx => (hX x hx).1] at this
  have hk : j / S.m < X.length := Nat.div_lt_of_lt_mul (by rw [Nat.mul_comm]; exact hjl)
  have hr : j % S.m < S.m := Nat.mod_lt _ h0
  have hj2 : j / S.m * S.m + j % S.m = j := Nat.div_add_mod' _ _
  rw [← hj2, flatMap_at (f := Elem.cells) (fun x hx => (hX x hx).1) hk hr] at hj
  have := (hE (j / S.m) hk).2 (j % S.m) hr
  rw [Nat.add_assoc, hj2] at this
  rw [Addr.add_lit, this]
  exact hj
 ·have hX0 : X = [] := List.length_eq_zero_iff.1 (by omega)
  have hM0 : M.length = 0 := by omega
  subst hX0
  obtain ⟨i, hi, hz0, hz1, hz2⟩ := info_parts ti.2
  have hdone : K (a.put o.dst v) w := h v [] w (by simpa using hXM) (by simp) (by simpa using hown) ⟨rfl, rfl, rfl, Nat.le_refl _, fun _ _ _ => rfl⟩ (.inl rfl)
  rw [hM0] at hy
  cases ad with
  |
   none =>
   have hrun := run_append_none (P := P) (w := w) base _ o.type _ i S.m cap ti.1 hi v L.length _ hown.row
   unfold Oper.wp
   simp [execOp, ho, resolve, invoke, builtin, hs, hy, hrun, Result.andThen]
   exact hdone
  |
   some ad =>
   exact step_append_rowN ti hzs h0 w (X := []) s y ho base v hs hown ad 0 cap hy rfl (by simp) (by simp) (by simp) (by simpa using h63) (by simpa using hbytes) hbase fun v' w' r1 r2 r3 => h v' [] w' (by simpa using hXM) (by simp) r1 r2 r3
theorem wp_append_anyN {α : Type} {S : Shape α} {P : Program} {t e : TypeId} {z : Value} {bytes : Nat} (ti : TI P t e z S.m bytes) (hzs : z.cells.size = S.m) (h0 : 0 < S.m) (hone : ∀ w cs x fp, S.R w cs x fp → ∀ u ∈ cs, u.oneCell' = true) (w : World) {L : List (Elem α)} {ops : Array Oper} {rest : List Oper} {o : Oper} {a : Act} {Q : Exit → Act → World → Prop}
  (hg : o.guard = none) (s y : Operand) (ho : o.op = .call { callee := .builtin .append, args := #[s, y], argTypes := #[t, t] })
  (base : Nat) (v u : Value) (M : List α) (fp : List Nat) (hs : a.eval s = v) (hown : RowN S base e v L w) (hy : a.eval y = u) (HM : (sSlice S).R w [u] M fp) (hfp : ∀ b ∈ fp, v.ownBlock ≠ some b)
  (h63 : L.length + M.length ≤ maxLen) (hbytes : (L.length + M.length) * bytes ≤ 140737488355328) (hbase : base ≤ w.heap.size)
  (h : ∀ v' X w', X.map (·.d) = M → (∀ x ∈ X, ∀ b ∈ x.fp, b ∈ fp) → RowN S base e v' (L ++ X) w' → w.grownBy w' v.ownBlock → (v'.ownBlock = v.ownBlock ∨ v'.ownBlock = some w.heap.size) → wpList P ops Q rest (a.put o.dst v') w') : wpList P ops Q (o :: rest) a w :=
 wpList_plain hg fun _ hK => step_append_anyN ti hzs h0 hone w s y ho base v u M fp hs hown hy HM hfp h63 hbytes hbase fun v' X w' q1 q2 h2 h3 h4 => hK _ _ (h v' X w' q1 q2 h2 h3 h4)

end Go.Proofs.YtlegeancmcmbaaaDoor
