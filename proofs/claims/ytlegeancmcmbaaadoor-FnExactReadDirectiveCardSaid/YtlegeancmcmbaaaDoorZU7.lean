/- Texts that the proof of U stands on, in one file. -/
import Derived.Test.YtlegeancmcmbaaaDoorZU6
import Derived.Test.YtlegeancmcmbaaaDoorZU1
import Derived.Lib.AppendStr
import Derived.Laws.IdiomStrings
import Derived.Test.YtlegeancmcmbaaaDoorZU4
import Derived.Test.YtlegeancmcmbaaaDoorZU3
import Derived.Deep.Cut
set_option linter.unusedVariables false
set_option linter.unusedSimpArgs false
/- What slots hold in regions that draw their order, beside a reader. -/
namespace Go.Proofs.YtlegeancmcmbaaaDoor
open Go.RowKit
def jRd (rb p0 : Nat) (w0 : World) (m : Nat) (w : World) : Prop := (∃ p, p ≤ p0 + m ∧ Rd w rb p) ∧ Kept [rb] w0 w
theorem jRd.same {rb p0 m : Nat} {w0 w : World} (h : jRd rb p0 w0 m w) : jRd rb p0 w0 (m + 1) w := by
 obtain ⟨⟨p, h1, h2⟩, h3⟩ := h
 exact ⟨⟨p, by omega, h2⟩, h3⟩
theorem jRd.lt {rb p0 m : Nat} {w0 w : World} (h : jRd rb p0 w0 m w) : rb < w.heap.size := by
 obtain ⟨⟨p, h1, h2⟩, h3⟩ := h
 exact h2.lt
theorem At.mk {Ps : List (Value → World → Prop)} {i : Nat} {p : Value → World → Prop} {v : Value} {w : World} (h : Ps[i]? = some p) (hp : p v w) : At Ps i v w := by
 intro q hq
 rw [h] at hq
 cases hq
 exact hp

theorem jRd.le {rb p0 m m' : Nat} {w0 w : World} (h : jRd rb p0 w0 m w) (hm : m ≤ m') : jRd rb p0 w0 m' w := by
 obtain ⟨⟨p, h1, h2⟩, h3⟩ := h
 exact ⟨⟨p, by omega, h2⟩, h3⟩
theorem jRd.begin {rb p : Nat} {w : World} (h : Rd w rb p) : jRd rb p w 0 w := ⟨⟨p, by omega, h⟩, Kept.refl _ _⟩
theorem jRd.made {rb p0 m : Nat} {w0 w : World} (h : jRd rb p0 w0 m w) (o : Obj) : jRd rb p0 w0 m (w.alloc o) := by
 obtain ⟨⟨p, h1, h2⟩, h3⟩ := h
 have hb := (Below.refl w.heap.size w).alloc (Nat.le_refl _) o
 exact ⟨⟨p, h1, h2.grow hb⟩, h3.trans (Kept.of_below hb)⟩
theorem jRd.top {rb p0 m B : Nat} {w00 w0 w : World} (h : jRd rb p0 w0 m w) (hb : Below B w00 w0) (hr : B ≤ rb) (hs : B ≤ w0.heap.size) : Below B w00 w := kept_below hb h.2 hr hs
theorem pickJ {rb p0 m : Nat} {w0 w : World} (n : Int) (h : jRd rb p0 w0 m w) (hp : p0 + m < 1000000) (hn : n ≤ 1000000) (hn1 : 1 ≤ n) :
  Calls Tryd.prog 29 #[.pointer (some ⟨rb, 0, none⟩), .int .i64 n] w fun e w' => ∃ r : Int, e = .returned (.int .i64 r) ∧ 0 ≤ r ∧ r < n ∧ jRd rb p0 w0 (m + 1) w' ∧ Kept [rb] w w' := by
 obtain ⟨⟨p, h1, h2⟩, h3⟩ := h
 refine (pick rb p n w h2 (by omega) hn (by omega)).mono ?_
 rintro e w' ⟨r, rfl, hr0, hr1, hR, hK⟩
 exact ⟨r, rfl, hr0, by omega, ⟨⟨p + 1, by omega, hR⟩, h3.trans hK⟩, hK⟩
theorem oddJ {rb p0 m : Nat} {w0 w : World} (n : Int) (h : jRd rb p0 w0 m w) (hp : p0 + m < 1000000) (hn : n ≤ 1000000) (hn0 : 0 ≤ n) :
  Calls Tryd.prog 33 #[.pointer (some ⟨rb, 0, none⟩), .int .i64 n] w fun e w' => ∃ b : Bool, e = .returned (.bool b) ∧ jRd rb p0 w0 (m + 1) w' ∧ Kept [rb] w w' := by
 obtain ⟨⟨p, h1, h2⟩, h3⟩ := h
 refine (odd rb p n w h2 (by omega) hn hn0).mono ?_
 rintro e w' ⟨b, q, rfl, hq1, hq2, hR, hK⟩
 exact ⟨b, rfl, ⟨⟨q, by omega, hR⟩, h3.trans hK⟩, hK⟩

def jOwn (rb p0 : Nat) (w0 : World) (B : Nat) (v : Value) (L : List ByteArray) (k N M : Nat) (m : Nat) (w : World) : Prop :=
 (∃ p, p ≤ p0 + m ∧ Rd w rb p) ∧ Below w0.heap.size w0 w ∧
  (w.ownsRow B 9 1 v L.length (L.map Value.string) ∨ m = N ∧ ∃ s : ByteArray, s.size ≤ M ∧ w.ownsRow B 9 1 v L.length ((L.set k s).map Value.string))
section
variable {rb p0 B k N M m : Nat} {w0 w w' : World} {v : Value} {L : List ByteArray}
theorem jOwn.row (h : jOwn rb p0 w0 B v L k N M m w) (hm : m < N) : w.ownsRow B 9 1 v L.length (L.map Value.string) := by
 rcases h.2.2 with h | ⟨h, _⟩
 ·exact h
 ·omega
theorem jOwn.same (h : jOwn rb p0 w0 B v L k N M m w) (hm : m < N) : jOwn rb p0 w0 B v L k N M (m + 1) w := by
 obtain ⟨p, h1, h2⟩ := h.1
 exact ⟨⟨p, by omega, h2⟩, h.2.1, .inl (h.row hm)⟩
theorem Rd.kept {rb p : Nat} {fp : List Nat} {w w' : World} (h : Rd w rb p) (hk : Kept fp w w') (hf : ∀ b ∈ fp, rb < b) : Rd w' rb p := by
 have hlt := h.lt
 obtain ⟨⟨a, l, cap, fq, h1, h2, h3, h4⟩, h5⟩ := h
 refine ⟨⟨a, l, cap, fq, (hk.block rb hlt (fun hx => by have := hf rb hx; omega)).trans h1, (sSlice sByte).kept h2 (fun b hb hx => by have := hf b hx; have := h3 b hb; omega) hk, h3, h4⟩, h5⟩
theorem jOwn.store {g cap n : Nat} {s : ByteArray} (h : jOwn rb p0 w0 B (.slice (some ⟨g, 0, none⟩) n cap) L k N M m w) (hm : m < N) (hN : m + 1 = N) (hs : s.size ≤ M) (hrb : rb < B) (hg : B ≤ g) (hw0 : w0.heap.size ≤ B) :
  jOwn rb p0 w0 B (.slice (some ⟨g, 0, none⟩) n cap) L k N M (m + 1) (w.setCell ⟨g, k, none⟩ (.string s)) := by
 obtain ⟨p, h1, h2⟩ := h.1
 have hrow := h.row hm
 have hn : L.length = n := by
  rcases hrow.2 with ⟨h', _⟩ | ⟨g', cap', cur, h', _⟩
  ·cases h'
  ·simp only [Value.slice.injEq] at h'; exact h'.2.1.symm
 subst hn
 have hk : Kept [g] w (w.setCell ⟨g, k, none⟩ (.string s)) := (Kept.refl _ _).setCell (by simp) _
 refine ⟨⟨p, by omega, h2.kept hk (fun b hb => by have e : b = g := (by simpa using hb); omega)⟩, h.2.1.trans (hk.below (fun b hb => by have e : b = g := (by simpa using hb); omega) h.2.1.size), .inr ⟨hN, s, hs, ?_⟩⟩
 have := (hrow.stored k (.string s)).1
 rw [List.map_set]
 exact this
end
end Go.Proofs.YtlegeancmcmbaaaDoor

/- Rows of bytes of the call's own. -/
namespace Go.Proofs.YtlegeancmcmbaaaDoor
open Go.RowKit

theorem ti_bytes : TI Tryd.prog 22 5 (.int .u8 0) 1 1 := ⟨by kernel_rfl, by kernel_rfl⟩
def Bytes (base : Nat) (v : Value) (s : ByteArray) (w : World) : Prop := w.ownsRow base 5 1 v s.size (Lib.strCells s)
theorem strCells_append (a b : ByteArray) : Lib.strCells (a ++ b) = Lib.strCells a ++ Lib.strCells b := by
 simp [Lib.strCells, ByteArray.data_append]
theorem Bytes.none (base : Nat) (w : World) : Bytes base (.slice Option.none 0 0) ⟨#[]⟩ w := World.ownsRow_nil _ _ _ _
theorem wp_append_str {w0 : World} {ops : Array Oper} {rest : List Oper} {o : Oper} {a : Act} {Q : Exit → Act → World → Prop} (hg : o.guard = Option.none) (s y : Operand)
  (ho : o.op = .call { callee := .builtin .append, args := #[s, y], argTypes := #[22, 9] })
  (base : Nat) (v : Value) (x b : ByteArray) (hs : a.eval s = v) (hown : Bytes base v x w0) (hy : a.eval y = .string b) (h63 : x.size + b.size ≤ 1000000) (hbase : base ≤ w0.heap.size)
  (h : ∀ v' w', Bytes base v' (x ++ b) w' → w0.grownBy w' v.ownBlock → wpList Tryd.prog ops Q rest (a.put o.dst v') w') : wpList Tryd.prog ops Q (o :: rest) a w0 := by
 obtain ⟨i, hi, hz0, hz1, hz2⟩ := info_parts ti_bytes.2
 refine Lib.wpList_append_own_string w0 hg s y 22 9 ho base 5 i ti_bytes.1 Tryd.underlying9 hi hz0 hz1 hz2 v x.size (Lib.strCells x) hs hown b hy (by unfold maxLen; omega) (by omega) hbase fun v' w' h1 h2 _ => h v' w' ?_ h2
 unfold Bytes
 rw [strCells_append, ByteArray.size_append]
 exact h1
theorem wp_append_byte {w0 : World} {ops : Array Oper} {rest : List Oper} {o : Oper} {a : Act} {Q : Exit → Act → World → Prop} (hg : o.guard = Option.none) (s y : Operand)
  (ho : o.op = .call { callee := .builtin .append, args := #[s, y], argTypes := #[22, 22] })
  (base : Nat) (v : Value) (x b : ByteArray) (c : Int) (hs : a.eval s = v) (hown : Bytes base v x w0) (hy : a.eval y = .slice (some ⟨w0.heap.size, 0, Option.none⟩) 1 1) (hb : Lib.strCells b = [.int .u8 c]) (h63 : x.size ≤ 1000000) (hbase : base ≤ w0.heap.size)
  (h : ∀ v' w', Bytes base v' (x ++ b) w' → w0.grownBy w' v.ownBlock → wpList Tryd.prog ops Q rest (a.put o.dst v') w') : wpList Tryd.prog ops Q (o :: rest) a (w0.alloc (.cells #[.int .u8 c] 5)) := by
 have hb1 : b.size = 1 := by have := congrArg List.length hb; rwa [Lib.strCells_length] at this
 refine wp_append_one ti_bytes rfl w0 (.int .u8 c) rfl hg s y ho base v x.size (Lib.strCells x) hs hown hy (by unfold maxLen; omega) (by omega) hbase fun v' w' h1 h2 => h v' w' ?_ h2
 unfold Bytes
 rw [strCells_append, ByteArray.size_append, hb, hb1]
 exact h1
theorem strCells_at (s : ByteArray) (k : Nat) (h : k < s.size) : Lib.strCells (s.extract k (k + 1)) = [.int .u8 (s[k].toNat : Int)] := by
 have e : s.data.toList.length = s.size := Array.length_toList
 unfold Lib.strCells
 rw [ByteArray.data_extract, Array.toList_extract, List.extract_eq_take_drop, List.drop_eq_getElem_cons (by omega), show k + 1 - k = 1 from by omega]
 simp [ByteArray.getElem_eq_getElem_data]
theorem run_own_string {base : Nat} {v : Value} {s : ByteArray} {w : World} (h : Bytes base v s w) : (convert 22 9 v).run Tryd.prog w = .ok (.string s) w := by
 rcases h.2 with ⟨rfl, h0⟩ | ⟨g, cap, cur, rfl, hb, hg, hnc, hcm, hcs, htake⟩
 ·rw [run_convert_bytes_string _ _ _ 5 _ 0 0 Tryd.underlying22 Tryd.underlying5 Tryd.underlying9]
  have : s = ⟨#[]⟩ := by apply Go.WideShapes.bytes_inj; rw [← List.length_eq_zero_iff, Array.length_toList]; exact h0
  subst this
  simp [Conv.bytesToString, loadCells]
  rfl
 ·have hl : s.data.toList.length = s.size := Array.length_toList
  have := run_convert_bytes_back (P := Tryd.prog) w 22 9 5 ⟨g, 0, Option.none⟩ cap s.data.toList Tryd.underlying22 Tryd.underlying5 Tryd.underlying9 (fun j hj => by
   have h1 := h.cellAt j (by omega)
   have h2 : (Lib.strCells s)[j]? = some (.int .u8 (s.data.toList[j].toNat : Int)) := by simp [Lib.strCells, List.getElem?_eq_getElem hj]
   rw [Addr.add_lit, Nat.zero_add]
   exact h1.trans h2)
  rw [hl] at this
  simpa using this

end Go.Proofs.YtlegeancmcmbaaaDoor

/- The drawing of a line. -/
namespace Go.Proofs.YtlegeancmcmbaaaDoor
open Go.RowKit
end Go.Proofs.YtlegeancmcmbaaaDoor

/- The drawing of tokens. -/
namespace Go.Proofs.YtlegeancmcmbaaaDoor
open Go.RowKit
theorem wp_append_tokE {w : World} {ops : Array Oper} {rest : List Oper} {o : Oper} {a : Act} {Q : Exit → Act → World → Prop} (hg : o.guard = none) (s y : Operand)
  (ho : o.op = .call { callee := .builtin .append, args := #[s, y], argTypes := #[28, 28] })
  (base : Nat) (v : Value) (L : List (Elem Tok)) (hs : a.eval s = v) (hown : RowE sTok base 47 v L w) (k : Int) (x : ByteArray) (b : Bool) (ao : Option Addr) (m c : Nat) (l : List ByteArray) (fp : List Nat)
  (hy : a.eval y = .slice (some ⟨w.heap.size, 0, none⟩) 1 1) (hR : sTok.R w [.int .i64 k, .string x, .bool b, .slice ao m c] ⟨k, x, b, l⟩ fp) (hlo : ∀ b ∈ fp, base ≤ b) (hty : ∀ b ∈ fp, ∃ cur t fr, w.heap[b]? = some (.cells cur t fr) ∧ t ≠ 47)
  (h63 : L.length ≤ 2000000) (hbase : base ≤ w.heap.size)
  (h : ∀ v' w', RowE sTok base 47 v' (L ++ [⟨[.int .i64 k, .string x, .bool b, .slice ao m c], ⟨k, x, b, l⟩, fp⟩]) w' → w.grownBy w' v.ownBlock → wpList Tryd.prog ops Q rest (a.put o.dst v') w') :
  wpList Tryd.prog ops Q (o :: rest) a (w.alloc (.cells #[.int .i64 k, .string x, .bool b, .slice ao m c] 47)) := by
 have hb := alloc_below' w (.cells #[.int .i64 k, .string x, .bool b, .slice ao m c] 47)
 refine wp_append_rowE (S := sTok) ti_tok rfl (by decide) _ (X := [⟨[.int .i64 k, .string x, .bool b, .slice ao m c], ⟨k, x, b, l⟩, fp⟩]) hg s y ho base v hs (hown.below hb) w.heap.size 1 1 hy rfl ?_ ?_ ?_ ?_ ?_ ?_ (by unfold maxLen; omega) (by omega) (by simp; omega) fun v' w' a b => h v' w' a (grown_trans (World.grownBy_alloc _ _ _) b)
 ·intro x hx; obtain rfl := List.mem_singleton.1 hx; rfl
 ·intro x hx; obtain rfl := List.mem_singleton.1 hx; simp [Value.oneCell']
 ·intro j u hj
  rw [World.cell?_alloc_at _ _ _ _ rfl]
  simpa using hj
 ·intro x hx; obtain rfl := List.mem_singleton.1 hx; exact sTok.below hR hb
 ·intro x hx; obtain rfl := List.mem_singleton.1 hx; exact hlo
 ·intro x hx b' hb'
  obtain rfl := List.mem_singleton.1 hx
  obtain ⟨cur, t, fr, h1, h2⟩ := hty b' hb'
  exact ⟨cur, t, fr, (hb.block b' (Array.getElem?_eq_some_iff.1 h1).1).trans h1, h2⟩

end Go.Proofs.YtlegeancmcmbaaaDoor

/- Copies of tokens: the model's own. -/
namespace Go.Proofs.YtlegeancmcmbaaaDoor
open Go.RowKit

theorem run_append_nil {P : Program} {w : World} (base : Nat) (t ty e : TypeId) (i : TypeInfo) (size c : Nat) (ht : P.underlying t = some (.slice e)) (hi : P.info? e = some i)
  (v : Value) (n : Nat) (xs : List Value) (hown : w.ownsRow base e size v n xs) : (Builtin.append_ #[t, t] ty #[v, .slice none 0 c]).run P w = .ok v w := by
 rcases hown.2 with ⟨rfl, rfl⟩ | ⟨g, cap, cur, rfl, _, _, hnc, _⟩
 ·simp [Builtin.append_, run_underlying ht, sizeOf, typeInfo, hi, Builtin.lenOf, Builtin.firstCells]
 ·simp [Builtin.append_, run_underlying ht, sizeOf, typeInfo, hi, Builtin.lenOf, Builtin.firstCells, hnc, storeCells]
theorem wp_append_strsR {w : World} {ops : Array Oper} {rest : List Oper} {o : Oper} {a : Act} {Q : Exit → Act → World → Prop} (hg : o.guard = none) (s y : Operand)
  (ho : o.op = .call { callee := .builtin .append, args := #[s, y], argTypes := #[45, 45] })
  (base : Nat) (v u : Value) (L M : List ByteArray) (fp : List Nat) (hs : a.eval s = v) (hown : w.ownsRow base 9 1 v L.length (L.map Value.string)) (hy : a.eval y = u) (HM : (sSlice sStr).R w [u] M fp)
  (h63 : L.length + M.length ≤ 4000000) (hbase : base ≤ w.heap.size)
  (h : ∀ v' w', w'.ownsRow base 9 1 v' (L ++ M).length ((L ++ M).map Value.string) → w.grownBy w' v.ownBlock → wpList Tryd.prog ops Q rest (a.put o.dst v') w') : wpList Tryd.prog ops Q (o :: rest) a w := by
 obtain ⟨i, hi, hz0, hz1, hz2⟩ := info_parts ti27.2
 obtain ⟨ad, cap, rfl, hc, hm, hcell, hsz⟩ := open_strs HM
 have key : ∀ (b off : Nat), (0 < M.length → ∀ j, (hj : j < M.length) → w.cell? ⟨b, off + j, none⟩ = some (.string M[j])) → a.eval y = .slice (some ⟨b, off, none⟩) M.length cap → wpList Tryd.prog ops Q (o :: rest) a w := by
  intro b off hat hy'
  refine wpList_append_own _ hg s y 45 ho base 9 i _ 1 16 ti27.1 hi hz0 hz1 hz2 rfl (by decide) v L.length (L.map Value.string) hs hown ⟨b, off, none⟩ M.length cap (M.map Value.string) hy' (by simp) ?_ ?_ (by unfold maxLen; omega) (by omega) hbase fun v' w' h1 h2 _ => h v' w' ?_ h2
  ·intro j x hj
   have hj' : j < M.length := by have := (List.getElem?_eq_some_iff.1 hj).1; simpa using this
   rw [Addr.add_lit, hat (by omega) j hj', ← hj]
   simp [List.getElem?_eq_getElem hj']
  ·intro x hx
   obtain ⟨s, _, rfl⟩ := List.mem_map.1 hx
   rfl
  ·simpa using h1
 by_cases h0 : 0 < M.length
 ·obtain ⟨b, off, rfl, _, _, hc2⟩ := hcell h0
  exact key b off (fun _ j hj => hc2 j hj) hy
 ·have hM : M = [] := List.length_eq_zero_iff.1 (by omega)
  subst hM
  cases ad with
  |
   none =>
   have hrun := run_append_nil (P := Tryd.prog) (w := w) base 45 o.type 9 i 1 cap ti27.1 hi v L.length _ hown
   have hK := h v w (by simpa using hown) ⟨rfl, rfl, rfl, Nat.le_refl _, fun _ _ _ => rfl⟩
   refine wpList_plain hg fun K hK' => ?_
   unfold Oper.wp
   simp only [List.length_nil] at hy
   simp [execOp, ho, resolve, invoke, builtin, hs, hy, hrun, Result.andThen]
   exact hK' _ _ hK
  |
   some ad =>
   refine wpList_append_own _ hg s y 45 ho base 9 i _ 1 16 ti27.1 hi hz0 hz1 hz2 rfl (by decide) v L.length (L.map Value.string) hs hown ad 0 cap [] hy rfl (by simp) (by simp) (by unfold maxLen; omega) (by omega) hbase fun v' w' h1 h2 _ => h v' w' (by simpa using h1) h2

def OwnTok (x : Tok) (w : World) (e : Ending) (w' : World) : Prop :=
 ∃ (ao : Option Addr) (c : Nat) (fp : List Nat), e = .returned (.agg #[.int .i64 x.kind, .string x.text, .bool x.spaced, .slice ao x.hidden.length c]) ∧ sTok.R w' [.int .i64 x.kind, .string x.text, .bool x.spaced, .slice ao x.hidden.length c] x fp ∧
  (∀ b ∈ fp, w.heap.size ≤ b) ∧ (∀ b ∈ fp, ∃ cur t fr, w'.heap[b]? = some (.cells cur t fr) ∧ t = 9) ∧ Below w.heap.size w w'

set_option maxHeartbeats 4000000 in
set_option maxRecDepth 100000 in
theorem spec_l1OwnToken (cs : List Value) (x : Tok) (fp : List Nat) (w : World) (hx : x.hidden.length ≤ 2000000) (H : sTok.R w cs x fp) : Calls Tryd.prog 64 #[.agg cs.toArray] w (OwnTok x w) := by
 obtain ⟨h, rfl, hk, hok, K⟩ := H
 obtain ⟨a0, cap0, rfl, -, -, -, hsz⟩ := open_strs K
 have hb3 := below3 w #[.int .i64 x.kind, .string x.text, .bool x.spaced, .slice a0 x.hidden.length cap0] #[.int .i64 0, .string ⟨#[]⟩, .bool false, .slice none 0 0] #[.int .i64 x.kind, .string x.text, .bool x.spaced, .slice a0 x.hidden.length cap0] 47 47 47
 have g0 := alloc3_blk0 w #[.int .i64 x.kind, .string x.text, .bool x.spaced, .slice a0 x.hidden.length cap0] #[.int .i64 0, .string ⟨#[]⟩, .bool false, .slice none 0 0] #[.int .i64 x.kind, .string x.text, .bool x.spaced, .slice a0 x.hidden.length cap0] 47 47 47
 obtain ⟨g1, g2, hs3⟩ := alloc3_blk w #[.int .i64 x.kind, .string x.text, .bool x.spaced, .slice a0 x.hidden.length cap0] #[.int .i64 0, .string ⟨#[]⟩, .bool false, .slice none 0 0] #[.int .i64 x.kind, .string x.text, .bool x.spaced, .slice a0 x.hidden.length cap0] 47 47 47
 have HK := Lib.hid ((sSlice sStr).below K hb3)
 have HSZ := Lib.hid hsz
 clear K hsz
 obtain ⟨hv, HV⟩ : ∃ hv : Value, Hid (hv = Value.slice a0 x.hidden.length cap0) := ⟨_, rfl⟩
 go_enter Tryd.func64, Tryd.ntmps64
 go_upto_region 2 with fail
 generalize (((w.alloc (.cells #[.int .i64 x.kind, .string x.text, .bool x.spaced, .slice a0 x.hidden.length cap0] 47)).alloc (.cells #[.int .i64 0, .string ⟨#[]⟩, .bool false, .slice none 0 0] 47)).alloc (.cells #[.int .i64 x.kind, .string x.text, .bool x.spaced, .slice a0 x.hidden.length cap0] 47)) = W3 at *
 have hba := alloc_below' W3 (.cells #[] 9)
 have c03 : (W3.alloc (.cells #[] 9)).cell? ⟨w.heap.size, 3, none⟩ = some hv := by
  rw [HV.out]
  exact (hba.cell (p := ⟨w.heap.size, 3, none⟩) (by show w.heap.size < _; omega)).trans (cell_of_row _ _ 3 _ _ _ g0)
 have hlit : Hid ((W3.alloc (.cells #[] 9)).ownsRow W3.heap.size 9 1 (.slice (some ⟨W3.heap.size, 0, none⟩) 0 0) ([] : List ByteArray).length (([] : List ByteArray).map Value.string)) :=
  World.ownsRow_lit (base := W3.heap.size) (e := 9) (size := 1) W3 #[] 0 (Nat.le_refl _) (by simp) rfl
 have HKV : Hid ((sSlice sStr).R (W3.alloc (.cells #[] 9)) [hv] x.hidden fp) := by show (sSlice sStr).R _ _ _ _; rw [HV.out]; exact (sSlice sStr).below HK.out hba
 have HG := Lib.hid (And.intro g1 (And.intro g2 hs3))
 have hb4 := Lib.hid (hb3.trans (hba.mono hb3.size))
 clear g0 g1 g2 hb3 hs3 HK hba
 go_wp2_with (
  at_builtin
  refine wp_append_strsR rfl (.tmp 5) (.tmp 7) rfl W3.heap.size (.slice (some ⟨W3.heap.size, 0, none⟩) 0 0) hv [] x.hidden _ rfl hlit.out rfl HKV.out (by simp; omega) (by simp) ?_
  intro v5 w1 hown hgrow
  rw [List.nil_append] at hown
  obtain ⟨fp1, R1, O1, hfp⟩ := own_flat (ok := okStr) hown HSZ.out
  have hs3 := HG.out.2.2
  have hblk : ∀ k, k < W3.heap.size → w1.heap[k]? = W3.heap[k]? := fun k hk => (hgrow.block k (by simp; omega) (by simp [Value.ownBlock]; omega)).trans ((alloc_below' W3 _).block k hk)
  have HG1 : Hid (w1.heap[w.heap.size + 1]? = some (.cells #[.int .i64 0, .string ⟨#[]⟩, .bool false, .slice none 0 0] 47 (0, 0)) ∧ w1.heap[w.heap.size + 1 + 1]? = some (.cells #[.int .i64 x.kind, .string x.text, .bool x.spaced, .slice a0 x.hidden.length cap0] 47 (0, 0))) :=
   ⟨(hblk _ (by omega)).trans HG.out.1, (hblk _ (by omega)).trans HG.out.2.1⟩
  have hb : Below w.heap.size w w1 := hb4.out.grown hgrow (by simp; omega) (fun b hb => by simp [Value.ownBlock] at hb; omega)
  have hty : ∀ b ∈ fp1, ∃ cur t fr, w1.heap[b]? = some (.cells cur t fr) ∧ t = 9 := fun b hb' => by
   have hv := hfp b hb'
   rcases hown.2 with ⟨rfl, _⟩ | ⟨g, cap, cur, rfl, _, hg, _⟩
   ·simp [Value.ownBlock] at hv
   ·simp only [Value.ownBlock, Option.some.injEq] at hv
    subst hv
    exact ⟨_, _, _, hg, rfl⟩
  have hlo : ∀ b ∈ fp1, w.heap.size + 3 ≤ b := fun b hb => by have := (O1.2 b hb).1; omega
  clear HG hblk hgrow hown hfp O1 c03 hb4 HKV hlit hs3
  obtain ⟨a1, cap1, rfl, hq⟩ := open_rows R1
  clear hq
  have c10 : w1.cell? ⟨w.heap.size + 1, 0, none⟩ = some (.int .i64 0) := cell_of_row w1 (w.heap.size + 1) 0 _ _ _ HG1.out.1
  have c11 : w1.cell? ⟨w.heap.size + 1, 1, none⟩ = some (.string ⟨#[]⟩) := cell_of_row w1 (w.heap.size + 1) 1 _ _ _ HG1.out.1
  have c12 : w1.cell? ⟨w.heap.size + 1, 2, none⟩ = some (.bool false) := cell_of_row w1 (w.heap.size + 1) 2 _ _ _ HG1.out.1
  have c13 : w1.cell? ⟨w.heap.size + 1, 3, none⟩ = some (.slice none 0 0) := cell_of_row w1 (w.heap.size + 1) 3 _ _ _ HG1.out.1
  have c20 : w1.cell? ⟨w.heap.size + 1 + 1, 0, none⟩ = some (.int .i64 x.kind) := cell_of_row w1 (w.heap.size + 1 + 1) 0 _ _ _ HG1.out.2
  have c21 : w1.cell? ⟨w.heap.size + 1 + 1, 1, none⟩ = some (.string x.text) := cell_of_row w1 (w.heap.size + 1 + 1) 1 _ _ _ HG1.out.2
  have c22 : w1.cell? ⟨w.heap.size + 1 + 1, 2, none⟩ = some (.bool x.spaced) := cell_of_row w1 (w.heap.size + 1 + 1) 2 _ _ _ HG1.out.2
  have c23 : w1.cell? ⟨w.heap.size + 1 + 1, 3, none⟩ = some (.slice a0 x.hidden.length cap0) := cell_of_row w1 (w.heap.size + 1 + 1) 3 _ _ _ HG1.out.2
  have f10 : w1.frozen? ⟨w.heap.size + 1, 0, none⟩ = false := frozen_of_row w1 (w.heap.size + 1) 0 _ _ HG1.out.1
  have f11 : w1.frozen? ⟨w.heap.size + 1, 1, none⟩ = false := frozen_of_row w1 (w.heap.size + 1) 1 _ _ HG1.out.1
  have f12 : w1.frozen? ⟨w.heap.size + 1, 2, none⟩ = false := frozen_of_row w1 (w.heap.size + 1) 2 _ _ HG1.out.1
  have f13 : w1.frozen? ⟨w.heap.size + 1, 3, none⟩ = false := frozen_of_row w1 (w.heap.size + 1) 3 _ _ HG1.out.1
  have f23 : w1.frozen? ⟨w.heap.size + 1 + 1, 3, none⟩ = false := frozen_of_row w1 (w.heap.size + 1 + 1) 3 _ _ HG1.out.2
  have hn1 : w.heap.size + 1 ∉ fp1 := fun hx => by have := hlo _ hx; omega
  have hn2 : w.heap.size + 1 + 1 ∉ fp1 := fun hx => by have := hlo _ hx; omega
  have HLO : Hid (∀ b ∈ fp1, w.heap.size ≤ b) := fun b hb => by have := hlo b hb; omega
  have HR := Lib.hid ((sSlice sStr).setB ((sSlice sStr).setB ((sSlice sStr).setB ((sSlice sStr).setB ((sSlice sStr).setB R1 hn2 3 (.slice a1 x.hidden.length cap1)) hn1 0 (.int .i64 x.kind)) hn1 1 (.string x.text)) hn1 2 (.bool x.spaced)) hn1 3 (.slice a1 x.hidden.length cap1))
  have HT : Hid (∀ b ∈ fp1, ∃ cur t fr, (((((w1.setCell ⟨w.heap.size + 1 + 1, 3, none⟩ (.slice a1 x.hidden.length cap1)).setCell ⟨w.heap.size + 1, 0, none⟩ (.int .i64 x.kind)).setCell ⟨w.heap.size + 1, 1, none⟩ (.string x.text)).setCell ⟨w.heap.size + 1, 2, none⟩ (.bool x.spaced)).setCell ⟨w.heap.size + 1, 3, none⟩ (.slice a1 x.hidden.length cap1)).heap[b]? = some (.cells cur t fr) ∧ t = 9) := fun b hb => by
   obtain ⟨cur, t, fr, q1, q2⟩ := hty b hb
   have e1 : b ≠ w.heap.size + 1 := fun e => hn1 (e ▸ hb)
   have e2 : b ≠ w.heap.size + 1 + 1 := fun e => hn2 (e ▸ hb)
   exact ⟨cur, t, fr, blk_other (blk_other (blk_other (blk_other (blk_other q1 e2 _ _) e1 _ _) e1 _ _) e1 _ _) e1 _ _, q2⟩
  have HB := Lib.hid (((((hb.setCell (p := ⟨w.heap.size + 1 + 1, 3, none⟩) (by simp; omega) (.slice a1 x.hidden.length cap1)).setCell (p := ⟨w.heap.size + 1, 0, none⟩) (by simp) (.int .i64 x.kind)).setCell (p := ⟨w.heap.size + 1, 1, none⟩) (by simp) (.string x.text)).setCell (p := ⟨w.heap.size + 1, 2, none⟩) (by simp) (.bool x.spaced)).setCell (p := ⟨w.heap.size + 1, 3, none⟩) (by simp) (.slice a1 x.hidden.length cap1))
  have HS := Lib.hid (blk_set (blk_set (blk_set (blk_set (blk_other HG1.out.1 (by omega : w.heap.size + 1 ≠ w.heap.size + 1 + 1) 3 (.slice a1 x.hidden.length cap1)) 0 (.int .i64 x.kind)) 1 (.string x.text)) 2 (.bool x.spaced)) 3 (.slice a1 x.hidden.length cap1))
  clear HG1 hty hlo)
 refine bodyPost_ret (results_cell_row rfl _ _ (w.heap.size + 1) _ _ _ _ rfl HS.out Tryd.underlying47 rfl (by kernel_rfl)) rfl ?_
 exact ⟨a1, cap1, fp1, rfl, ⟨_, rfl, hk, hok, HR.out⟩, HLO.out, HT.out, HB.out⟩

def OwnToks (l : List Tok) (w : World) (e : Ending) (w' : World) : Prop := ∃ v fp, e = .returned v ∧ (sSlice sTok).R w' [v] l fp ∧ Below w.heap.size w w'
def NoMac (w : World) (fp : List Nat) : Prop := ∀ b ∈ fp, ∃ cur t fr, w.heap[b]? = some (.cells cur t fr) ∧ t ≠ 79
theorem NoMac.same {w w' : World} {fp : List Nat} (h : NoMac w fp) (hb : ∀ b ∈ fp, b < w.heap.size → w'.heap[b]? = w.heap[b]?) : NoMac w' fp := fun b hb' => by
 obtain ⟨cur, t, fr, h1, h2⟩ := h b hb'
 exact ⟨cur, t, fr, (hb b hb' (Array.getElem?_eq_some_iff.1 h1).1).trans h1, h2⟩
theorem NoMac.below {w w' : World} {fp : List Nat} (h : NoMac w fp) (hb : Below w.heap.size w w') : NoMac w' fp := h.same fun b _ hl => hb.block b hl
def TokTy (w : World) (fp : List Nat) : Prop := ∀ b ∈ fp, ∃ cur t fr, w.heap[b]? = some (.cells cur t fr) ∧ (t = 47 ∨ t = 9)
theorem TokTy.same {w w' : World} {fp : List Nat} (h : TokTy w fp) (hb : ∀ b ∈ fp, b < w.heap.size → w'.heap[b]? = w.heap[b]?) : TokTy w' fp := fun b hb' => by
 obtain ⟨cur, t, fr, h1, h2⟩ := h b hb'
 exact ⟨cur, t, fr, (hb b hb' (Array.getElem?_eq_some_iff.1 h1).1).trans h1, h2⟩
theorem TokTy.below {w w' : World} {fp : List Nat} (h : TokTy w fp) (hb : Below w.heap.size w w') : TokTy w' fp := h.same fun b _ hl => hb.block b hl
theorem TokTy.mac {w : World} {fp : List Nat} (h : TokTy w fp) : NoMac w fp := fun b hb => by
 obtain ⟨cur, t, fr, h1, h2⟩ := h b hb
 refine ⟨cur, t, fr, h1, ?_⟩
 rcases h2 with rfl | rfl <;> decide
def OwnToksS (l : List Tok) (w : World) (e : Ending) (w' : World) : Prop := ∃ v fp, e = .returned v ∧ (sSlice sTok).R w' [v] l fp ∧ (∀ b ∈ fp, w.heap.size ≤ b) ∧ TokTy w' fp ∧ Below w.heap.size w w'
set_option maxHeartbeats 4000000 in
set_option maxRecDepth 100000 in
theorem spec_l1OwnTokenList_s (v : Value) (l : List Tok) (fp : List Nat) (w : World) (hl : l.length ≤ 1048576) (hx : ∀ k, (hk : k < l.length) → l[k].hidden.length ≤ 2000000) (H : (sSlice sTok).R w [v] l fp) :
  Calls Tryd.prog 39 #[v] w (OwnToksS l w) := by
 obtain ⟨a, cap, rfl, hc, hm, hrow⟩ := open_rows H
 unfold maxLen at hm
 clear H
 have HX := Lib.hid hx
 clear hx
 have hlit : Hid (RowE sTok w.heap.size 47 (.slice (some ⟨w.heap.size, 0, none⟩) 0 0) [] (w.alloc (.cells #[] 47))) := RowE.lit [] (by simp) (by simp) (by simp) (by simp) (Nat.le_refl _) (by simp)
 have hba := alloc_below' w (.cells #[] 47)
 go_enter Tryd.func39, Tryd.ntmps39
 go_wp2
 go_loopw [3, 4] (fun o i wr => ∃ (k : Nat) (L : List (Elem Tok)), k ≤ l.length ∧ i = .int .i64 k ∧ Hid (RowE sTok w.heap.size 47 o L wr) ∧ Hid (L.map (·.d) = l.take k) ∧ Hid (∀ x ∈ L, TokTy wr x.fp) ∧ Below w.heap.size w wr) (fun _ i _ => l.length - (intOf i).toNat)
 case atStart => exact ⟨0, [], by omega, rfl, hlit, rfl, (show ∀ x ∈ ([] : List (Elem Tok)), TokTy _ x.fp from by simp), hba⟩
 case round =>
  clear hlit hba
  obtain ⟨k, L, hk, rfl, HE, HD, HN, hb⟩ := hrel
  by_cases hlt : k < l.length
  ·obtain ⟨b1, off1, fps1, rfl, hb1, -, he1⟩ := hrow (by omega)
   obtain ⟨es1, hE1, hR1⟩ := he1 k hlt
   clear hrow he1
   have hR2 := sTok.below hR1 hb
   obtain ⟨h1', rfl, _, _, _⟩ := hR1
   have HC := Lib.hid (spec_l1OwnToken _ _ _ wr (HX.out k hlt) hR2)
   clear hR2
   replace hE1 := hE1.frame (hb.block b1 hb1)
   have c10 : wr.cell? ⟨b1, off1 + k * 4, none⟩ = some _ := elem_cell0 hE1 (by decide) rfl
   have c11 : wr.cell? ⟨b1, off1 + k * 4 + 1, none⟩ = some _ := elem_cell (j := 1) hE1 (by decide) rfl
   have c12 : wr.cell? ⟨b1, off1 + k * 4 + 2, none⟩ = some _ := elem_cell (j := 2) hE1 (by decide) rfl
   have c13 : wr.cell? ⟨b1, off1 + k * 4 + 3, none⟩ = some _ := elem_cell (j := 3) hE1 (by decide) rfl
   clear hE1
   have HLl : Hid (L.length = k) := by have := congrArg List.length HD.out; simp at this; show _ = _; omega
   go_wp2_with fail
   refine HC.out.mono ?_
   rintro e w2 ⟨ao, c, fp2, rfl, hR2, hlo2, hty2, hb2⟩
   obtain ⟨ar, capr, rfl, -⟩ := HE.out.val
   have hE2 := HE.out.below hb2
   have hty2' : ∀ b ∈ fp2, ∃ cur t fr, w2.heap[b]? = some (.cells cur t fr) ∧ t ≠ 47 := fun b hb => by obtain ⟨cur, t, fr, h1, h2⟩ := hty2 b hb; exact ⟨cur, t, fr, h1, by rw [h2]; decide⟩
   have HN2 : Hid (∀ x ∈ L ++ [(⟨[.int .i64 l[k].kind, .string l[k].text, .bool l[k].spaced, .slice ao l[k].hidden.length c], ⟨l[k].kind, l[k].text, l[k].spaced, l[k].hidden⟩, fp2⟩ : Elem Tok)], TokTy w2 x.fp) := fun x hx => by
    rcases List.mem_append.1 hx with hx | hx
    ·exact (HN.out x hx).below hb2
    ·obtain rfl := List.mem_singleton.1 hx
     intro b hb
     obtain ⟨cur, t, fr, h1, h2⟩ := hty2 b hb
     exact ⟨cur, t, fr, h1, .inr h2⟩
   have hbw := hb.trans (hb2.mono hb.size)
   have hlo3 : ∀ b ∈ fp2, w.heap.size ≤ b := fun b hx => Nat.le_trans hb.size (hlo2 b hx)
   clear c10 c11 c12 c13 HC HE
   go_wp2_with (at_builtin; refine wp_append_tokE rfl (.tmp 12) (.tmp 18) rfl w.heap.size (.slice ar L.length capr) L rfl hE2 l[k].kind l[k].text l[k].spaced ao l[k].hidden.length c l[k].hidden fp2 rfl hR2 hlo3 hty2' (by have := HLl.out; omega) hbw.size ?_; intro v3 w3 hE3 hg3)
   have hb3 : Below w.heap.size w w3 := hbw.grown hg3 hbw.size (fun b hb => (hE2.row.lt b hb).1)
   have HE3 := Lib.hid hE3
   have HN3 : Hid (∀ x ∈ L ++ [(⟨[.int .i64 l[k].kind, .string l[k].text, .bool l[k].spaced, .slice ao l[k].hidden.length c], ⟨l[k].kind, l[k].text, l[k].spaced, l[k].hidden⟩, fp2⟩ : Elem Tok)], TokTy w3 x.fp) := fun x hx => (HN2.out x hx).same fun b hb hl => hg3.block b hl (by
    rcases List.mem_append.1 hx with hx | hx
    ·exact fun e => hE2.ap hx hb e.symm
    ·obtain rfl := List.mem_singleton.1 hx
     intro e
     obtain ⟨cur, t, fr, h1, h2⟩ := hty2' b hb
     obtain ⟨g, capg, curg, q1, q2, q3, -⟩ : ∃ g capg curg, Value.slice ar L.length capr = .slice (some ⟨g, 0, none⟩) L.length capg ∧ w.heap.size ≤ g ∧ w2.heap[g]? = some (.cells curg 47 (0, 0)) ∧ True := by
      rcases hE2.row.2 with ⟨h0, _⟩ | ⟨g, capg, curg, q1, q2, q3, -⟩
      ·rw [h0] at e; simp [Value.ownBlock] at e
      ·exact ⟨g, capg, curg, q1, q2, q3, trivial⟩
     rw [q1] at e
     simp only [Value.ownBlock, Option.some.injEq] at e
     subst e
     rw [h1] at q3
     simp only [Option.some.injEq, Obj.cells.injEq] at q3
     exact h2 q3.2.1)
   have HD3 : Hid ((L ++ [(⟨[.int .i64 l[k].kind, .string l[k].text, .bool l[k].spaced, .slice ao l[k].hidden.length c], ⟨l[k].kind, l[k].text, l[k].spaced, l[k].hidden⟩, fp2⟩ : Elem Tok)]).map (·.d) = l.take (k + 1)) := by
    show _ = _
    rw [List.map_append, HD.out, List.take_succ_eq_append_getElem hlt]; rfl
   clear hE2 hE3 hg3 hR2 hty2 hty2' hlo2 hlo3 hb2 HN2 HN
   go_roundw
   case rel => exact ⟨k + 1, _, by omega, by go_num, HE3, HD3, HN3, hb3⟩
   case measure => simp [intOf]; omega
  ·obtain ⟨fpr, hr, hin, -⟩ := slice_of_row HE.out.row fun x hx => ⟨HE.out.len x hx, HE.out.el x hx⟩
   have HLO : Hid (∀ b ∈ fpr, w.heap.size ≤ b) := fun b hb => by
    rcases hin b hb with h | h
    ·exact HE.out.mine b h
    ·obtain ⟨x, hx, hb'⟩ := List.mem_flatMap.1 h
     exact HE.out.lo x hx b hb'
   have HNM : Hid (TokTy wr fpr) := fun b hb => by
    rcases hin b hb with h | h
    ·rcases HE.out.row.2 with ⟨h0, _⟩ | ⟨g, capg, curg, q1, q2, q3, -⟩
     ·rw [h0] at h; simp [Value.ownBlock] at h
     ·rw [q1] at h
      simp only [Value.ownBlock, Option.some.injEq] at h
      subst h
      exact ⟨_, _, _, q3, .inl rfl⟩
    ·obtain ⟨x, hx, hb'⟩ := List.mem_flatMap.1 h
     exact HN.out x hx b hb'
   clear hin
   have hd := HD.out
   rw [List.take_of_length_le (by omega)] at hd
   rw [hd] at hr
   have HR := Lib.hid hr
   clear hr hd HE HD HN
   go_wp2
   go_ret
   exact ⟨_, fpr, rfl, HR.out, HLO.out, HNM.out, hb⟩
def OwnToksT (l : List Tok) (w : World) (e : Ending) (w' : World) : Prop := ∃ v fp, e = .returned v ∧ (sSlice sTok).R w' [v] l fp ∧ (∀ b ∈ fp, w.heap.size ≤ b) ∧ NoMac w' fp ∧ Below w.heap.size w w'
theorem spec_l1OwnTokenList_t (v : Value) (l : List Tok) (fp : List Nat) (w : World) (hl : l.length ≤ 1048576) (hx : ∀ k, (hk : k < l.length) → l[k].hidden.length ≤ 2000000) (H : (sSlice sTok).R w [v] l fp) :
  Calls Tryd.prog 39 #[v] w (OwnToksT l w) := (spec_l1OwnTokenList_s v l fp w hl hx H).mono fun _ _ ⟨v, fp, h1, h2, h3, h4, h5⟩ => ⟨v, fp, h1, h2, h3, h4.mac, h5⟩
theorem spec_l1OwnTokenList (v : Value) (l : List Tok) (fp : List Nat) (w : World) (hl : l.length ≤ 1048576) (hx : ∀ k, (hk : k < l.length) → l[k].hidden.length ≤ 2000000) (H : (sSlice sTok).R w [v] l fp) :
  Calls Tryd.prog 39 #[v] w (OwnToks l w) := (spec_l1OwnTokenList_t v l fp w hl hx H).mono fun _ _ ⟨v, fp, h1, h2, _, _, h3⟩ => ⟨v, fp, h1, h2, h3⟩

end Go.Proofs.YtlegeancmcmbaaaDoor

/- The text of a macro is read as the macro again: no program. -/
namespace Go.Proofs.YtlegeancmcmbaaaDoor
open Go.RowKit

/-! ### Tokens that need no space between them -/
def markT (c : UInt8) : Tok := ⟨4, ⟨#[c]⟩, false, []⟩
def nameT (s : ByteArray) : Tok := ⟨1, s, false, []⟩
theorem nameT_ok {s : ByteArray} (h : oneTok s 1 = true) : tokOk (nameT s) = true := by
 unfold tokOk nameT
 rw [Bool.and_eq_true]
 exact ⟨h, by show hidOk [] = true; decide⟩
/-! ### Printing token by token -/
/-! ### The tokens of a macro's text -/
def hL (m : DMacro) : Nat → List Tok
 | 0 => [nameT m.name, markT 40]
 | k + 1 => (if 0 < k then hL m k ++ [markT 44] else hL m k) ++ [nameT (if h : k < m.params.length then m.params[k] else ⟨#[]⟩)]
/-! ### Reading it -/
theorem bodyFrom_len (l : List Tok) (k : Nat) : (bodyFrom l k).length = l.length - k := by simp [bodyFrom]
theorem bodyFrom_get (l : List Tok) (k i : Nat) (h : i < (bodyFrom l k).length) : (bodyFrom l k)[i] = ⟨(l[k + i]'(by rw [bodyFrom_len] at h; omega)).kind, (l[k + i]'(by rw [bodyFrom_len] at h; omega)).text, (l[k + i]'(by rw [bodyFrom_len] at h; omega)).spaced && decide (0 < i), []⟩ := by simp [bodyFrom]
/-! ### What the other promises ask -/
end Go.Proofs.YtlegeancmcmbaaaDoor

/- Valid macros, part by part, as both sides ask for them: no program. -/
namespace Go.Proofs.YtlegeancmcmbaaaDoor
open Go.RowKit

theorem txt_dec (x : ByteArray) (l : List UInt8) : (x.toList == l) = decide (x = ⟨l.toArray⟩) := by
 rw [ByteArray.toList_eq]
 by_cases h : x = ⟨l.toArray⟩
 ·subst h; simp
 ·rw [decide_eq_false h, beq_eq_false_iff_ne]
  intro e
  apply h
  rw [← e]
theorem txt_t {x : ByteArray} {l : List UInt8} (h : x = ⟨l.toArray⟩) : (x.toList == l) = true := by rw [txt_dec, decide_eq_true h]
theorem txt_f {x : ByteArray} {l : List UInt8} (h : x ≠ ⟨l.toArray⟩) : (x.toList == l) = false := by rw [txt_dec, decide_eq_false h]

/-! ### Parameters -/
def ParUpto (ps : List ByteArray) (k : Nat) : Prop := ∀ j, j < k → parOk ps j = true
theorem ParUpto.zero (ps : List ByteArray) : ParUpto ps 0 := by intro j h; omega
theorem ParUpto.succ {ps : List ByteArray} {k : Nat} (h : ParUpto ps k) (h1 : parOk ps k = true) : ParUpto ps (k + 1) := by
 intro j hj
 by_cases e : j = k
 ·subst e; exact h1
 ·exact h j (by omega)
def NotUpto (ps : List ByteArray) (x : ByteArray) (j : Nat) : Prop := ∀ i, i < j → ps[i]? ≠ some x
theorem NotUpto.zero (ps : List ByteArray) (x : ByteArray) : NotUpto ps x 0 := by intro i h; omega
theorem NotUpto.succ {ps : List ByteArray} {x : ByteArray} {j : Nat} (h : NotUpto ps x j) (hj : j < ps.length) (hn : ps[j] ≠ x) : NotUpto ps x (j + 1) := by
 intro i hi
 by_cases e : i = j
 ·subst e; rw [List.getElem?_eq_getElem hj]; intro h'; exact hn (Option.some.inj h')
 ·exact h i (by omega)
theorem par_name {ps : List ByteArray} {k : Nat} (hk : k < ps.length) (h : oneTok ps[k] 1 = false) : parOk ps k = false := by unfold parOk; rw [dif_pos hk, h]; rfl
theorem par_twice {ps : List ByteArray} {k j : Nat} (hk : k < ps.length) (hj : j < k) (h : ps[j]'(by omega) = ps[k]) : parOk ps k = false := by
 unfold parOk
 rw [dif_pos hk]
 have : (List.range k).all (fun j => !decide (ps[j]? = some ps[k])) = false := by
  rw [List.all_eq_false]
  exact ⟨j, by simpa using hj, by simp [List.getElem?_eq_getElem (show j < ps.length by omega), h]⟩
 rw [this, Bool.and_false]
theorem par_yes {ps : List ByteArray} {k : Nat} (hk : k < ps.length) (h : oneTok ps[k] 1 = true) (hn : NotUpto ps ps[k] k) : parOk ps k = true := by
 unfold parOk
 rw [dif_pos hk, h, Bool.true_and, List.all_eq_true]
 intro j hj
 have := hn j (by simpa using hj)
 simp [this]

/-! ### The body -/
def bodI (b : List Tok) (k : Nat) : Bool :=
 if h : k < b.length then
  decide (b[k].hidden.length = 0) && !(decide (k = 0) && b[k].spaced) && !(decide (b[k].text = hash2) && (decide (k = 0) || decide (k + 1 = b.length) || decide ((b[k - 1]'(by omega)).text = hash2)))
 else true
def hasTx (ps : List ByteArray) (x : ByteArray) : Bool := ps.any fun p => decide (p = x)
theorem hasTx_iff {ps : List ByteArray} {x : ByteArray} : hasTx ps x = true ↔ x ∈ ps := by
 unfold hasTx
 rw [List.any_eq_true]
 exact ⟨fun ⟨p, h1, h2⟩ => by rw [← of_decide_eq_true h2]; exact h1, fun h => ⟨x, h, by simp⟩⟩
def signS (m : DMacro) (k : Nat) : Bool := if h : k < m.body.length then !(decide (m.body[k].text = hash1) && (if h2 : k + 1 < m.body.length then decide (parOf m.params m.body[k + 1] < 0) else true)) else true
def signI (m : DMacro) (k : Nat) : Bool := if h : k < m.body.length then !(decide (m.body[k].text = hash1) && (if h2 : k + 1 < m.body.length then !hasTx m.params m.body[k + 1].text else true)) else true
theorem bodOk_split (m : DMacro) (k : Nat) (hk : k < m.body.length) : bodOk m k = (tokOk m.body[k] && bodI m.body k && (!m.function || signS m k)) := by
 unfold bodOk bodI signS
 rw [dif_pos hk, dif_pos hk, dif_pos hk]
 cases tokOk m.body[k] <;> cases decide (m.body[k].hidden.length = 0) <;> cases (decide (k = 0) && m.body[k].spaced) <;> cases m.function <;> simp
theorem bodI_ways {b : List Tok} {k : Nat} (hk : k < b.length) :
  (b[k].hidden.length ≠ 0 ∧ Hid (bodI b k = false)) ∨
  (b[k].hidden.length = 0 ∧ k = 0 ∧ b[k].spaced = true ∧ Hid (bodI b k = false)) ∨
  (b[k].hidden.length = 0 ∧ k = 0 ∧ b[k].spaced = false ∧ b[k].text = hash2 ∧ Hid (bodI b k = false)) ∨
  (b[k].hidden.length = 0 ∧ k = 0 ∧ b[k].spaced = false ∧ b[k].text ≠ hash2 ∧ Hid (bodI b k = true)) ∨
  (b[k].hidden.length = 0 ∧ k ≠ 0 ∧ b[k].text = hash2 ∧ k + 1 = b.length ∧ Hid (bodI b k = false)) ∨
  (b[k].hidden.length = 0 ∧ k ≠ 0 ∧ b[k].text = hash2 ∧ k + 1 ≠ b.length ∧ (b[k - 1]'(by omega)).text = hash2 ∧ Hid (bodI b k = false)) ∨
  (b[k].hidden.length = 0 ∧ k ≠ 0 ∧ b[k].text = hash2 ∧ k + 1 ≠ b.length ∧ (b[k - 1]'(by omega)).text ≠ hash2 ∧ Hid (bodI b k = true)) ∨
  (b[k].hidden.length = 0 ∧ k ≠ 0 ∧ b[k].text ≠ hash2 ∧ Hid (bodI b k = true)) := by
 have e : bodI b k = (decide (b[k].hidden.length = 0) && !(decide (k = 0) && b[k].spaced) && !(decide (b[k].text = hash2) && (decide (k = 0) || decide (k + 1 = b.length) || decide ((b[k - 1]'(by omega)).text = hash2)))) := by
  unfold bodI; rw [dif_pos hk]
 by_cases h1 : b[k].hidden.length = 0
 ·by_cases h2 : k = 0
  ·subst h2
   cases h3 : b[0].spaced
   ·by_cases h4 : b[0].text = hash2
    ·exact .inr (.inr (.inl ⟨h1, rfl, rfl, h4, by show _ = _; rw [e, h3, decide_eq_true h4]; simp⟩))
    ·exact .inr (.inr (.inr (.inl ⟨h1, rfl, rfl, h4, by show _ = _; rw [e, h3, decide_eq_true h1, decide_eq_false h4]; simp⟩)))
   ·exact .inr (.inl ⟨h1, rfl, rfl, by show _ = _; rw [e, h3]; simp⟩)
  ·by_cases h4 : b[k].text = hash2
   ·by_cases h5 : k + 1 = b.length
    ·exact .inr (.inr (.inr (.inr (.inl ⟨h1, h2, h4, h5, by show _ = _; rw [e]; simp [h4, h5]⟩))))
    ·by_cases h6 : (b[k - 1]'(by omega)).text = hash2
     ·exact .inr (.inr (.inr (.inr (.inr (.inl ⟨h1, h2, h4, h5, h6, by show _ = _; rw [e]; simp [h4, h6]⟩)))))
     ·exact .inr (.inr (.inr (.inr (.inr (.inr (.inl ⟨h1, h2, h4, h5, h6, by show _ = _; rw [e]; simp [h1, h2, h5, h6]⟩))))))
   ·exact .inr (.inr (.inr (.inr (.inr (.inr (.inr ⟨h1, h2, h4, by show _ = _; rw [e]; simp [h1, h2, h4]⟩))))))
 ·exact .inl ⟨h1, by show _ = _; rw [e]; simp [h1]⟩
def BodUpto (p : Nat → Bool) (k : Nat) : Prop := ∀ j, j < k → p j = true
theorem BodUpto.zero (p : Nat → Bool) : BodUpto p 0 := by intro j h; omega
theorem BodUpto.succ {p : Nat → Bool} {k : Nat} (h : BodUpto p k) (h1 : p k = true) : BodUpto p (k + 1) := by
 intro j hj
 by_cases e : j = k
 ·subst e; exact h1
 ·exact h j (by omega)
theorem range_no {p : Nat → Bool} {n k : Nat} (hk : k < n) (h : p k = false) : (List.range n).all p = false := by
 rw [List.all_eq_false]; exact ⟨k, by simpa using hk, by simp [h]⟩
theorem range_yes {p : Nat → Bool} {n : Nat} (h : ∀ j, j < n → p j = true) : (List.range n).all p = true := by
 rw [List.all_eq_true]; intro j hj; exact h j (by simpa using hj)

theorem signS_other {m : DMacro} {k : Nat} (hk : k < m.body.length) (h : m.body[k].text ≠ hash1) : signS m k = true := by unfold signS; rw [dif_pos hk, decide_eq_false h]; rfl
theorem signS_last {m : DMacro} {k : Nat} (hk : k < m.body.length) (h : m.body[k].text = hash1) (hl : k + 1 = m.body.length) : signS m k = false := by unfold signS; rw [dif_pos hk, decide_eq_true h, dif_neg (by omega)]; rfl
theorem signS_no {m : DMacro} {k : Nat} (hk : k + 1 < m.body.length) (h : (m.body[k]'(by omega)).text = hash1) (hp : parOf m.params m.body[k + 1] < 0) : signS m k = false := by unfold signS; rw [dif_pos (by omega), decide_eq_true h, dif_pos hk, decide_eq_true hp]; rfl
theorem signS_yes {m : DMacro} {k : Nat} (hk : k + 1 < m.body.length) (h : (m.body[k]'(by omega)).text = hash1) (hp : ¬ parOf m.params m.body[k + 1] < 0) : signS m k = true := by unfold signS; rw [dif_pos (by omega), decide_eq_true h, dif_pos hk, decide_eq_false hp]; rfl

/-! ### Macros of the model -/
theorem macOk_head {m : DMacro} (h : macHead m = false) : macOk m = false := by unfold macOk; rw [h]; rfl
theorem macOk_par {m : DMacro} {k : Nat} (hk : k < m.params.length) (h : parOk m.params k = false) : macOk m = false := by unfold macOk; rw [range_no hk h]; simp
theorem macOk_bod {m : DMacro} {k : Nat} (hk : k < m.body.length) (h : bodOk m k = false) : macOk m = false := by unfold macOk; rw [range_no hk h]; simp
theorem macOk_yes {m : DMacro} (h : macHead m = true) (h1 : ParUpto m.params m.params.length) (h2 : BodUpto (bodOk m) m.body.length) : macOk m = true := by unfold macOk; rw [h, range_yes h1, range_yes h2]; rfl
theorem head_ways (m : DMacro) :
  (oneTok m.name 1 = false ∧ Hid (macOk m = false)) ∨
  (oneTok m.name 1 = true ∧ m.name = definedB ∧ Hid (macOk m = false)) ∨
  (oneTok m.name 1 = true ∧ m.name ≠ definedB ∧ 4 < m.params.length ∧ Hid (macOk m = false)) ∨
  (oneTok m.name 1 = true ∧ m.name ≠ definedB ∧ m.params.length ≤ 4 ∧ m.function = false ∧ 0 < m.params.length ∧ Hid (macOk m = false)) ∨
  (oneTok m.name 1 = true ∧ m.name ≠ definedB ∧ m.params.length ≤ 4 ∧ (m.function = true ∨ m.params.length = 0) ∧ 20 < m.body.length ∧ Hid (macOk m = false)) ∨
  (oneTok m.name 1 = true ∧ m.name ≠ definedB ∧ m.params.length ≤ 4 ∧ (m.function = true ∨ m.params.length = 0) ∧ m.body.length ≤ 20 ∧ Hid (macHead m = true)) := by
 have hd : macHead m = (oneTok m.name 1 && !decide (m.name = definedB) && decide (m.params.length ≤ 4) && (m.function || decide (m.params.length = 0)) && decide (m.body.length ≤ 20)) := rfl
 cases h1 : oneTok m.name 1
 ·exact .inl ⟨rfl, macOk_head (by rw [hd, h1]; rfl)⟩
 by_cases h2 : m.name = definedB
 ·exact .inr (.inl ⟨rfl, h2, macOk_head (by rw [hd, h1]; simp [h2])⟩)
 by_cases h3 : m.params.length ≤ 4
 ·cases h4 : m.function
  ·by_cases h5 : m.params.length = 0
   ·by_cases h6 : m.body.length ≤ 20
    ·exact .inr (.inr (.inr (.inr (.inr ⟨rfl, h2, h3, .inr h5, h6, by show _ = _; rw [hd, h1]; simp [h2, h5, h6]⟩))))
    ·exact .inr (.inr (.inr (.inr (.inl ⟨rfl, h2, h3, .inr h5, by omega, macOk_head (by rw [hd]; simp [h6])⟩))))
   ·exact .inr (.inr (.inr (.inl ⟨rfl, h2, h3, rfl, by omega, macOk_head (by rw [hd, h4]; simp [h5])⟩)))
  ·by_cases h6 : m.body.length ≤ 20
   ·exact .inr (.inr (.inr (.inr (.inr ⟨rfl, h2, h3, .inl rfl, h6, by show _ = _; rw [hd, h1, h4]; simp [h2, h3, h6]⟩))))
   ·exact .inr (.inr (.inr (.inr (.inl ⟨rfl, h2, h3, .inl rfl, by omega, macOk_head (by rw [hd]; simp [h6])⟩))))
 ·exact .inr (.inr (.inl ⟨rfl, h2, by omega, macOk_head (by rw [hd]; simp [h3])⟩))

/-! ### Macros of the program -/
def parsOk (ps : List ByteArray) : Bool := decide (ps.length ≤ 4) && (List.range ps.length).all (parOk ps)
def bodyOkI (b : List Tok) : Bool := decide (b.length ≤ 20) && toksOk b && (List.range b.length).all (bodI b)
def signsOk (m : DMacro) : Bool := (List.range m.body.length).all (signI m)
theorem one_kind {x : ByteArray} {k k' : Int} (h : oneTok x k = true) (h' : oneTok x k' = true) : k = k' := by
 rcases one_ways x k with ⟨_, H⟩ | ⟨_, _, _, H⟩ | ⟨_, _, _, H⟩ | ⟨_, _, _, _, H⟩ | ⟨t, hr, hk, _, _, _⟩
 ·exact absurd (H.out.symm.trans h) (by simp)
 ·exact absurd (H.out.symm.trans h) (by simp)
 ·exact absurd (H.out.symm.trans h) (by simp)
 ·exact absurd (H.out.symm.trans h) (by simp)
 ·unfold oneTok at h'
  rw [hr] at h'
  simp at h'
  rw [← hk, ← h'.1]
theorem parFrom_neg {ps : List ByteArray} {t : Tok} (hk : t.kind = 1) (k : Nat) : parFrom ps t k < 0 ↔ t.text ∉ ps.drop k := by
 induction k using parFrom.induct (ps := ps) (t := t) with
 |
  case1 k h hc =>
  rw [parFrom, dif_pos h, if_pos hc, List.drop_eq_getElem_cons h]
  simp [hc.2]
 |
  case2 k h hc ih =>
  rw [parFrom, dif_pos h, if_neg hc, ih, List.drop_eq_getElem_cons h]
  have hn : ¬ t.text = ps[k] := fun e => hc ⟨hk, e.symm⟩
  rw [List.mem_cons, not_or]
  exact ⟨fun h => ⟨hn, h⟩, fun h => h.2⟩
 | case3 k h => rw [parFrom, dif_neg h, List.drop_eq_nil_iff.2 (by omega)]; simp
theorem parFrom_kind {ps : List ByteArray} {t : Tok} (hk : t.kind ≠ 1) (k : Nat) : parFrom ps t k < 0 := by
 induction k using parFrom.induct (ps := ps) (t := t) with
 | case1 k h hc => exact absurd hc.1 hk
 | case2 k h hc ih => rw [parFrom, dif_pos h, if_neg hc]; exact ih
 | case3 k h => rw [parFrom, dif_neg h]; omega
theorem sign_same {m : DMacro} (hp : ∀ k, (hk : k < m.params.length) → oneTok m.params[k] 1 = true) (hb : ∀ k, (hk : k < m.body.length) → tokOk m.body[k] = true) (k : Nat) : signI m k = signS m k := by
 unfold signI signS
 by_cases h : k < m.body.length
 ·rw [dif_pos h, dif_pos h]
  by_cases h2 : k + 1 < m.body.length
  ·rw [dif_pos h2, dif_pos h2]
   have e : (!hasTx m.params m.body[k + 1].text) = decide (parOf m.params m.body[k + 1] < 0) := by
    by_cases hk : m.body[k + 1].kind = 1
    ·have := parFrom_neg (ps := m.params) hk 0
     rw [List.drop_zero] at this
     unfold parOf
     by_cases hm : m.body[k + 1].text ∈ m.params
     ·have h3 : ¬ parFrom m.params m.body[k + 1] 0 < 0 := fun h => this.1 h hm
      rw [hasTx_iff.2 hm, decide_eq_false h3]; rfl
     ·have h4 : hasTx m.params m.body[k + 1].text = false := by
       cases h : hasTx m.params m.body[k + 1].text
       ·rfl
       ·exact absurd (hasTx_iff.1 h) hm
      rw [h4, decide_eq_true (this.2 hm)]; rfl
    ·have h3 := parFrom_kind (ps := m.params) hk 0
     have hm : m.body[k + 1].text ∉ m.params := fun hm => by
      obtain ⟨i, hi, he⟩ := List.getElem_of_mem hm
      have h4 := hp i hi
      rw [he] at h4
      have h5 := hb (k + 1) h2
      unfold tokOk at h5
      rw [Bool.and_eq_true] at h5
      exact hk (one_kind h5.1 h4)
     have h4 : hasTx m.params m.body[k + 1].text = false := by
      cases h : hasTx m.params m.body[k + 1].text
      ·rfl
      ·exact absurd (hasTx_iff.1 h) hm
     unfold parOf
     rw [h4, decide_eq_true h3]; rfl
   rw [e]
  ·rw [dif_neg h2, dif_neg h2]
 ·rw [dif_neg h, dif_neg h]
theorem all_and (n : Nat) (p q : Nat → Bool) : (List.range n).all (fun k => p k && q k) = ((List.range n).all p && (List.range n).all q) := by
 induction n with
 | zero => rfl
 |
  succ n ih =>
  simp only [List.range_succ, List.all_append, ih, List.all_cons, List.all_nil, Bool.and_true]
  cases (List.range n).all p <;> cases (List.range n).all q <;> cases p n <;> cases q n <;> rfl
theorem all_ext {n : Nat} {p q : Nat → Bool} (h : ∀ k, k < n → p k = q k) : (List.range n).all p = (List.range n).all q := by
 cases hq : (List.range n).all q
 ·rw [List.all_eq_false] at hq
  obtain ⟨k, hk, h2⟩ := hq
  have hk' : k < n := by simpa using hk
  exact range_no hk' (by rw [h k hk']; simpa using h2)
 ·rw [List.all_eq_true] at hq
  exact range_yes fun j hj => by rw [h j hj]; exact hq j (by simpa using hj)
theorem toks_range {b : List Tok} (h : b.length ≤ 20) : toksOk b = (List.range b.length).all (fun k => if h : k < b.length then tokOk b[k] else true) := by
 unfold toksOk
 rw [decide_eq_true (by omega : b.length ≤ 60), Bool.true_and]
 cases hr : (List.range b.length).all (fun k => if h : k < b.length then tokOk b[k] else true)
 ·rw [List.all_eq_false] at hr ⊢
  obtain ⟨k, hk, h2⟩ := hr
  have hk' : k < b.length := by simpa using hk
  rw [dif_pos hk'] at h2
  exact ⟨b[k], List.getElem_mem hk', h2⟩
 ·rw [List.all_eq_true] at hr ⊢
  intro t ht
  obtain ⟨i, hi, rfl⟩ := List.getElem_of_mem ht
  have := hr i (by simpa using hi)
  rw [dif_pos hi] at this
  exact this
theorem mac_impl (m : DMacro) : macOk m = (oneTok m.name 1 && !decide (m.name = definedB) && (if m.function = true then parsOk m.params && bodyOkI m.body && signsOk m else decide (m.params.length = 0) && bodyOkI m.body)) := by
 have hd : macHead m = (oneTok m.name 1 && !decide (m.name = definedB) && decide (m.params.length ≤ 4) && (m.function || decide (m.params.length = 0)) && decide (m.body.length ≤ 20)) := rfl
 have hB : m.body.length ≤ 20 → (List.range m.body.length).all (bodOk m) = (toksOk m.body && (List.range m.body.length).all (bodI m.body) && (List.range m.body.length).all (fun k => !m.function || signS m k)) := by
  intro hl
  rw [toks_range hl, ← all_and, ← all_and]
  exact all_ext fun k hk => by rw [dif_pos hk]; exact bodOk_split m k hk
 unfold macOk
 rw [hd]
 by_cases hl : m.body.length ≤ 20
 ·rw [hB hl, decide_eq_true hl]
  cases hf : m.function
  ·rw [if_neg (by simp)]
   have e1 : (List.range m.body.length).all (fun k => !false || signS m k) = true := range_yes fun _ _ => rfl
   rw [e1]
   unfold bodyOkI
   rw [decide_eq_true hl]
   by_cases h0 : m.params.length = 0
   ·rw [h0]
    simp
   ·rw [decide_eq_false h0]; simp
  ·rw [if_pos rfl]
   unfold parsOk bodyOkI signsOk
   rw [decide_eq_true hl]
   have e1 : (List.range m.body.length).all (fun k => !true || signS m k) = (List.range m.body.length).all (signS m) := all_ext fun _ _ => by simp
   rw [e1]
   cases hp : (List.range m.params.length).all (parOk m.params)
   ·simp
   cases ht : toksOk m.body
   ·simp
   have e2 : (List.range m.body.length).all (signI m) = (List.range m.body.length).all (signS m) := all_ext fun k _ => by
    refine sign_same (fun k hk => ?_) (fun k hk => ?_) k
    ·rw [List.all_eq_true] at hp
     have := hp k (by simpa using hk)
     unfold parOk at this
     rw [dif_pos hk, Bool.and_eq_true] at this
     exact this.1
    ·rw [toks_range hl, List.all_eq_true] at ht
     have := ht k (by simpa using hk)
     rw [dif_pos hk] at this
     exact this
   rw [e2]
   simp only [Bool.true_or, Bool.and_true, Bool.true_and, Bool.and_assoc]
 ·have e1 : bodyOkI m.body = false := by unfold bodyOkI; rw [decide_eq_false hl]; rfl
  rw [decide_eq_false hl, e1]
  simp

end Go.Proofs.YtlegeancmcmbaaaDoor

/- Parameters as they are read: the model. -/
namespace Go.Proofs.YtlegeancmcmbaaaDoor
open Go.RowKit

def parRes (l : List Tok) : List ByteArray × Int := match parsOf l with | some p => (p.1, (p.2 : Int)) | none => ([], -1)
theorem parRes_some {l : List Tok} {p : List ByteArray × Nat} (h : parsOf l = some p) : parRes l = (p.1, (p.2 : Int)) := by unfold parRes; rw [h]
theorem parRes_none {l : List Tok} (h : parsOf l = none) : parRes l = ([], -1) := by unfold parRes; rw [h]
def PMade (l : List Tok) (w : World) (e : Ending) (w' : World) : Prop :=
 ∃ (pv : Value) (fp : List Nat), e = .returned (.tuple #[pv, .int .i64 (parRes l).2]) ∧ (sSlice sStr).R w' [pv] (parRes l).1 fp ∧ Own w' w.heap.size fp ∧ Below w.heap.size w w'
theorem pm_none {l : List Tok} {w w1 : World} (h : parsOf l = none) (hb : Below w.heap.size w w1) : PMade l w (.returned (.tuple #[.slice (some ⟨w1.heap.size, 0, none⟩) 0 0, .int .i64 (-1)])) (w1.alloc (.cells #[] 9)) :=
 ⟨_, [], by rw [parRes_none h], by rw [parRes_none h]; exact slice_empty sStr _ _ _ (by simp), Own.nil _ _, hb.trans ((alloc_below' w1 _).mono hb.size)⟩
theorem pm_some {l : List Tok} {w w1 : World} {v : Value} {L : List ByteArray} {n : Int} {p : List ByteArray × Nat} (h : parsOf l = some p) (h1 : p.1 = L) (h2 : (p.2 : Int) = n) (hb : Below w.heap.size w w1) (ho : w1.ownsRow w.heap.size 9 1 v L.length (L.map Value.string))
  (hs : ∀ i, (hi : i < L.length) → L[i].size ≤ maxLen) : PMade l w (.returned (.tuple #[v, .int .i64 n])) w1 := by
 obtain ⟨fp, h3, h4, _⟩ := own_flat (ok := okStr) ho hs
 exact ⟨v, fp, by rw [parRes_some h, h2], by rw [parRes_some h]; show (sSlice sStr).R w1 [v] p.1 fp; rw [h1]; exact h3, h4, hb⟩
theorem pa_kind {l : List Tok} {k : Nat} (h : k + 1 < l.length) (h1 : (l[k]'(by omega)).kind ≠ 1) : parsAt l k = none := by rw [parsAt, dif_pos h, if_neg h1]
theorem pa_close {l : List Tok} {k : Nat} (h : k + 1 < l.length) (h1 : (l[k]'(by omega)).kind = 1) (h2 : l[k + 1].text = closeB) : parsAt l k = some ([(l[k]'(by omega)).text], k + 2) := by rw [parsAt, dif_pos h, if_pos h1, if_pos h2]
theorem pa_comma {l : List Tok} {k : Nat} (h : k + 1 < l.length) (h1 : (l[k]'(by omega)).kind = 1) (h2 : l[k + 1].text ≠ closeB) (h3 : l[k + 1].text = commaB) : parsAt l k = (parsAt l (k + 2)).map (fun p => ((l[k]'(by omega)).text :: p.1, p.2)) := by rw [parsAt, dif_pos h, if_pos h1, if_neg h2, if_pos h3]
theorem pa_other {l : List Tok} {k : Nat} (h : k + 1 < l.length) (h1 : (l[k]'(by omega)).kind = 1) (h2 : l[k + 1].text ≠ closeB) (h3 : l[k + 1].text ≠ commaB) : parsAt l k = none := by rw [parsAt, dif_pos h, if_pos h1, if_neg h2, if_neg h3]
theorem pa_end {l : List Tok} {k : Nat} (h : ¬ k + 1 < l.length) : parsAt l k = none := by rw [parsAt, dif_neg h]
theorem snoc_row {w : World} {base e : Nat} {v : Value} {L : List ByteArray} {x : ByteArray} (h : w.ownsRow base e 1 v (L.length + 1) (L.map Value.string ++ [.string x])) : w.ownsRow base e 1 v (L ++ [x]).length ((L ++ [x]).map Value.string) := by
 simpa using h
theorem snoc_size {L : List ByteArray} {x : ByteArray} (h : ∀ i, (hi : i < L.length) → L[i].size ≤ maxLen) (hx : x.size ≤ maxLen) : ∀ i, (hi : i < (L ++ [x]).length) → (L ++ [x])[i].size ≤ maxLen := by
 intro i hi
 by_cases h1 : i < L.length
 ·rw [List.getElem_append_left h1]; exact h i h1
 ·have : i = L.length := by simp at hi; omega
  subst this; simp [hx]


set_option maxHeartbeats 16000000 in
set_option maxRecDepth 100000 in
theorem spec_l5Params (v : Value) (l : List Tok) (fp : List Nat) (w : World) (hl : l.length ≤ 60) (H : (sSlice sTok).R w [v] l fp) :
  Calls Tryd.prog 86 #[v] w (PMade l w) := by
 obtain ⟨a, cap, rfl, hc, hm, hrow⟩ := open_rows H
 unfold maxLen at hm
 clear H
 have hlit : Hid ((w.alloc (.cells #[] 9)).ownsRow w.heap.size 9 1 (.slice (some ⟨w.heap.size, 0, none⟩) 0 0) ([] : List ByteArray).length (([] : List ByteArray).map Value.string)) :=
  World.ownsRow_lit (base := w.heap.size) (e := 9) (size := 1) w #[] 0 (Nat.le_refl _) (by simp) rfl
 have hba := alloc_below' w (.cells #[] 9)
 have fin : (¬ ∃ h : 2 < l.length, l[2].text = closeB ∧ l[2].kind = 4) → Hid (parsOf l = (parsAt l 2).map (fun p => (([] : List ByteArray) ++ p.1, p.2))) := fun hne => by
  show _ = _
  have e : (fun p : List ByteArray × Nat => (([] : List ByteArray) ++ p.1, p.2)) = id := by funext p; simp
  rw [e, Option.map_id]
  unfold parsOf
  by_cases h2 : 2 < l.length
  ·rw [dif_pos h2, if_neg (fun h => hne ⟨h2, h⟩)]; rfl
  ·rw [dif_neg h2, pa_end (by omega)]; rfl
 by_cases h2 : 2 < l.length
 ·obtain ⟨b1, off1, fps1, rfl, hb1, hfp, he1⟩ := hrow (by omega)
  obtain ⟨es1, hE1, hR1⟩ := he1 2 h2
  obtain ⟨hh, rfl, -, -, -⟩ := hR1
  have hrow : Hid (0 < l.length → ∃ b off fps, (some ⟨b1, off1, none⟩ : Option Addr) = some ⟨b, off, none⟩ ∧ b < w.heap.size ∧ fp = b :: (List.range l.length).flatMap fps ∧ ∀ i, (hi : i < l.length) → ∃ es, ElemAt w b off sTok.m i es ∧ sTok.R w es l[i] (fps i)) := fun _ => ⟨b1, off1, fps1, rfl, hb1, hfp, he1⟩
  have hE2 := hE1.frame (hba.block b1 hb1)
  have c0 : (w.alloc (.cells #[] 9)).cell? ⟨b1, off1 + 8, none⟩ = some (.int .i64 l[2].kind) := elem_cell0 (i := 2) (m := 4) hE2 (by decide) rfl
  have c1 : (w.alloc (.cells #[] 9)).cell? ⟨b1, off1 + 8 + 1, none⟩ = some (.string l[2].text) := elem_cell (i := 2) (m := 4) (j := 1) hE2 (by decide) rfl
  have f3 : (2 : Int) < (l.length : Int) := by omega
  clear hE1 hE2 he1
  by_cases h3 : l[2].text = closeB
  ·have f1 := txt_t (l := [41]) h3
   by_cases h4 : l[2].kind = 4
   ·have f2 : (l[2].kind == 4) = true := by simp [h4]
    have HP : Hid (parsOf l = some ([], 3)) := by show _ = _; unfold parsOf; rw [dif_pos h2, if_pos ⟨h3, h4⟩]
    clear h3 h4 fin
    go_enter Tryd.func86, Tryd.ntmps86
    go_wp2
    go_ret2
    exact pm_some (p := ([], 3)) HP.out rfl rfl hba hlit.out (by simp)
   ·have f2 : (l[2].kind == 4) = false := by simp [h4]
    have HPA := fin (by rintro ⟨_, _, h⟩; exact h4 h)
    clear h3 h4 fin
    go_enter Tryd.func86, Tryd.ntmps86
    go_wp2
    go_loopw [4, 5] (fun o i wr => ∃ (k : Nat) (L : List ByteArray), k ≤ l.length + 2 ∧ L.length ≤ k ∧ i = .int .i64 k ∧ Hid (wr.ownsRow w.heap.size 9 1 o L.length (L.map Value.string)) ∧ Hid (∀ i, (hi : i < L.length) → L[i].size ≤ maxLen) ∧ Hid (parsOf l = (parsAt l k).map (fun p => (L ++ p.1, p.2))) ∧ Below w.heap.size w wr) (fun _ i _ => l.length + 2 - (intOf i).toNat)
    case atStart => exact ⟨2, [], by omega, by simp, rfl, hlit, by intro i hi; simp at hi, HPA, hba⟩
    case round =>
     clear hlit hba HPA
     obtain ⟨k, L, hk, hLk, rfl, HO, HS, HP, hb⟩ := hrel
     by_cases hlt : k + 1 < l.length
     ·obtain ⟨b1, off1, fps1, heq, hb1, -, he1⟩ := hrow.out (by omega)
      first
       | subst heq
       | (simp only [Option.some.injEq, Addr.mk.injEq, and_true] at heq; obtain ⟨rfl, rfl⟩ := heq)
      obtain ⟨es1, hE1, hR1⟩ := he1 k (by omega)
      obtain ⟨es2, hE2, hR2⟩ := he1 (k + 1) hlt
      clear hrow he1
      obtain ⟨h1', rfl, -, okt, -⟩ := hR1
      obtain ⟨h2', rfl, -, -, -⟩ := hR2
      have hE1' := hE1.frame (hb.block b1 hb1)
      have hE2' := hE2.frame (hb.block b1 hb1)
      have c0 : wr.cell? ⟨b1, off1 + k * 4, none⟩ = some _ := elem_cell0 hE1' (by decide) rfl
      have c1 : wr.cell? ⟨b1, off1 + k * 4 + 1, none⟩ = some _ := elem_cell (j := 1) hE1' (by decide) rfl
      have d1 : wr.cell? ⟨b1, off1 + (k + 1) * 4 + 1, none⟩ = some _ := elem_cell (j := 1) hE2' (by decide) rfl
      have d1w : w.cell? ⟨b1, off1 + (k + 1) * 4 + 1, none⟩ = some _ := elem_cell (j := 1) hE2 (by decide) rfl
      clear hE1 hE2 hE1' hE2'
      obtain ⟨fpo, hRo, -, -⟩ := own_flat (ok := okStr) HO.out HS.out
      obtain ⟨ao, co, rfl, -⟩ := open_strs hRo
      clear hRo
      have h6 : ((k : Int) + 1).toNat = k + 1 := by omega
      have hk1 : (k : Int) + 1 < (l.length : Int) := by omega
      by_cases e1 : (l[k]'(by omega)).kind = 1
      ·have g1 : ((l[k]'(by omega)).kind != 1) = false := by simp [e1]
       have OKT := Lib.hid okt
       by_cases e2 : l[k + 1].text = closeB
       ·have g2 := txt_t (l := [41]) e2
        have HN := Lib.hid (HP.out.trans (by rw [pa_close hlt e1 e2]; try rfl))
        clear e1 e2 okt
        go_wp2_with (
         at_builtin
         refine wp_append_one ti27 rfl _ (.string (l[k]'(by omega)).text) rfl rfl (.tmp 39) (.tmp 45) rfl w.heap.size (.slice ao L.length co) L.length _ rfl HO.out rfl (by unfold maxLen; omega) (by omega) hb.size ?_
         intro v3 w3 hown hgrow
         have hb3 := hb.grown hgrow hb.size (fun b hb' => (HO.out.lt b hb').1)
         have d3 := (hb3.cell (p := ⟨b1, off1 + (k + 1) * 4 + 1, none⟩) hb1).trans d1w
         have HB3 := Lib.hid hb3
         have HOW := Lib.hid (snoc_row hown)
         clear hgrow hown)
        go_ret2
        exact pm_some HN.out rfl (by go_num) HB3.out HOW.out (snoc_size HS.out OKT.out)
       ·have g2 := txt_f (l := [41]) e2
        by_cases e3 : l[k + 1].text = commaB
        ·have g3 := txt_t (l := [44]) e3
         have HN : Hid (parsOf l = (parsAt l (k + 2)).map (fun p => ((L ++ [(l[k]'(by omega)).text]) ++ p.1, p.2))) := by
          show _ = _
          rw [HP.out, pa_comma hlt e1 e2 e3, Option.map_map]
          congr 1
          funext p
          simp
         clear e1 e2 e3 okt
         go_wp2_with (
          at_builtin
          refine wp_append_one ti27 rfl _ (.string (l[k]'(by omega)).text) rfl rfl (.tmp 39) (.tmp 45) rfl w.heap.size (.slice ao L.length co) L.length _ rfl HO.out rfl (by unfold maxLen; omega) (by omega) hb.size ?_
          intro v3 w3 hown hgrow
          have hb3 := hb.grown hgrow hb.size (fun b hb' => (HO.out.lt b hb').1)
          have d3 := (hb3.cell (p := ⟨b1, off1 + (k + 1) * 4 + 1, none⟩) hb1).trans d1w
          have HB3 := Lib.hid hb3
          have HOW := Lib.hid (snoc_row hown)
          clear hgrow hown)
         go_roundw
         case rel => exact ⟨k + 2, _, by omega, by simp; omega, by go_num, HOW, snoc_size HS.out OKT.out, HN, HB3.out⟩
         case measure => simp [intOf]; omega
        ·have g3 := txt_f (l := [44]) e3
         have HN := Lib.hid (HP.out.trans (by rw [pa_other hlt e1 e2 e3]; try rfl))
         clear e1 e2 e3 okt
         go_wp2_with (
          at_builtin
          refine wp_append_one ti27 rfl _ (.string (l[k]'(by omega)).text) rfl rfl (.tmp 39) (.tmp 45) rfl w.heap.size (.slice ao L.length co) L.length _ rfl HO.out rfl (by unfold maxLen; omega) (by omega) hb.size ?_
          intro v3 w3 hown hgrow
          have hb3 := hb.grown hgrow hb.size (fun b hb' => (HO.out.lt b hb').1)
          have d3 := (hb3.cell (p := ⟨b1, off1 + (k + 1) * 4 + 1, none⟩) hb1).trans d1w
          have HB3 := Lib.hid hb3
          clear hgrow hown)
         go_ret2
         exact pm_none HN.out HB3.out
      ·have g1 : ((l[k]'(by omega)).kind != 1) = true := by simp [e1]
       have HN := Lib.hid (HP.out.trans (by rw [pa_kind hlt e1]; try rfl))
       clear e1
       go_wp2
       go_ret2
       exact pm_none HN.out hb
     ·have HN := Lib.hid (HP.out.trans (by rw [pa_end hlt]; try rfl))
      have hk1 : ¬ (k : Int) + 1 < (l.length : Int) := by omega
      go_wp2
      go_ret2
      exact pm_none HN.out hb
  ·have f1 := txt_f (l := [41]) h3
   have HPA := fin (by rintro ⟨_, h, _⟩; exact h3 h)
   clear h3 fin
   go_enter Tryd.func86, Tryd.ntmps86
   go_wp2
   go_loopw [4, 5] (fun o i wr => ∃ (k : Nat) (L : List ByteArray), k ≤ l.length + 2 ∧ L.length ≤ k ∧ i = .int .i64 k ∧ Hid (wr.ownsRow w.heap.size 9 1 o L.length (L.map Value.string)) ∧ Hid (∀ i, (hi : i < L.length) → L[i].size ≤ maxLen) ∧ Hid (parsOf l = (parsAt l k).map (fun p => (L ++ p.1, p.2))) ∧ Below w.heap.size w wr) (fun _ i _ => l.length + 2 - (intOf i).toNat)
   case atStart => exact ⟨2, [], by omega, by simp, rfl, hlit, by intro i hi; simp at hi, HPA, hba⟩
   case round =>
    clear hlit hba HPA
    obtain ⟨k, L, hk, hLk, rfl, HO, HS, HP, hb⟩ := hrel
    by_cases hlt : k + 1 < l.length
    ·obtain ⟨b1, off1, fps1, heq, hb1, -, he1⟩ := hrow.out (by omega)
     first
      | subst heq
      | (simp only [Option.some.injEq, Addr.mk.injEq, and_true] at heq; obtain ⟨rfl, rfl⟩ := heq)
     obtain ⟨es1, hE1, hR1⟩ := he1 k (by omega)
     obtain ⟨es2, hE2, hR2⟩ := he1 (k + 1) hlt
     clear hrow he1
     obtain ⟨h1', rfl, -, okt, -⟩ := hR1
     obtain ⟨h2', rfl, -, -, -⟩ := hR2
     have hE1' := hE1.frame (hb.block b1 hb1)
     have hE2' := hE2.frame (hb.block b1 hb1)
     have c0 : wr.cell? ⟨b1, off1 + k * 4, none⟩ = some _ := elem_cell0 hE1' (by decide) rfl
     have c1 : wr.cell? ⟨b1, off1 + k * 4 + 1, none⟩ = some _ := elem_cell (j := 1) hE1' (by decide) rfl
     have d1 : wr.cell? ⟨b1, off1 + (k + 1) * 4 + 1, none⟩ = some _ := elem_cell (j := 1) hE2' (by decide) rfl
     have d1w : w.cell? ⟨b1, off1 + (k + 1) * 4 + 1, none⟩ = some _ := elem_cell (j := 1) hE2 (by decide) rfl
     clear hE1 hE2 hE1' hE2'
     obtain ⟨fpo, hRo, -, -⟩ := own_flat (ok := okStr) HO.out HS.out
     obtain ⟨ao, co, rfl, -⟩ := open_strs hRo
     clear hRo
     have h6 : ((k : Int) + 1).toNat = k + 1 := by omega
     have hk1 : (k : Int) + 1 < (l.length : Int) := by omega
     by_cases e1 : (l[k]'(by omega)).kind = 1
     ·have g1 : ((l[k]'(by omega)).kind != 1) = false := by simp [e1]
      have OKT := Lib.hid okt
      by_cases e2 : l[k + 1].text = closeB
      ·have g2 := txt_t (l := [41]) e2
       have HN := Lib.hid (HP.out.trans (by rw [pa_close hlt e1 e2]; try rfl))
       clear e1 e2 okt
       go_wp2_with (
        at_builtin
        refine wp_append_one ti27 rfl _ (.string (l[k]'(by omega)).text) rfl rfl (.tmp 39) (.tmp 45) rfl w.heap.size (.slice ao L.length co) L.length _ rfl HO.out rfl (by unfold maxLen; omega) (by omega) hb.size ?_
        intro v3 w3 hown hgrow
        have hb3 := hb.grown hgrow hb.size (fun b hb' => (HO.out.lt b hb').1)
        have d3 := (hb3.cell (p := ⟨b1, off1 + (k + 1) * 4 + 1, none⟩) hb1).trans d1w
        have HB3 := Lib.hid hb3
        have HOW := Lib.hid (snoc_row hown)
        clear hgrow hown)
       go_ret2
       exact pm_some HN.out rfl (by go_num) HB3.out HOW.out (snoc_size HS.out OKT.out)
      ·have g2 := txt_f (l := [41]) e2
       by_cases e3 : l[k + 1].text = commaB
       ·have g3 := txt_t (l := [44]) e3
        have HN : Hid (parsOf l = (parsAt l (k + 2)).map (fun p => ((L ++ [(l[k]'(by omega)).text]) ++ p.1, p.2))) := by
         show _ = _
         rw [HP.out, pa_comma hlt e1 e2 e3, Option.map_map]
         congr 1
         funext p
         simp
        clear e1 e2 e3 okt
        go_wp2_with (
         at_builtin
         refine wp_append_one ti27 rfl _ (.string (l[k]'(by omega)).text) rfl rfl (.tmp 39) (.tmp 45) rfl w.heap.size (.slice ao L.length co) L.length _ rfl HO.out rfl (by unfold maxLen; omega) (by omega) hb.size ?_
         intro v3 w3 hown hgrow
         have hb3 := hb.grown hgrow hb.size (fun b hb' => (HO.out.lt b hb').1)
         have d3 := (hb3.cell (p := ⟨b1, off1 + (k + 1) * 4 + 1, none⟩) hb1).trans d1w
         have HB3 := Lib.hid hb3
         have HOW := Lib.hid (snoc_row hown)
         clear hgrow hown)
        go_roundw
        case rel => exact ⟨k + 2, _, by omega, by simp; omega, by go_num, HOW, snoc_size HS.out OKT.out, HN, HB3.out⟩
        case measure => simp [intOf]; omega
       ·have g3 := txt_f (l := [44]) e3
        have HN := Lib.hid (HP.out.trans (by rw [pa_other hlt e1 e2 e3]; try rfl))
        clear e1 e2 e3 okt
        go_wp2_with (
         at_builtin
         refine wp_append_one ti27 rfl _ (.string (l[k]'(by omega)).text) rfl rfl (.tmp 39) (.tmp 45) rfl w.heap.size (.slice ao L.length co) L.length _ rfl HO.out rfl (by unfold maxLen; omega) (by omega) hb.size ?_
         intro v3 w3 hown hgrow
         have hb3 := hb.grown hgrow hb.size (fun b hb' => (HO.out.lt b hb').1)
         have d3 := (hb3.cell (p := ⟨b1, off1 + (k + 1) * 4 + 1, none⟩) hb1).trans d1w
         have HB3 := Lib.hid hb3
         clear hgrow hown)
        go_ret2
        exact pm_none HN.out HB3.out
     ·have g1 : ((l[k]'(by omega)).kind != 1) = true := by simp [e1]
      have HN := Lib.hid (HP.out.trans (by rw [pa_kind hlt e1]; try rfl))
      clear e1
      go_wp2
      go_ret2
      exact pm_none HN.out hb
    ·have HN := Lib.hid (HP.out.trans (by rw [pa_end hlt]; try rfl))
     have hk1 : ¬ (k : Int) + 1 < (l.length : Int) := by omega
     go_wp2
     go_ret2
     exact pm_none HN.out hb
 ·have f3 : ¬ (2 : Int) < (l.length : Int) := by omega
  have HPA := fin (by rintro ⟨h, _⟩; exact h2 h)
  have hrow := Lib.hid hrow
  clear fin
  go_enter Tryd.func86, Tryd.ntmps86
  go_wp2
  go_loopw [4, 5] (fun o i wr => ∃ (k : Nat) (L : List ByteArray), k ≤ l.length + 2 ∧ L.length ≤ k ∧ i = .int .i64 k ∧ Hid (wr.ownsRow w.heap.size 9 1 o L.length (L.map Value.string)) ∧ Hid (∀ i, (hi : i < L.length) → L[i].size ≤ maxLen) ∧ Hid (parsOf l = (parsAt l k).map (fun p => (L ++ p.1, p.2))) ∧ Below w.heap.size w wr) (fun _ i _ => l.length + 2 - (intOf i).toNat)
  case atStart => exact ⟨2, [], by omega, by simp, rfl, hlit, by intro i hi; simp at hi, HPA, hba⟩
  case round =>
   clear hlit hba HPA
   obtain ⟨k, L, hk, hLk, rfl, HO, HS, HP, hb⟩ := hrel
   by_cases hlt : k + 1 < l.length
   ·obtain ⟨b1, off1, fps1, heq, hb1, -, he1⟩ := hrow.out (by omega)
    first
     | subst heq
     | (simp only [Option.some.injEq, Addr.mk.injEq, and_true] at heq; obtain ⟨rfl, rfl⟩ := heq)
    obtain ⟨es1, hE1, hR1⟩ := he1 k (by omega)
    obtain ⟨es2, hE2, hR2⟩ := he1 (k + 1) hlt
    clear hrow he1
    obtain ⟨h1', rfl, -, okt, -⟩ := hR1
    obtain ⟨h2', rfl, -, -, -⟩ := hR2
    have hE1' := hE1.frame (hb.block b1 hb1)
    have hE2' := hE2.frame (hb.block b1 hb1)
    have c0 : wr.cell? ⟨b1, off1 + k * 4, none⟩ = some _ := elem_cell0 hE1' (by decide) rfl
    have c1 : wr.cell? ⟨b1, off1 + k * 4 + 1, none⟩ = some _ := elem_cell (j := 1) hE1' (by decide) rfl
    have d1 : wr.cell? ⟨b1, off1 + (k + 1) * 4 + 1, none⟩ = some _ := elem_cell (j := 1) hE2' (by decide) rfl
    have d1w : w.cell? ⟨b1, off1 + (k + 1) * 4 + 1, none⟩ = some _ := elem_cell (j := 1) hE2 (by decide) rfl
    clear hE1 hE2 hE1' hE2'
    obtain ⟨fpo, hRo, -, -⟩ := own_flat (ok := okStr) HO.out HS.out
    obtain ⟨ao, co, rfl, -⟩ := open_strs hRo
    clear hRo
    have h6 : ((k : Int) + 1).toNat = k + 1 := by omega
    have hk1 : (k : Int) + 1 < (l.length : Int) := by omega
    by_cases e1 : (l[k]'(by omega)).kind = 1
    ·have g1 : ((l[k]'(by omega)).kind != 1) = false := by simp [e1]
     have OKT := Lib.hid okt
     by_cases e2 : l[k + 1].text = closeB
     ·have g2 := txt_t (l := [41]) e2
      have HN := Lib.hid (HP.out.trans (by rw [pa_close hlt e1 e2]; try rfl))
      clear e1 e2 okt
      go_wp2_with (
       at_builtin
       refine wp_append_one ti27 rfl _ (.string (l[k]'(by omega)).text) rfl rfl (.tmp 39) (.tmp 45) rfl w.heap.size (.slice ao L.length co) L.length _ rfl HO.out rfl (by unfold maxLen; omega) (by omega) hb.size ?_
       intro v3 w3 hown hgrow
       have hb3 := hb.grown hgrow hb.size (fun b hb' => (HO.out.lt b hb').1)
       have d3 := (hb3.cell (p := ⟨b1, off1 + (k + 1) * 4 + 1, none⟩) hb1).trans d1w
       have HB3 := Lib.hid hb3
       have HOW := Lib.hid (snoc_row hown)
       clear hgrow hown)
      go_ret2
      exact pm_some HN.out rfl (by go_num) HB3.out HOW.out (snoc_size HS.out OKT.out)
     ·have g2 := txt_f (l := [41]) e2
      by_cases e3 : l[k + 1].text = commaB
      ·have g3 := txt_t (l := [44]) e3
       have HN : Hid (parsOf l = (parsAt l (k + 2)).map (fun p => ((L ++ [(l[k]'(by omega)).text]) ++ p.1, p.2))) := by
        show _ = _
        rw [HP.out, pa_comma hlt e1 e2 e3, Option.map_map]
        congr 1
        funext p
        simp
       clear e1 e2 e3 okt
       go_wp2_with (
        at_builtin
        refine wp_append_one ti27 rfl _ (.string (l[k]'(by omega)).text) rfl rfl (.tmp 39) (.tmp 45) rfl w.heap.size (.slice ao L.length co) L.length _ rfl HO.out rfl (by unfold maxLen; omega) (by omega) hb.size ?_
        intro v3 w3 hown hgrow
        have hb3 := hb.grown hgrow hb.size (fun b hb' => (HO.out.lt b hb').1)
        have d3 := (hb3.cell (p := ⟨b1, off1 + (k + 1) * 4 + 1, none⟩) hb1).trans d1w
        have HB3 := Lib.hid hb3
        have HOW := Lib.hid (snoc_row hown)
        clear hgrow hown)
       go_roundw
       case rel => exact ⟨k + 2, _, by omega, by simp; omega, by go_num, HOW, snoc_size HS.out OKT.out, HN, HB3.out⟩
       case measure => simp [intOf]; omega
      ·have g3 := txt_f (l := [44]) e3
       have HN := Lib.hid (HP.out.trans (by rw [pa_other hlt e1 e2 e3]; try rfl))
       clear e1 e2 e3 okt
       go_wp2_with (
        at_builtin
        refine wp_append_one ti27 rfl _ (.string (l[k]'(by omega)).text) rfl rfl (.tmp 39) (.tmp 45) rfl w.heap.size (.slice ao L.length co) L.length _ rfl HO.out rfl (by unfold maxLen; omega) (by omega) hb.size ?_
        intro v3 w3 hown hgrow
        have hb3 := hb.grown hgrow hb.size (fun b hb' => (HO.out.lt b hb').1)
        have d3 := (hb3.cell (p := ⟨b1, off1 + (k + 1) * 4 + 1, none⟩) hb1).trans d1w
        have HB3 := Lib.hid hb3
        clear hgrow hown)
       go_ret2
       exact pm_none HN.out HB3.out
    ·have g1 : ((l[k]'(by omega)).kind != 1) = true := by simp [e1]
     have HN := Lib.hid (HP.out.trans (by rw [pa_kind hlt e1]; try rfl))
     clear e1
     go_wp2
     go_ret2
     exact pm_none HN.out hb
   ·have HN := Lib.hid (HP.out.trans (by rw [pa_end hlt]; try rfl))
    have hk1 : ¬ (k : Int) + 1 < (l.length : Int) := by omega
    go_wp2
    go_ret2
    exact pm_none HN.out hb

end Go.Proofs.YtlegeancmcmbaaaDoor
