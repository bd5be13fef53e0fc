/- Texts that the proof of U stands on, in one file. -/
import Derived.Test.YtipfpppcbmpjiaaZU12
import Derived.Test.YtipfpppcbmpjiaaZU6
import Derived.Test.YtipfpppcbmpjiaaZU7
import Derived.Test.YtipfpppcbmpjiaaZU10
import Derived.Test.YtipfpppcbmpjiaaZU11
import Derived.Test.YtipfpppcbmpjiaaZU8
import Derived.Deep.RegionLaw
import Derived.Lib.SliceRun
set_option linter.unusedVariables false
set_option linter.unusedSimpArgs false
/- Substitute of the program: what it asks beyond the contracts. Rows of the call's own whose elements' memory is its own, too. -/
namespace Go.Proofs.Ytipfpppcbmpjiaa
open Go.RowKit

/-! ### Marks and parameters in a valid body -/
/-! ### Rows that are the call's own, elements and all -/
theorem flat_more {α : Type} (A X : List (Elem α)) : (A ++ X).flatMap (·.fp) = A.flatMap (·.fp) ++ X.flatMap (·.fp) := List.flatMap_append
theorem own_grownN {w w' : World} {lo : Nat} {fp : List Nat} {o : Option Nat} (h : Own w lo fp) (hn : ∀ b ∈ fp, o ≠ some b) (hg : w.grownBy w' o) : Own w' lo fp :=
  ⟨h.1, fun b hb => by
    obtain ⟨q1, cur, e, q2⟩ := h.2 b hb
    exact ⟨q1, cur, e, (hg.block b (h.lt b hb) fun e => hn b hb e.symm).trans q2⟩⟩
end Go.Proofs.Ytipfpppcbmpjiaa

/- The two sides of a ## (pastePieces of the program). (Made by gen_sub9.py.) -/
namespace Go.Proofs.Ytipfpppcbmpjiaa
open Go.RowKit
/-- Two rows of tokens of the call's own, apart from each other. -/
structure TwoN (base : Nat) (vd : Value) (D : List (Elem Tok)) (vl : Value) (L : List (Elem Tok)) (w : World) : Prop where
  d : RowN sTok base 33 vd D w
  l : RowN sTok base 33 vl L w
  own : Own w base (D.flatMap (·.fp) ++ L.flatMap (·.fp))
  ne : ∀ b, vd.ownBlock = some b → vl.ownBlock ≠ some b
  dl : ∀ x ∈ D, ∀ b ∈ x.fp, vl.ownBlock ≠ some b
  ld : ∀ x ∈ L, ∀ b ∈ x.fp, vd.ownBlock ≠ some b
section
variable {base : Nat} {vd vl : Value} {D L : List (Elem Tok)} {w w' : World}
theorem TwoN.below (h : TwoN base vd D vl L w) (hb : Below w.heap.size w w') : TwoN base vd D vl L w' := ⟨h.d.below hb, h.l.below hb, h.own.grow hb, h.ne, h.dl, h.ld⟩
theorem TwoN.lt (h : TwoN base vd D vl L w) : (∀ b, vd.ownBlock = some b → b < w.heap.size) ∧ (∀ b, vl.ownBlock = some b → b < w.heap.size) ∧ (∀ x ∈ D, ∀ b ∈ x.fp, b < w.heap.size) ∧ ∀ x ∈ L, ∀ b ∈ x.fp, b < w.heap.size :=
  ⟨fun b hb => (h.d.mine b hb).2, fun b hb => (h.l.mine b hb).2, fun x hx b hb => sTok.lt (h.d.el x hx) b hb, fun x hx b hb => sTok.lt (h.l.el x hx) b hb⟩
end
/-- append of elements that stand somewhere; at one operation of a drawn region. -/
theorem step_append_rowNR {α : Type} {S : Shape α} {P : Program} {t e : TypeId} {z : Value} {bytes : Nat} (ti : TI P t e z S.m bytes) (hzs : z.cells.size = S.m) (h0 : 0 < S.m) (w : World) {L X : List (Elem α)} {ops : Array Oper} {o : Oper} {a : Act} {K : Act → World → Prop} {Q : Exit → Act → World → Prop} {E : Prop}
    (d : Nat) (hdst : o.dst = some d) (hg : o.guard = none) (s y : Operand) (ho : o.op = .call { callee := .builtin .append, args := #[s, y], argTypes := #[t, t] })
    (base : Nat) (v : Value) (hs : a.eval s = v) (hown : RowN S base e v L w) (ad : Addr) (m c : Nat) (hy : a.eval y = .slice (some ad) m c) (hm : X.length = m)
    (hX : ∀ x ∈ X, x.cells.length = S.m ∧ S.R w x.cells x.d x.fp ∧ ∀ b ∈ x.fp, v.ownBlock ≠ some b) (h1 : ∀ x ∈ X, ∀ u ∈ x.cells, u.oneCell' = true) (hcell : ∀ j u, (X.flatMap (·.cells))[j]? = some u → w.cell? (ad.add j) = some u)
    (h63 : L.length + m ≤ maxLen) (hbytes : (L.length + m) * bytes ≤ 140737488355328) (hbase : base ≤ w.heap.size)
    (h : ∀ v' w', RowN S base e v' (L ++ X) w' → w.grownBy w' v.ownBlock → (v'.ownBlock = v.ownBlock ∨ v'.ownBlock = some w.heap.size) → K (a.put (some d) v') w') : if Region.wanted o (yielded ops a.tmps) = true then Oper.wp P o a w K Q else E := by
  rw [← hdst] at h
  have hwt : Region.wanted o (yielded ops a.tmps) = true := by simp [Region.wanted, hg]
  rw [if_pos hwt]
  exact step_append_rowN ti hzs h0 w s y ho base v hs hown ad m c hy hm hX h1 hcell h63 hbytes hbase h

end Go.Proofs.Ytipfpppcbmpjiaa

/- ReplaceDefined of the model. (Made by gen_con1.py.) -/
namespace Go.Proofs.Ytipfpppcbmpjiaa
open Go.RowKit

/-- What ReplaceDefined answers. -/
def RetRep (r : List Tok × Bool) (w : World) (e : Ending) (w' : World) : Prop :=
  ∃ (v : Value) (fp : List Nat), e = .returned (.tuple #[v, .bool r.2]) ∧ (sSlice sTok).R w' [v] r.1 fp ∧ (∀ b ∈ fp, w.heap.size ≤ b) ∧ Below w.heap.size w w'
theorem retRep_no {r : List Tok × Bool} {w W : World} (h : r = ([], false)) (hb : Below w.heap.size w W) : RetRep r w (.returned (.tuple #[.slice (some ⟨W.heap.size, 0, none⟩) 0 0, .bool false])) (W.alloc (.cells #[] 33)) :=
  ⟨_, [], by rw [h], by rw [h]; exact slice_empty _ _ _ _ (by simp), by simp, hb.alloc hb.size _⟩
theorem retRep_row {r : List Tok × Bool} {w W : World} {base : Nat} {v : Value} {L : List (Elem Tok)} {c : Bool} (h : r = (L.map (·.d), c)) (hG : RowG sTok base 33 v L W) (hbase : w.heap.size ≤ base) (hf : ∀ x ∈ L, ∀ b ∈ x.fp, w.heap.size ≤ b) (hb : Below w.heap.size w W) : RetRep r w (.returned (.tuple #[v, .bool c])) W := by
  obtain ⟨fp, h1, h2, -⟩ := hG.read
  refine ⟨v, fp, by rw [h], by rw [h]; exact h1, fun b hb' => ?_, hb⟩
  rcases h2 b hb' with h | ⟨x, hx, h⟩
  · exact Nat.le_trans hbase (hG.mine b h)
  · exact hf x hx b h
theorem says_mk {cs : List Value} {x : Tok} {fp : List Nat} {w : World} {c : UInt8} (H : sTok.R w cs x fp) : Calls Try.prog 33 #[.agg cs.toArray, .string ⟨#[c]⟩] w (Says (isMk x [c]) w) := spec_l7Is cs x fp w c H
theorem put_fp {n : Nat} {L : List (Elem Tok)} {x : Elem Tok} (h : ∀ x ∈ L, ∀ b ∈ x.fp, n ≤ b) (hx : ∀ b ∈ x.fp, n ≤ b) : Hid (∀ y ∈ L ++ [x], ∀ b ∈ y.fp, n ≤ b) := fun y hy => by
  rcases List.mem_append.1 hy with h' | h'
  · exact h y h'
  · obtain rfl := List.mem_singleton.1 h'; exact hx
theorem num_R (w : World) (b sp : Bool) : sTok.R w [.int .i64 2, .string (if b = true then ⟨#[49]⟩ else ⟨#[48]⟩), .bool sp, .slice none 0 0] (numTk b sp) [] := by
  exact ⟨_, rfl, (show okInt 2 from ⟨by decide, by decide⟩), by cases b <;> exact (show (1 : Nat) ≤ maxLen by unfold maxLen; omega), slice_empty sStr _ _ 0 (by simp)⟩

theorem RowG.toN {α : Type} {S : Shape α} {base : Nat} {e : TypeId} {v : Value} {L : List (Elem α)} {w : World} (h : RowG S base e v L w) : RowN S base e v L w := ⟨h.row, h.len, h.el, h.ap⟩
theorem RowN.toG {α : Type} {S : Shape α} {base : Nat} {e : TypeId} {v : Value} {L : List (Elem α)} {w : World} (h : RowN S base e v L w) (hi : ∀ x ∈ L, ∀ b ∈ x.fp, b < base) : RowG S base e v L w := ⟨h.row, h.len, h.el, hi⟩
/-- append of a number's token that a literal made; at one operation of a drawn region. -/
theorem step_append_num {w : World} {L : List (Elem Tok)} {ops : Array Oper} {o : Oper} {a : Act} {K : Act → World → Prop} {Q : Exit → Act → World → Prop} {E : Prop}
    (d : Nat) (hdst : o.dst = some d) (hg : o.guard = none) (s y : Operand) (ho : o.op = .call { callee := .builtin .append, args := #[s, y], argTypes := #[24, 24] })
    (base : Nat) (v : Value) (hs : a.eval s = v) (hown : RowG sTok base 33 v L w) (bb sp : Bool) (x : ByteArray) (hx : sTok.R w [.int .i64 2, .string x, .bool sp, .slice none 0 0] (numTk bb sp) [])
    (hy : a.eval y = .slice (some ⟨w.heap.size, 0, none⟩) 1 1) (h63 : L.length ≤ 1500000) (hbase : base ≤ w.heap.size)
    (h : ∀ v' w', RowG sTok base 33 v' (L ++ [⟨[.int .i64 2, .string x, .bool sp, .slice none 0 0], numTk bb sp, []⟩]) w' → w.grownBy w' v.ownBlock → K (a.put (some d) v') w') :
    if Region.wanted o (yielded ops a.tmps) = true then Oper.wp Try.prog o a (w.alloc (.cells #[.int .i64 2, .string x, .bool sp, .slice none 0 0] 33)) K Q else E := by
  have hb := alloc_below' w (.cells #[.int .i64 2, .string x, .bool sp, .slice none 0 0] 33)
  refine step_append_rowNR (S := sTok) (X := [⟨[.int .i64 2, .string x, .bool sp, .slice none 0 0], numTk bb sp, []⟩]) ti_tok rfl (by decide) _ d hdst hg s y ho base v hs (hown.below hb).toN ⟨w.heap.size, 0, none⟩ 1 1 hy rfl ?_ ?_ ?_ (by unfold maxLen; omega) (by omega) (by simp; omega) fun v' w' a b _ => h v' w' (a.toG ?_) (grown_trans (World.grownBy_alloc _ _ _) b)
  · intro q hq; obtain rfl := List.mem_singleton.1 hq; exact ⟨rfl, sTok.below hx hb, by simp⟩
  · intro q hq; obtain rfl := List.mem_singleton.1 hq; simp [Value.oneCell']
  · intro j u hj
    rw [addr_add, Nat.zero_add, World.cell?_alloc_at _ _ _ _ rfl]
    simpa using hj
  · intro q hq
    rcases List.mem_append.1 hq with h | h
    · exact hown.hi q h
    · obtain rfl := List.mem_singleton.1 h; simp

set_option maxHeartbeats 64000000 in
set_option maxRecDepth 100000 in
theorem spec_ReplaceDefined (vT : Value) (T : List DMacro) (fpT : List Nat) (v : Value) (l : List Tok) (fp : List Nat) (w : World) (hTl : T.length ≤ 1048576) (hTs : ∀ k, (hk : k < T.length) → MacSm T[k]) (hl : l.length ≤ 1048576) (hx : ∀ k, (hk : k < l.length) → l[k].hidden.length ≤ 2000000)
    (HT : (sSlice sMacro).R w [vT] T fpT) (H : (sSlice sTok).R w [v] l fp) : Calls Try.prog 7 #[vT, v] w (RetRep (repRes T l) w) := by
  have HCT := Lib.hid (spec_l1OwnMacroList vT T fpT w hTl hTs HT)
  have HCL := Lib.hid (fun (U : World) (hU : Below w.heap.size w U) => spec_l1OwnTokenList_s v l fp U hl hx ((sSlice sTok).below H hU))
  clear HT H hTs hx hTl hl
  go_enter Try.func7, Try.ntmps7
  go_wp2_with fail
  refine HCT.out.mono ?_
  rintro e w1 ⟨v1, f1, rfl, hR1, hlo1, hB1⟩
  clear HCT
  go_wp2_with fail
  refine (HCL.out w1 hB1).mono ?_
  rintro e w2 ⟨v2, f2, rfl, hR2, hlo2, -, hb2⟩
  have hB2 := hB1.trans (hb2.mono hB1.size)
  have HT2 := Lib.hid ((sSlice sMacro).below hR1 hb2)
  have HR2 := Lib.hid hR2
  have b0 := alloc_below' w2 (.cells #[] 33)
  have HG0 := Lib.hid (RowG.lit0 sTok 33 w2)
  have hB3 := hB2.trans (b0.mono hB2.size)
  have HVT := Lib.hid (spec_TableValid v1 T f1 _ ((sSlice sMacro).below HT2.out b0))
  have HVL := Lib.hid (fun (U : World) (hU : Below w2.heap.size w2 U) => spec_TokensValid v2 l f2 U ((sSlice sTok).below HR2.out hU))
  have HLO : Hid (∀ b ∈ f2, w.heap.size ≤ b ∧ b < w2.heap.size) := fun b hb => ⟨Nat.le_trans hB1.size (hlo2 b hb), (sSlice sTok).lt hR2 b hb⟩
  clear HCL hR1 hR2 hlo1 hlo2 hb2 hB1
  cases ht : tabOk T
  · have HF := Lib.hid (repRes_bad (T := T) (l := l) (fun h => by rw [ht] at h; exact absurd h.1 (by simp)))
    rw [ht] at HVT
    clear ht HVL
    go_wp2_with fail
    refine HVT.out.mono ?_
    rintro e w3 ⟨rfl, hb3⟩
    have HG := Lib.hid (HG0.out.below hb3)
    go_wp2
    go_ret2
    exact retRep_row (L := []) HF.out HG.out hB2.size (by simp) (hB3.trans (hb3.mono hB3.size))
  cases hv : toksOk l
  · have HF := Lib.hid (repRes_bad (T := T) (l := l) (fun h => by rw [hv] at h; exact absurd h.2 (by simp)))
    rw [ht] at HVT
    rw [hv] at HVL
    clear ht hv
    go_wp2_with fail
    refine HVT.out.mono ?_
    rintro e w3 ⟨rfl, hb3⟩
    have hq3 := b0.trans (hb3.mono b0.size)
    go_wp2_with fail
    refine (HVL.out w3 hq3).mono ?_
    rintro e w4 ⟨rfl, hb4⟩
    have HG := Lib.hid ((HG0.out.below hb3).below hb4)
    go_wp2
    go_ret2
    exact retRep_row (L := []) HF.out HG.out hB2.size (by simp) ((hB3.trans (hb3.mono hB3.size)).trans (hb4.mono (hB3.trans (hb3.mono hB3.size)).size))
  have hl60 := (toksOk_facts hv).1
  obtain ⟨r, HR⟩ : ∃ r, Hid (r = repG T l 0 []) := ⟨_, Lib.hid rfl⟩
  have HF : Hid (repRes T l = r) := by show _ = _; unfold repRes; rw [if_pos ⟨ht, hv⟩]; exact HR.out.symm
  rw [ht] at HVT
  rw [hv] at HVL
  clear ht hv
  go_wp2_with fail
  refine HVT.out.mono ?_
  rintro e w3 ⟨rfl, hb3⟩
  have hq3 := b0.trans (hb3.mono b0.size)
  go_wp2_with fail
  refine (HVL.out w3 hq3).mono ?_
  rintro e w4 ⟨rfl, hb4⟩
  have hq4 := hq3.trans (hb4.mono hq3.size)
  have HG4 := Lib.hid ((HG0.out.below hb3).below hb4)
  clear hb3 hb4 hq3 b0 HG0 hB3 HVT HVL
  obtain ⟨al, cl, rfl, hcl, hml, hrow⟩ := open_rows HR2.out
  unfold maxLen at hml
  go_wp2_with fail
  go_loopw [6, 7] (fun vo i wr => ∃ (k : Nat) (L : List (Elem Tok)), k ≤ l.length ∧ i = .int .i64 k ∧ L.length ≤ k ∧ Hid (RowG sTok w2.heap.size 33 vo L wr) ∧ Hid (∀ x ∈ L, ∀ b ∈ x.fp, w.heap.size ≤ b) ∧ Hid (repG T l k (L.map (·.d)) = r) ∧ Below w2.heap.size w2 wr) (fun _ i _ => l.length - (intOf i).toNat)
  case atStart => exact ⟨0, [], by omega, rfl, by simp, HG4, Lib.hid (by simp), Lib.hid HR.out.symm, hq4⟩
  case round =>
    clear HG4 HR hq4
    obtain ⟨k, L, hk, rfl, hLk, HG, HLF, HI, hb⟩ := hrel
    obtain ⟨am, cm, rfl, -⟩ := HG.out.val
    have HNE : Hid (∀ b, (Value.slice am L.length cm).ownBlock = some b → b < wr.heap.size) := fun b hb => (HG.out.row.lt b hb).2
    have hB := hB2.trans (hb.mono hB2.size)
    by_cases hlt : k < l.length
    rotate_left
    · have HE : Hid (repRes T l = (L.map (·.d), true)) := by show _ = _; rw [HF.out, ← HI.out, rep_end (by omega)]
      clear HI HF hrow
      go_wp2
      go_ret2
      exact retRep_row HE.out HG.out hB2.size HLF.out hB
    obtain ⟨b1, o1, -, rfl, -, -, -⟩ := hrow (by omega)
    clear hrow
    have HLR := Lib.hid ((sSlice sTok).below HR2.out hb)
    have HTR := Lib.hid ((sSlice sMacro).below HT2.out hb)
    obtain ⟨xa, xc, xf, x0, x1, x2, x3, xR, hbb, hxf⟩ := tok_at HLR.out hlt
    obtain ⟨tk, HTK⟩ : ∃ tk : Tok, Hid (tk = l[k]) := ⟨_, Lib.hid rfl⟩
    rw [show l[k] = tk from HTK.out.symm] at x0 x1 x2 x3 xR
    have bx := alloc_below' wr (.cells #[.int .i64 tk.kind, .string tk.text, .bool tk.spaced, .slice xa tk.hidden.length xc] 33)
    have HX := Lib.hid (heap_alloc_new wr (.cells #[.int .i64 tk.kind, .string tk.text, .bool tk.spaced, .slice xa tk.hidden.length xc] 33))
    have HXF : Hid (∀ b ∈ xf, w.heap.size ≤ b ∧ b < w2.heap.size) := fun b hb' => HLO.out b (hxf b hb')
    have HXR := Lib.hid (sTok.below xR bx)
    have HGX := Lib.hid (HG.out.below bx)
    have hbX := hb.trans (bx.mono hb.size)
    have HLX := Lib.hid ((sSlice sTok).below HLR.out bx)
    have HTX := Lib.hid ((sSlice sMacro).below HTR.out bx)
    have hok : okStr tk.text := xR.choose_spec.2.2.1
    have HOK := Lib.hid hok
    clear xR hxf hbb HLR HTR HG hok
    go_upto_region 9 with fail
    clear x0 x1 x2 x3
    generalize (wr.alloc (.cells #[.int .i64 tk.kind, .string tk.text, .bool tk.spaced, .slice xa tk.hidden.length xc] 33)) = W1 at *
    have p0 := cell_of_row W1 (wr.heap.size) 0 _ _ _ HX.out
    have p1 := cell_of_row W1 (wr.heap.size) 1 _ _ _ HX.out
    have p2 := cell_of_row W1 (wr.heap.size) 2 _ _ _ HX.out
    have p3 := cell_of_row W1 (wr.heap.size) 3 _ _ _ HX.out
    by_cases hk1 : tk.kind = 1
    rotate_left
    · have e1 : (tk.kind != 1) = true := by simp [hk1]
      have HN : Hid (isDfn l[k] = false) := by show _ = _; rw [← HTK.out]; unfold isDfn; rw [decide_eq_false hk1]; rfl
      have HE : Hid (repG T l (k + 1) (L.map (·.d) ++ [tk]) = r) := by show _ = _; rw [HTK.out, ← rep_else hlt HN.out]; exact HI.out
      clear HN HI HTK hk1
      go_wp2_with (at_builtin; refine wp_append_tokG rfl (.tmp 42) (.tmp 44) rfl w2.heap.size (.slice am L.length cm) L rfl HGX.out tk.kind tk.text tk.spaced xa tk.hidden.length xc tk xf rfl HXR.out (fun b hb => (HXF.out b hb).2) (by omega) hbX.size ?_; intro v3 w3 hG3 hg3)
      have hb3 : Below w2.heap.size w2 w3 := hbX.grown hg3 hbX.size (fun b hb => HGX.out.mine b hb)
      have HG3 := Lib.hid hG3
      clear hG3 hg3
      go_roundw
      case rel => exact ⟨k + 1, _, by omega, by go_num, by simp; omega, HG3, put_fp HLF.out (fun b hb => (HXF.out b hb).1), by show _ = _; rw [List.map_append]; exact HE.out, hb3⟩
      case measure => simp [intOf]; omega
    have e1 : (tk.kind != 1) = false := by simp [hk1]
    cases hd : (tk.text.toList == [100, 101, 102, 105, 110, 101, 100])
    · have HN : Hid (isDfn l[k] = false) := by show _ = _; rw [← HTK.out]; unfold isDfn; rw [hd, Bool.and_false]
      have HE : Hid (repG T l (k + 1) (L.map (·.d) ++ [tk]) = r) := by show _ = _; rw [HTK.out, ← rep_else hlt HN.out]; exact HI.out
      clear HN HI HTK hk1
      go_wp2_with (at_builtin; refine wp_append_tokG rfl (.tmp 42) (.tmp 44) rfl w2.heap.size (.slice am L.length cm) L rfl HGX.out tk.kind tk.text tk.spaced xa tk.hidden.length xc tk xf rfl HXR.out (fun b hb => (HXF.out b hb).2) (by omega) hbX.size ?_; intro v3 w3 hG3 hg3)
      have hb3 : Below w2.heap.size w2 w3 := hbX.grown hg3 hbX.size (fun b hb => HGX.out.mine b hb)
      have HG3 := Lib.hid hG3
      clear hG3 hg3
      go_roundw
      case rel => exact ⟨k + 1, _, by omega, by go_num, by simp; omega, HG3, put_fp HLF.out (fun b hb => (HXF.out b hb).1), by show _ = _; rw [List.map_append]; exact HE.out, hb3⟩
      case measure => simp [intOf]; omega
    have HD : Hid (isDfn l[k] = true) := by show _ = _; rw [← HTK.out]; unfold isDfn; rw [hd, decide_eq_true hk1]; rfl
    clear hk1 HXR HXF
    have hBX := hB2.trans (hbX.mono hB2.size)
    have i0 : (0 : Int) ≤ (k : Int) := by omega
    have hw1 : IntKind.i64.wrap ((k : Int) + 1) = ((k + 1 : Nat) : Int) := by rw [IntWalk.i64_in _ (by omega)]; omega
    have hw2 : IntKind.i64.wrap ((k : Int) + 2) = ((k + 2 : Nat) : Int) := by rw [IntWalk.i64_in _ (by omega)]; omega
    have hw4 : IntKind.i64.wrap ((k : Int) + 4) = ((k + 4 : Nat) : Int) := by rw [IntWalk.i64_in _ (by omega)]; omega
    have HXX := HX
    by_cases hn1 : k + 1 < l.length
    rotate_left
    · have i1 : ¬ (((k + 1 : Nat) : Int) < (l.length : Int)) := by omega
      have i2 : (l.length : Int) ≤ ((k + 1 : Nat) : Int) := by omega
      have HE : Hid (repRes T l = ([], false)) := by show _ = _; rw [HF.out, ← HI.out]; exact rep_none hlt HD.out (mkAt_no (by omega)) (nmAt_no (by omega))
      go_wp2
      go_ret2
      exact retRep_no HE.out hBX
    obtain ⟨ya, yc, yf, y0, y1, y2, y3, yR, -, -⟩ := tok_at HLX.out hn1
    obtain ⟨ty, HTy⟩ : ∃ ty : Tok, Hid (ty = l[k + 1]) := ⟨_, Lib.hid rfl⟩
    rw [show l[k + 1] = ty from HTy.out.symm] at y0 y1 y2 y3 yR
    have i_y : ((k + 1 : Nat) : Int) < (l.length : Int) := by omega
    have j_y : (0 : Int) ≤ ((k + 1 : Nat) : Int) := by omega
    have k_y : (((k + 1 : Nat) : Int)).toNat = k + 1 := by omega
    have HC1 := Lib.hid (says_mk (c := 40) yR)
    have HMK : Hid (mkAt l (k + 1) [40] = isMk ty [40]) := by show _ = _; rw [mkAt_at hn1, HTy.out]
    clear yR
    go_wp2_with fail
    refine HC1.out.mono ?_
    rintro e W5 ⟨rfl, q5⟩
    clear y0 y1 y2 y3 p0 p1 p2 p3 hd
    have HL5 := Lib.hid ((sSlice sTok).below HLX.out q5)
    have HT5 := Lib.hid ((sSlice sMacro).below HTX.out q5)
    have HG5 := Lib.hid (HGX.out.below q5)
    have HX5 := Lib.hid (mbox HXX.out q5)
    have hb5 := hbX.trans (q5.mono hbX.size)
    have hB5 := hBX.trans (q5.mono hBX.size)
    clear HLX HTX HGX HXX
    clear HC1
    cases hm : isMk ty [40]
    · have HO : Hid (mkAt l (k + 1) [40] = false) := by show _ = _; rw [HMK.out]; exact hm
      have i2 : ¬ ((l.length : Int) ≤ ((k + 1 : Nat) : Int)) := by omega
      clear hm HMK
      obtain ⟨za, zc, zf, z0, z1, z2, z3, zR, -, -⟩ := tok_at HL5.out hn1
      obtain ⟨tz, HTz⟩ : ∃ tz : Tok, Hid (tz = l[k + 1]) := ⟨_, Lib.hid rfl⟩
      rw [show l[k + 1] = tz from HTz.out.symm] at z0 z1 z2 z3 zR
      have i_z : ((k + 1 : Nat) : Int) < (l.length : Int) := by omega
      have j_z : (0 : Int) ≤ ((k + 1 : Nat) : Int) := by omega
      have k_z : (((k + 1 : Nat) : Int)).toNat = k + 1 := by omega
      clear z2 z3
      by_cases hk2 : tz.kind = 1
      rotate_left
      · have e2 : (tz.kind != 1) = true := by simp [hk2]
        have HNM : Hid (nmAt l (k + 1) = false) := by show _ = _; rw [nmAt_at hn1, ← HTz.out]; exact decide_eq_false hk2
        clear hk2
        have HE : Hid (repRes T l = ([], false)) := by show _ = _; rw [HF.out, ← HI.out]; exact rep_none hlt HD.out HO.out HNM.out
        go_wp2
        go_ret2
        exact retRep_no HE.out hB5
      have e2 : (tz.kind != 1) = false := by simp [hk2]
      have HNM : Hid (nmAt l (k + 1) = true) := by show _ = _; rw [nmAt_at hn1, ← HTz.out]; exact decide_eq_true hk2
      clear hk2
      have HP := Lib.hid (spec_l6Place v1 T tz.text f1 W5 HT5.out)
      have HTX' : Hid (txAt l (k + 1) = tz.text) := by show _ = _; rw [txAt_at hn1]; exact congrArg Tok.text HTz.out.symm
      go_wp2_with fail
      refine HP.out.mono ?_
      rintro e W6 ⟨rfl, q6⟩
      have HL6 := Lib.hid ((sSlice sTok).below HL5.out q6)
      have HT6 := Lib.hid ((sSlice sMacro).below HT5.out q6)
      have HG6 := Lib.hid (HG5.out.below q6)
      have HX6 := Lib.hid (mbox HX5.out q6)
      have hb6 := hb5.trans (q6.mono hb5.size)
      have hB6 := hB5.trans (q6.mono hB5.size)
      clear HL5 HT5 HG5 HX5
      clear HP
      have p2 := cell_of_row W6 (wr.heap.size) 2 _ _ _ HX6.out
      have HNR : Hid (∀ W b, sTok.R W [.int .i64 2, .string (if b = true then ⟨#[49]⟩ else ⟨#[48]⟩), .bool tk.spaced, .slice none 0 0] (numTk b tk.spaced) []) := fun W b => num_R W b tk.spaced
      by_cases hp : 0 ≤ place T tz.text
      · have e3 : decide ((0 : Int) ≤ place T tz.text) = true := by simpa using hp
        have HH : Hid (hasT T (txAt l (k + 1)) = true) := by show _ = _; rw [HTX'.out]; unfold hasT; exact e3
        have HTR := Lib.hid (spec_l12Truth true W6)
        unfold bit1 at HTR
        simp only [if_true, Bool.false_eq_true, if_false] at HTR
        have HE : Hid (repG T l (k + 2) (L.map (·.d) ++ [numTk true tk.spaced]) = r) := by show _ = _; rw [← HI.out, rep_plain hlt HD.out HO.out HNM.out, HH.out, HTK.out]
        clear HH hp HI
        go_wp2_with fail
        refine HTR.out.mono ?_
        rintro e w9 ⟨rfl, rfl⟩
        go_upto_region 22 with fail
        have hd0 : Below w9.heap.size w9 w9.drew := belowN (Below.refl _ _) 1
        have HGd := Lib.hid (HG6.out.below hd0)
        have hbd := hb6.trans (hd0.mono hb6.size)
        have HXd := Lib.hid (mbox HX6.out hd0)
        clear hd0
        have hs : ∀ W, Sem.run Try.prog (Instr.slice 9 (.string ⟨#[48, 49]⟩) (some (.int .i64 1)) (some (.int .i64 2)) none) W = .ok (.string ⟨#[49]⟩) W := fun W => by
          first | rfl | kernel_rfl
        have hw : IntKind.i64.wrap 2 = 2 := by decide
        refine wp_region_noPanic ?_
        refine wp_region_held_drew (S := fun w' => w'.heap[wr.heap.size]? = some (.cells #[.int .i64 tk.kind, .string tk.text, .bool tk.spaced, .slice xa tk.hidden.length xc] 33 (0, 0))) (by kernel_rfl) (by exact HX6.out) (fun hHeld => ?_)
        generalize w9.drew = wd at *
        refine takeH2 0 103 (v := ?_) rfl rfl (by kernel_rfl) (by kernel_rfl) (by kernel_rfl) (fun _ _ _ h => h) (by rfl) (by assumption) ?_ ?_
        rotate_left
        · intro w hSw; go_simp; (first | done | with_reducible rfl | rfl)
        try simp only [Act.put, List.setIfInBounds_toArray, List.set_cons_zero, List.set_cons_succ]
        refine takeH2 1 104 (v := ?_) rfl rfl (by kernel_rfl) (by kernel_rfl) (by kernel_rfl) (fun _ _ _ h => h) (by rfl) (by assumption) ?_ ?_
        rotate_left
        · intro w hSw; go_simp; (first | done | with_reducible rfl | rfl)
        try simp only [Act.put, List.setIfInBounds_toArray, List.set_cons_zero, List.set_cons_succ]
        refine takeH2 2 105 (v := ?_) rfl rfl (by kernel_rfl) (by kernel_rfl) (by kernel_rfl) (fun _ _ _ h => h) (by rfl) (by assumption) ?_ ?_
        rotate_left
        · intro w hSw; go_simp; (first | done | with_reducible rfl | rfl)
        try simp only [Act.put, List.setIfInBounds_toArray, List.set_cons_zero, List.set_cons_succ]
        refine takeH2 3 106 (v := ?_) rfl rfl (by kernel_rfl) (by kernel_rfl) (by kernel_rfl) (fun _ _ _ h => h) (by rfl) (by assumption) ?_ ?_
        rotate_left
        · intro w hSw; go_simp; (first | done | with_reducible rfl | rfl)
        try simp only [Act.put, List.setIfInBounds_toArray, List.set_cons_zero, List.set_cons_succ]
        refine takeH2 4 107 (v := ?_) rfl rfl (by kernel_rfl) (by kernel_rfl) (by kernel_rfl) (fun _ _ _ h => h) (by rfl) (by assumption) ?_ ?_
        rotate_left
        · intro w hSw; go_simp; (first | done | with_reducible rfl | rfl)
        try simp only [Act.put, List.setIfInBounds_toArray, List.set_cons_zero, List.set_cons_succ]
        refine takeH2 5 108 (v := ?_) rfl rfl (by kernel_rfl) (by kernel_rfl) (by kernel_rfl) (fun _ _ _ h => h) (by rfl) (by assumption) ?_ ?_
        rotate_left
        · intro w hSw; go_simp; (first | done | with_reducible rfl | rfl)
        try simp only [Act.put, List.setIfInBounds_toArray, List.set_cons_zero, List.set_cons_succ]
        refine takeH2 6 109 (v := ?_) rfl rfl (by kernel_rfl) (by kernel_rfl) (by kernel_rfl) (fun _ _ _ h => h) (by rfl) (by assumption) ?_ ?_
        rotate_left
        · intro w hSw; have t2 := cell_of_row _ _ 2 _ _ _ hSw; go_simp; (first | done | with_reducible rfl | rfl)
        try simp only [Act.put, List.setIfInBounds_toArray, List.set_cons_zero, List.set_cons_succ]
        refine takeH2 7 110 (v := ?_) rfl rfl (by kernel_rfl) (by kernel_rfl) (by kernel_rfl) (fun _ _ _ h => h) (by rfl) (by assumption) ?_ ?_
        rotate_left
        · intro w hSw; go_simp; (first | done | with_reducible rfl | rfl)
        try simp only [Act.put, List.setIfInBounds_toArray, List.set_cons_zero, List.set_cons_succ]
        refine wpAnyH_ready (rs := [8]) (by kernel_rfl) (by simp) ?_
        refine AllReadyH.cons rfl (fun K hK => ?_) AllReadyH.nil
        go_simp
        refine hK.out _ _ (mbox HXd.out (alloc_below' wd _)) (fun hHeld => ?_)
        clear hK K
        try simp only [Act.put, List.setIfInBounds_toArray, List.set_cons_zero, List.set_cons_succ]
        refine wpAnyH_ready (rs := [9]) (by kernel_rfl) (by simp) ?_
        refine AllReadyH.cons rfl (fun K hK => ?_) AllReadyH.nil
        refine step_append_num (w := wd) (L := L) 112 rfl rfl (.tmp 103) (.tmp 111) rfl w2.heap.size (.slice am L.length cm) rfl HGd.out true tk.spaced ⟨#[49]⟩ (HNR.out wd true) rfl (by omega) hbd.size ?_
        intro v3 w3 hG3 hg3
        refine hK.out _ _ ((hg3.block _ (Array.getElem?_eq_some_iff.1 HXd.out).1 (fun e => Nat.lt_irrefl _ (HNE.out _ e.symm))).trans HXd.out) (fun hHeld => ?_)
        clear hK K
        try simp only [Act.put, List.setIfInBounds_toArray, List.set_cons_zero, List.set_cons_succ]
        refine takeH2 10 6 (v := ?_) rfl rfl (by kernel_rfl) (by kernel_rfl) (by kernel_rfl) (fun _ _ _ h => h) (by rfl) (by assumption) ?_ ?_
        rotate_left
        · intro w hSw; go_simp; (first | done | with_reducible rfl | rfl)
        try simp only [Act.put, List.setIfInBounds_toArray, List.set_cons_zero, List.set_cons_succ]
        refine wpAnyH_done (by kernel_rfl) ?_ _
        refine NoPanic.normal ?_
        clear hHeld
        have hb3 : Below w2.heap.size w2 w3 := hbd.grown hg3 hbd.size (fun b hb => HGd.out.mine b hb)
        have HG3 := Lib.hid hG3
        clear hG3 hg3 HXd HGd hs hw
        go_wp2
        go_roundw
        case rel => exact ⟨k + 2, _, by omega, by go_num, by simp; omega, HG3, put_fp HLF.out (by simp), by show _ = _; rw [List.map_append]; exact HE.out, hb3⟩
        case measure => simp [intOf]; omega
      · have e3 : decide ((0 : Int) ≤ place T tz.text) = false := by simpa using hp
        have HH : Hid (hasT T (txAt l (k + 1)) = false) := by show _ = _; rw [HTX'.out]; unfold hasT; exact e3
        have HTR := Lib.hid (spec_l12Truth false W6)
        unfold bit1 at HTR
        simp only [if_true, Bool.false_eq_true, if_false] at HTR
        have HE : Hid (repG T l (k + 2) (L.map (·.d) ++ [numTk false tk.spaced]) = r) := by show _ = _; rw [← HI.out, rep_plain hlt HD.out HO.out HNM.out, HH.out, HTK.out]
        clear HH hp HI
        go_wp2_with fail
        refine HTR.out.mono ?_
        rintro e w9 ⟨rfl, rfl⟩
        go_upto_region 22 with fail
        have hd0 : Below w9.heap.size w9 w9.drew := belowN (Below.refl _ _) 1
        have HGd := Lib.hid (HG6.out.below hd0)
        have hbd := hb6.trans (hd0.mono hb6.size)
        have HXd := Lib.hid (mbox HX6.out hd0)
        clear hd0
        have hs : ∀ W, Sem.run Try.prog (Instr.slice 9 (.string ⟨#[48, 49]⟩) (some (.int .i64 0)) (some (.int .i64 1)) none) W = .ok (.string ⟨#[48]⟩) W := fun W => by
          first | rfl | kernel_rfl
        have hw : IntKind.i64.wrap 1 = 1 := by decide
        refine wp_region_noPanic ?_
        refine wp_region_held_drew (S := fun w' => w'.heap[wr.heap.size]? = some (.cells #[.int .i64 tk.kind, .string tk.text, .bool tk.spaced, .slice xa tk.hidden.length xc] 33 (0, 0))) (by kernel_rfl) (by exact HX6.out) (fun hHeld => ?_)
        generalize w9.drew = wd at *
        refine takeH2 0 103 (v := ?_) rfl rfl (by kernel_rfl) (by kernel_rfl) (by kernel_rfl) (fun _ _ _ h => h) (by rfl) (by assumption) ?_ ?_
        rotate_left
        · intro w hSw; go_simp; (first | done | with_reducible rfl | rfl)
        try simp only [Act.put, List.setIfInBounds_toArray, List.set_cons_zero, List.set_cons_succ]
        refine takeH2 1 104 (v := ?_) rfl rfl (by kernel_rfl) (by kernel_rfl) (by kernel_rfl) (fun _ _ _ h => h) (by rfl) (by assumption) ?_ ?_
        rotate_left
        · intro w hSw; go_simp; (first | done | with_reducible rfl | rfl)
        try simp only [Act.put, List.setIfInBounds_toArray, List.set_cons_zero, List.set_cons_succ]
        refine takeH2 2 105 (v := ?_) rfl rfl (by kernel_rfl) (by kernel_rfl) (by kernel_rfl) (fun _ _ _ h => h) (by rfl) (by assumption) ?_ ?_
        rotate_left
        · intro w hSw; go_simp; (first | done | with_reducible rfl | rfl)
        try simp only [Act.put, List.setIfInBounds_toArray, List.set_cons_zero, List.set_cons_succ]
        refine takeH2 3 106 (v := ?_) rfl rfl (by kernel_rfl) (by kernel_rfl) (by kernel_rfl) (fun _ _ _ h => h) (by rfl) (by assumption) ?_ ?_
        rotate_left
        · intro w hSw; go_simp; (first | done | with_reducible rfl | rfl)
        try simp only [Act.put, List.setIfInBounds_toArray, List.set_cons_zero, List.set_cons_succ]
        refine takeH2 4 107 (v := ?_) rfl rfl (by kernel_rfl) (by kernel_rfl) (by kernel_rfl) (fun _ _ _ h => h) (by rfl) (by assumption) ?_ ?_
        rotate_left
        · intro w hSw; go_simp; (first | done | with_reducible rfl | rfl)
        try simp only [Act.put, List.setIfInBounds_toArray, List.set_cons_zero, List.set_cons_succ]
        refine takeH2 5 108 (v := ?_) rfl rfl (by kernel_rfl) (by kernel_rfl) (by kernel_rfl) (fun _ _ _ h => h) (by rfl) (by assumption) ?_ ?_
        rotate_left
        · intro w hSw; go_simp; (first | done | with_reducible rfl | rfl)
        try simp only [Act.put, List.setIfInBounds_toArray, List.set_cons_zero, List.set_cons_succ]
        refine takeH2 6 109 (v := ?_) rfl rfl (by kernel_rfl) (by kernel_rfl) (by kernel_rfl) (fun _ _ _ h => h) (by rfl) (by assumption) ?_ ?_
        rotate_left
        · intro w hSw; have t2 := cell_of_row _ _ 2 _ _ _ hSw; go_simp; (first | done | with_reducible rfl | rfl)
        try simp only [Act.put, List.setIfInBounds_toArray, List.set_cons_zero, List.set_cons_succ]
        refine takeH2 7 110 (v := ?_) rfl rfl (by kernel_rfl) (by kernel_rfl) (by kernel_rfl) (fun _ _ _ h => h) (by rfl) (by assumption) ?_ ?_
        rotate_left
        · intro w hSw; go_simp; (first | done | with_reducible rfl | rfl)
        try simp only [Act.put, List.setIfInBounds_toArray, List.set_cons_zero, List.set_cons_succ]
        refine wpAnyH_ready (rs := [8]) (by kernel_rfl) (by simp) ?_
        refine AllReadyH.cons rfl (fun K hK => ?_) AllReadyH.nil
        go_simp
        refine hK.out _ _ (mbox HXd.out (alloc_below' wd _)) (fun hHeld => ?_)
        clear hK K
        try simp only [Act.put, List.setIfInBounds_toArray, List.set_cons_zero, List.set_cons_succ]
        refine wpAnyH_ready (rs := [9]) (by kernel_rfl) (by simp) ?_
        refine AllReadyH.cons rfl (fun K hK => ?_) AllReadyH.nil
        refine step_append_num (w := wd) (L := L) 112 rfl rfl (.tmp 103) (.tmp 111) rfl w2.heap.size (.slice am L.length cm) rfl HGd.out false tk.spaced ⟨#[48]⟩ (HNR.out wd false) rfl (by omega) hbd.size ?_
        intro v3 w3 hG3 hg3
        refine hK.out _ _ ((hg3.block _ (Array.getElem?_eq_some_iff.1 HXd.out).1 (fun e => Nat.lt_irrefl _ (HNE.out _ e.symm))).trans HXd.out) (fun hHeld => ?_)
        clear hK K
        try simp only [Act.put, List.setIfInBounds_toArray, List.set_cons_zero, List.set_cons_succ]
        refine takeH2 10 6 (v := ?_) rfl rfl (by kernel_rfl) (by kernel_rfl) (by kernel_rfl) (fun _ _ _ h => h) (by rfl) (by assumption) ?_ ?_
        rotate_left
        · intro w hSw; go_simp; (first | done | with_reducible rfl | rfl)
        try simp only [Act.put, List.setIfInBounds_toArray, List.set_cons_zero, List.set_cons_succ]
        refine wpAnyH_done (by kernel_rfl) ?_ _
        refine NoPanic.normal ?_
        clear hHeld
        have hb3 : Below w2.heap.size w2 w3 := hbd.grown hg3 hbd.size (fun b hb => HGd.out.mine b hb)
        have HG3 := Lib.hid hG3
        clear hG3 hg3 HXd HGd hs hw
        go_wp2
        go_roundw
        case rel => exact ⟨k + 2, _, by omega, by go_num, by simp; omega, HG3, put_fp HLF.out (by simp), by show _ = _; rw [List.map_append]; exact HE.out, hb3⟩
        case measure => simp [intOf]; omega
    have HO : Hid (mkAt l (k + 1) [40] = true) := by show _ = _; rw [HMK.out]; exact hm
    clear hm HMK
    by_cases hn4 : k + 4 ≤ l.length
    rotate_left
    · have i4 : (l.length : Int) < ((k + 4 : Nat) : Int) := by omega
      have HE : Hid (repRes T l = ([], false)) := by show _ = _; rw [HF.out, ← HI.out]; exact rep_open hlt HD.out HO.out (fun h => by rw [mkAt_no (by omega)] at h; exact absurd h.1 (by simp))
      go_wp2
      go_ret2
      exact retRep_no HE.out hB5
    have hn3 : k + 3 < l.length := by omega
    have i4 : ¬ ((l.length : Int) < ((k + 4 : Nat) : Int)) := by omega
    have hw3 : IntKind.i64.wrap (((k + 4 : Nat) : Int) - 1) = ((k + 3 : Nat) : Int) := by rw [IntWalk.i64_in _ (by omega)]; omega
    obtain ⟨ma, mc, mf, m0, m1, m2, m3, mR, -, -⟩ := tok_at HL5.out hn3
    obtain ⟨tm, HTm⟩ : ∃ tm : Tok, Hid (tm = l[k + 3]) := ⟨_, Lib.hid rfl⟩
    rw [show l[k + 3] = tm from HTm.out.symm] at m0 m1 m2 m3 mR
    have i_m : ((k + 3 : Nat) : Int) < (l.length : Int) := by omega
    have j_m : (0 : Int) ≤ ((k + 3 : Nat) : Int) := by omega
    have k_m : (((k + 3 : Nat) : Int)).toNat = k + 3 := by omega
    have HC2 := Lib.hid (says_mk (c := 41) mR)
    have HMK : Hid (mkAt l (k + 3) [41] = isMk tm [41]) := by show _ = _; rw [mkAt_at hn3, HTm.out]
    clear mR
    go_wp2_with fail
    refine HC2.out.mono ?_
    rintro e W6 ⟨rfl, q6⟩
    clear m0 m1 m2 m3
    have HL6 := Lib.hid ((sSlice sTok).below HL5.out q6)
    have HT6 := Lib.hid ((sSlice sMacro).below HT5.out q6)
    have HG6 := Lib.hid (HG5.out.below q6)
    have HX6 := Lib.hid (mbox HX5.out q6)
    have hb6 := hb5.trans (q6.mono hb5.size)
    have hB6 := hB5.trans (q6.mono hB5.size)
    clear HL5 HT5 HG5 HX5
    clear HC2
    cases hm : isMk tm [41]
    · have HO2 : Hid (mkAt l (k + 3) [41] = false) := by show _ = _; rw [HMK.out]; exact hm
      clear hm HMK
      have HE : Hid (repRes T l = ([], false)) := by show _ = _; rw [HF.out, ← HI.out]; exact rep_open hlt HD.out HO.out (fun h => by rw [HO2.out] at h; exact absurd h.1 (by simp))
      go_wp2
      go_ret2
      exact retRep_no HE.out hB6
    have HO2 : Hid (mkAt l (k + 3) [41] = true) := by show _ = _; rw [HMK.out]; exact hm
    have hn2 : k + 2 < l.length := by omega
    have i2 : ¬ ((l.length : Int) ≤ ((k + 2 : Nat) : Int)) := by omega
    clear hm HMK
    obtain ⟨za, zc, zf, z0, z1, z2, z3, zR, -, -⟩ := tok_at HL6.out hn2
    obtain ⟨tz, HTz⟩ : ∃ tz : Tok, Hid (tz = l[k + 2]) := ⟨_, Lib.hid rfl⟩
    rw [show l[k + 2] = tz from HTz.out.symm] at z0 z1 z2 z3 zR
    have i_z : ((k + 2 : Nat) : Int) < (l.length : Int) := by omega
    have j_z : (0 : Int) ≤ ((k + 2 : Nat) : Int) := by omega
    have k_z : (((k + 2 : Nat) : Int)).toNat = k + 2 := by omega
    clear z2 z3
    by_cases hk2 : tz.kind = 1
    rotate_left
    · have e2 : (tz.kind != 1) = true := by simp [hk2]
      have HNM : Hid (nmAt l (k + 2) = false) := by show _ = _; rw [nmAt_at hn2, ← HTz.out]; exact decide_eq_false hk2
      clear hk2
      have HE : Hid (repRes T l = ([], false)) := by show _ = _; rw [HF.out, ← HI.out]; exact rep_open hlt HD.out HO.out (fun h => by rw [HNM.out] at h; exact absurd h.2 (by simp))
      go_wp2
      go_ret2
      exact retRep_no HE.out hB6
    have e2 : (tz.kind != 1) = false := by simp [hk2]
    have HNM : Hid (nmAt l (k + 2) = true) := by show _ = _; rw [nmAt_at hn2, ← HTz.out]; exact decide_eq_true hk2
    clear hk2
    have HP := Lib.hid (spec_l6Place v1 T tz.text f1 W6 HT6.out)
    have HTX' : Hid (txAt l (k + 2) = tz.text) := by show _ = _; rw [txAt_at hn2]; exact congrArg Tok.text HTz.out.symm
    go_wp2_with fail
    refine HP.out.mono ?_
    rintro e W7 ⟨rfl, q7⟩
    have HL7 := Lib.hid ((sSlice sTok).below HL6.out q7)
    have HT7 := Lib.hid ((sSlice sMacro).below HT6.out q7)
    have HG7 := Lib.hid (HG6.out.below q7)
    have HX7 := Lib.hid (mbox HX6.out q7)
    have hb7 := hb6.trans (q7.mono hb6.size)
    have hB7 := hB6.trans (q7.mono hB6.size)
    clear HL6 HT6 HG6 HX6
    clear HP
    have p2 := cell_of_row W7 (wr.heap.size) 2 _ _ _ HX7.out
    have HNR : Hid (∀ W b, sTok.R W [.int .i64 2, .string (if b = true then ⟨#[49]⟩ else ⟨#[48]⟩), .bool tk.spaced, .slice none 0 0] (numTk b tk.spaced) []) := fun W b => num_R W b tk.spaced
    by_cases hp : 0 ≤ place T tz.text
    · have e3 : decide ((0 : Int) ≤ place T tz.text) = true := by simpa using hp
      have HH : Hid (hasT T (txAt l (k + 2)) = true) := by show _ = _; rw [HTX'.out]; unfold hasT; exact e3
      have HTR := Lib.hid (spec_l12Truth true W7)
      unfold bit1 at HTR
      simp only [if_true, Bool.false_eq_true, if_false] at HTR
      have HE : Hid (repG T l (k + 4) (L.map (·.d) ++ [numTk true tk.spaced]) = r) := by show _ = _; rw [← HI.out, rep_in hlt HD.out HO.out HO2.out HNM.out, HH.out, HTK.out]
      clear HH hp HI
      go_wp2_with fail
      refine HTR.out.mono ?_
      rintro e w9 ⟨rfl, rfl⟩
      go_upto_region 22 with fail
      have hd0 : Below w9.heap.size w9 w9.drew := belowN (Below.refl _ _) 1
      have HGd := Lib.hid (HG7.out.below hd0)
      have hbd := hb7.trans (hd0.mono hb7.size)
      have HXd := Lib.hid (mbox HX7.out hd0)
      clear hd0
      have hs : ∀ W, Sem.run Try.prog (Instr.slice 9 (.string ⟨#[48, 49]⟩) (some (.int .i64 1)) (some (.int .i64 2)) none) W = .ok (.string ⟨#[49]⟩) W := fun W => by
        first | rfl | kernel_rfl
      have hw : IntKind.i64.wrap 2 = 2 := by decide
      refine wp_region_noPanic ?_
      refine wp_region_held_drew (S := fun w' => w'.heap[wr.heap.size]? = some (.cells #[.int .i64 tk.kind, .string tk.text, .bool tk.spaced, .slice xa tk.hidden.length xc] 33 (0, 0))) (by kernel_rfl) (by exact HX7.out) (fun hHeld => ?_)
      generalize w9.drew = wd at *
      refine takeH2 0 103 (v := ?_) rfl rfl (by kernel_rfl) (by kernel_rfl) (by kernel_rfl) (fun _ _ _ h => h) (by rfl) (by assumption) ?_ ?_
      rotate_left
      · intro w hSw; go_simp; (first | done | with_reducible rfl | rfl)
      try simp only [Act.put, List.setIfInBounds_toArray, List.set_cons_zero, List.set_cons_succ]
      refine takeH2 1 104 (v := ?_) rfl rfl (by kernel_rfl) (by kernel_rfl) (by kernel_rfl) (fun _ _ _ h => h) (by rfl) (by assumption) ?_ ?_
      rotate_left
      · intro w hSw; go_simp; (first | done | with_reducible rfl | rfl)
      try simp only [Act.put, List.setIfInBounds_toArray, List.set_cons_zero, List.set_cons_succ]
      refine takeH2 2 105 (v := ?_) rfl rfl (by kernel_rfl) (by kernel_rfl) (by kernel_rfl) (fun _ _ _ h => h) (by rfl) (by assumption) ?_ ?_
      rotate_left
      · intro w hSw; go_simp; (first | done | with_reducible rfl | rfl)
      try simp only [Act.put, List.setIfInBounds_toArray, List.set_cons_zero, List.set_cons_succ]
      refine takeH2 3 106 (v := ?_) rfl rfl (by kernel_rfl) (by kernel_rfl) (by kernel_rfl) (fun _ _ _ h => h) (by rfl) (by assumption) ?_ ?_
      rotate_left
      · intro w hSw; go_simp; (first | done | with_reducible rfl | rfl)
      try simp only [Act.put, List.setIfInBounds_toArray, List.set_cons_zero, List.set_cons_succ]
      refine takeH2 4 107 (v := ?_) rfl rfl (by kernel_rfl) (by kernel_rfl) (by kernel_rfl) (fun _ _ _ h => h) (by rfl) (by assumption) ?_ ?_
      rotate_left
      · intro w hSw; go_simp; (first | done | with_reducible rfl | rfl)
      try simp only [Act.put, List.setIfInBounds_toArray, List.set_cons_zero, List.set_cons_succ]
      refine takeH2 5 108 (v := ?_) rfl rfl (by kernel_rfl) (by kernel_rfl) (by kernel_rfl) (fun _ _ _ h => h) (by rfl) (by assumption) ?_ ?_
      rotate_left
      · intro w hSw; go_simp; (first | done | with_reducible rfl | rfl)
      try simp only [Act.put, List.setIfInBounds_toArray, List.set_cons_zero, List.set_cons_succ]
      refine takeH2 6 109 (v := ?_) rfl rfl (by kernel_rfl) (by kernel_rfl) (by kernel_rfl) (fun _ _ _ h => h) (by rfl) (by assumption) ?_ ?_
      rotate_left
      · intro w hSw; have t2 := cell_of_row _ _ 2 _ _ _ hSw; go_simp; (first | done | with_reducible rfl | rfl)
      try simp only [Act.put, List.setIfInBounds_toArray, List.set_cons_zero, List.set_cons_succ]
      refine takeH2 7 110 (v := ?_) rfl rfl (by kernel_rfl) (by kernel_rfl) (by kernel_rfl) (fun _ _ _ h => h) (by rfl) (by assumption) ?_ ?_
      rotate_left
      · intro w hSw; go_simp; (first | done | with_reducible rfl | rfl)
      try simp only [Act.put, List.setIfInBounds_toArray, List.set_cons_zero, List.set_cons_succ]
      refine wpAnyH_ready (rs := [8]) (by kernel_rfl) (by simp) ?_
      refine AllReadyH.cons rfl (fun K hK => ?_) AllReadyH.nil
      go_simp
      refine hK.out _ _ (mbox HXd.out (alloc_below' wd _)) (fun hHeld => ?_)
      clear hK K
      try simp only [Act.put, List.setIfInBounds_toArray, List.set_cons_zero, List.set_cons_succ]
      refine wpAnyH_ready (rs := [9]) (by kernel_rfl) (by simp) ?_
      refine AllReadyH.cons rfl (fun K hK => ?_) AllReadyH.nil
      refine step_append_num (w := wd) (L := L) 112 rfl rfl (.tmp 103) (.tmp 111) rfl w2.heap.size (.slice am L.length cm) rfl HGd.out true tk.spaced ⟨#[49]⟩ (HNR.out wd true) rfl (by omega) hbd.size ?_
      intro v3 w3 hG3 hg3
      refine hK.out _ _ ((hg3.block _ (Array.getElem?_eq_some_iff.1 HXd.out).1 (fun e => Nat.lt_irrefl _ (HNE.out _ e.symm))).trans HXd.out) (fun hHeld => ?_)
      clear hK K
      try simp only [Act.put, List.setIfInBounds_toArray, List.set_cons_zero, List.set_cons_succ]
      refine takeH2 10 6 (v := ?_) rfl rfl (by kernel_rfl) (by kernel_rfl) (by kernel_rfl) (fun _ _ _ h => h) (by rfl) (by assumption) ?_ ?_
      rotate_left
      · intro w hSw; go_simp; (first | done | with_reducible rfl | rfl)
      try simp only [Act.put, List.setIfInBounds_toArray, List.set_cons_zero, List.set_cons_succ]
      refine wpAnyH_done (by kernel_rfl) ?_ _
      refine NoPanic.normal ?_
      clear hHeld
      have hb3 : Below w2.heap.size w2 w3 := hbd.grown hg3 hbd.size (fun b hb => HGd.out.mine b hb)
      have HG3 := Lib.hid hG3
      clear hG3 hg3 HXd HGd hs hw
      go_wp2
      go_roundw
      case rel => exact ⟨k + 4, _, by omega, by go_num, by simp; omega, HG3, put_fp HLF.out (by simp), by show _ = _; rw [List.map_append]; exact HE.out, hb3⟩
      case measure => simp [intOf]; omega
    · have e3 : decide ((0 : Int) ≤ place T tz.text) = false := by simpa using hp
      have HH : Hid (hasT T (txAt l (k + 2)) = false) := by show _ = _; rw [HTX'.out]; unfold hasT; exact e3
      have HTR := Lib.hid (spec_l12Truth false W7)
      unfold bit1 at HTR
      simp only [if_true, Bool.false_eq_true, if_false] at HTR
      have HE : Hid (repG T l (k + 4) (L.map (·.d) ++ [numTk false tk.spaced]) = r) := by show _ = _; rw [← HI.out, rep_in hlt HD.out HO.out HO2.out HNM.out, HH.out, HTK.out]
      clear HH hp HI
      go_wp2_with fail
      refine HTR.out.mono ?_
      rintro e w9 ⟨rfl, rfl⟩
      go_upto_region 22 with fail
      have hd0 : Below w9.heap.size w9 w9.drew := belowN (Below.refl _ _) 1
      have HGd := Lib.hid (HG7.out.below hd0)
      have hbd := hb7.trans (hd0.mono hb7.size)
      have HXd := Lib.hid (mbox HX7.out hd0)
      clear hd0
      have hs : ∀ W, Sem.run Try.prog (Instr.slice 9 (.string ⟨#[48, 49]⟩) (some (.int .i64 0)) (some (.int .i64 1)) none) W = .ok (.string ⟨#[48]⟩) W := fun W => by
        first | rfl | kernel_rfl
      have hw : IntKind.i64.wrap 1 = 1 := by decide
      refine wp_region_noPanic ?_
      refine wp_region_held_drew (S := fun w' => w'.heap[wr.heap.size]? = some (.cells #[.int .i64 tk.kind, .string tk.text, .bool tk.spaced, .slice xa tk.hidden.length xc] 33 (0, 0))) (by kernel_rfl) (by exact HX7.out) (fun hHeld => ?_)
      generalize w9.drew = wd at *
      refine takeH2 0 103 (v := ?_) rfl rfl (by kernel_rfl) (by kernel_rfl) (by kernel_rfl) (fun _ _ _ h => h) (by rfl) (by assumption) ?_ ?_
      rotate_left
      · intro w hSw; go_simp; (first | done | with_reducible rfl | rfl)
      try simp only [Act.put, List.setIfInBounds_toArray, List.set_cons_zero, List.set_cons_succ]
      refine takeH2 1 104 (v := ?_) rfl rfl (by kernel_rfl) (by kernel_rfl) (by kernel_rfl) (fun _ _ _ h => h) (by rfl) (by assumption) ?_ ?_
      rotate_left
      · intro w hSw; go_simp; (first | done | with_reducible rfl | rfl)
      try simp only [Act.put, List.setIfInBounds_toArray, List.set_cons_zero, List.set_cons_succ]
      refine takeH2 2 105 (v := ?_) rfl rfl (by kernel_rfl) (by kernel_rfl) (by kernel_rfl) (fun _ _ _ h => h) (by rfl) (by assumption) ?_ ?_
      rotate_left
      · intro w hSw; go_simp; (first | done | with_reducible rfl | rfl)
      try simp only [Act.put, List.setIfInBounds_toArray, List.set_cons_zero, List.set_cons_succ]
      refine takeH2 3 106 (v := ?_) rfl rfl (by kernel_rfl) (by kernel_rfl) (by kernel_rfl) (fun _ _ _ h => h) (by rfl) (by assumption) ?_ ?_
      rotate_left
      · intro w hSw; go_simp; (first | done | with_reducible rfl | rfl)
      try simp only [Act.put, List.setIfInBounds_toArray, List.set_cons_zero, List.set_cons_succ]
      refine takeH2 4 107 (v := ?_) rfl rfl (by kernel_rfl) (by kernel_rfl) (by kernel_rfl) (fun _ _ _ h => h) (by rfl) (by assumption) ?_ ?_
      rotate_left
      · intro w hSw; go_simp; (first | done | with_reducible rfl | rfl)
      try simp only [Act.put, List.setIfInBounds_toArray, List.set_cons_zero, List.set_cons_succ]
      refine takeH2 5 108 (v := ?_) rfl rfl (by kernel_rfl) (by kernel_rfl) (by kernel_rfl) (fun _ _ _ h => h) (by rfl) (by assumption) ?_ ?_
      rotate_left
      · intro w hSw; go_simp; (first | done | with_reducible rfl | rfl)
      try simp only [Act.put, List.setIfInBounds_toArray, List.set_cons_zero, List.set_cons_succ]
      refine takeH2 6 109 (v := ?_) rfl rfl (by kernel_rfl) (by kernel_rfl) (by kernel_rfl) (fun _ _ _ h => h) (by rfl) (by assumption) ?_ ?_
      rotate_left
      · intro w hSw; have t2 := cell_of_row _ _ 2 _ _ _ hSw; go_simp; (first | done | with_reducible rfl | rfl)
      try simp only [Act.put, List.setIfInBounds_toArray, List.set_cons_zero, List.set_cons_succ]
      refine takeH2 7 110 (v := ?_) rfl rfl (by kernel_rfl) (by kernel_rfl) (by kernel_rfl) (fun _ _ _ h => h) (by rfl) (by assumption) ?_ ?_
      rotate_left
      · intro w hSw; go_simp; (first | done | with_reducible rfl | rfl)
      try simp only [Act.put, List.setIfInBounds_toArray, List.set_cons_zero, List.set_cons_succ]
      refine wpAnyH_ready (rs := [8]) (by kernel_rfl) (by simp) ?_
      refine AllReadyH.cons rfl (fun K hK => ?_) AllReadyH.nil
      go_simp
      refine hK.out _ _ (mbox HXd.out (alloc_below' wd _)) (fun hHeld => ?_)
      clear hK K
      try simp only [Act.put, List.setIfInBounds_toArray, List.set_cons_zero, List.set_cons_succ]
      refine wpAnyH_ready (rs := [9]) (by kernel_rfl) (by simp) ?_
      refine AllReadyH.cons rfl (fun K hK => ?_) AllReadyH.nil
      refine step_append_num (w := wd) (L := L) 112 rfl rfl (.tmp 103) (.tmp 111) rfl w2.heap.size (.slice am L.length cm) rfl HGd.out false tk.spaced ⟨#[48]⟩ (HNR.out wd false) rfl (by omega) hbd.size ?_
      intro v3 w3 hG3 hg3
      refine hK.out _ _ ((hg3.block _ (Array.getElem?_eq_some_iff.1 HXd.out).1 (fun e => Nat.lt_irrefl _ (HNE.out _ e.symm))).trans HXd.out) (fun hHeld => ?_)
      clear hK K
      try simp only [Act.put, List.setIfInBounds_toArray, List.set_cons_zero, List.set_cons_succ]
      refine takeH2 10 6 (v := ?_) rfl rfl (by kernel_rfl) (by kernel_rfl) (by kernel_rfl) (fun _ _ _ h => h) (by rfl) (by assumption) ?_ ?_
      rotate_left
      · intro w hSw; go_simp; (first | done | with_reducible rfl | rfl)
      try simp only [Act.put, List.setIfInBounds_toArray, List.set_cons_zero, List.set_cons_succ]
      refine wpAnyH_done (by kernel_rfl) ?_ _
      refine NoPanic.normal ?_
      clear hHeld
      have hb3 : Below w2.heap.size w2 w3 := hbd.grown hg3 hbd.size (fun b hb => HGd.out.mine b hb)
      have HG3 := Lib.hid hG3
      clear hG3 hg3 HXd HGd hs hw
      go_wp2
      go_roundw
      case rel => exact ⟨k + 4, _, by omega, by go_num, by simp; omega, HG3, put_fp HLF.out (by simp), by show _ = _; rw [List.map_append]; exact HE.out, hb3⟩
      case measure => simp [intOf]; omega

end Go.Proofs.Ytipfpppcbmpjiaa

/- Undefine (spec). -/
namespace Go.Proofs.Ytipfpppcbmpjiaa
open Go.RowKit
end Go.Proofs.Ytipfpppcbmpjiaa

/- A macro's copy, and a table's, of the program.  -/
namespace Go.Proofs.Ytipfpppcbmpjiaa
open Go.RowKit
end Go.Proofs.Ytipfpppcbmpjiaa

/- A table's copy, of the program. -/
namespace Go.Proofs.Ytipfpppcbmpjiaa
open Go.RowKit
end Go.Proofs.Ytipfpppcbmpjiaa

/- slices.Delete of one macro, of a row of the call's own. -/
namespace Go.Proofs.Ytipfpppcbmpjiaa
open Go.RowKit
end Go.Proofs.Ytipfpppcbmpjiaa

/- Undefine of the program. -/
namespace Go.Proofs.Ytipfpppcbmpjiaa
open Go.RowKit
/-! ### As the exact law calls them -/
theorem wtMacroS_sm {l : List DMacro} (h : wtMacroS l ≤ 1048576) : l.length ≤ 1048576 ∧ ∀ k, (hk : k < l.length) → MacSm l[k] := by
  refine ⟨by unfold wtMacroS at h; omega, fun k hk => ?_⟩
  have h1 := wsum_at wtMacro l k hk
  unfold wtMacroS at h
  have h2 : wtMacro l[k] = l[k].name.size + (l[k].params.length + (l[k].params.map (·.size)).sum) + wtTokenS l[k].body := rfl
  have h3 : wtTokenS l[k].body ≤ 1048576 := by omega
  have h4 : l[k].body.length ≤ 1048576 := by unfold wtTokenS at h3; omega
  refine ⟨by omega, h4, fun j hj => ?_⟩
  have h5 := wsum_at wtToken l[k].body j hj
  unfold wtTokenS at h3
  have h6 : wtToken l[k].body[j] = l[k].body[j].text.size + (l[k].body[j].hidden.length + (l[k].body[j].hidden.map (·.size)).sum) := rfl
  omega

end Go.Proofs.Ytipfpppcbmpjiaa
