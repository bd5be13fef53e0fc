/- Texts that the proof of U stands on, in one file. -/
import Derived.Test.YtipfpppcbmpjiaaZU10
import Derived.Test.YtipfpppcbmpjiaaZU3
import Derived.Deep.RegionHeld3
import Derived.Test.YtipfpppcbmpjiaaZU4
import Derived.Test.YtipfpppcbmpjiaaZU7
import Derived.Test.YtipfpppcbmpjiaaZU5
set_option linter.unusedVariables false
set_option linter.unusedSimpArgs false
/- A table's copy, as the call's own memory (spec). -/
namespace Go.Proofs.Ytipfpppcbmpjiaa
open Go.RowKit

theorem ti_mac : TI Try.prog 23 70 (.agg #[.string ⟨#[]⟩, .bool false, .slice none 0 0, .slice none 0 0]) 4 72 := ⟨by kernel_rfl, by kernel_rfl⟩
theorem mac_one (w : World) (cs : List Value) (x : DMacro) (fp : List Nat) (h : sMacro.R w cs x fp) : ∀ u ∈ cs, u.oneCell' = true := by
  obtain ⟨h2, h3, p2, p3, rfl, -, K2, K3, -⟩ := h
  obtain ⟨a2, c2, rfl, -⟩ := open_strs K2
  obtain ⟨a3, c3, rfl, -⟩ := open_rows K3
  intro u hu
  simp only [List.mem_cons, List.not_mem_nil, or_false] at hu
  rcases hu with rfl | rfl | rfl | rfl <;> rfl
/-- append of one macro out of its literal's own block. -/
theorem wp_append_macE {w : World} {ops : Array Oper} {rest : List Oper} {o : Oper} {a : Act} {Q : Exit → Act → World → Prop} (hg : o.guard = none) (s y : Operand)
    (ho : o.op = .call { callee := .builtin .append, args := #[s, y], argTypes := #[23, 23] })
    (base : Nat) (v : Value) (L : List (Elem DMacro)) (hs : a.eval s = v) (hown : RowE sMacro base 70 v L w) (nm : ByteArray) (f : Bool) (a2 a3 : Option Addr) (n2 c2 n3 c3 : Nat) (d : DMacro) (fp : List Nat)
    (hy : a.eval y = .slice (some ⟨w.heap.size, 0, none⟩) 1 1) (hR : sMacro.R w [.string nm, .bool f, .slice a2 n2 c2, .slice a3 n3 c3] d fp) (hlo : ∀ b ∈ fp, base ≤ b) (hty : NoMac w fp)
    (h63 : L.length ≤ 1500000) (hbase : base ≤ w.heap.size)
    (h : ∀ v' w', RowE sMacro base 70 v' (L ++ [⟨[.string nm, .bool f, .slice a2 n2 c2, .slice a3 n3 c3], d, fp⟩]) w' → w.grownBy w' v.ownBlock → wpList Try.prog ops Q rest (a.put o.dst v') w') :
    wpList Try.prog ops Q (o :: rest) a (w.alloc (.cells #[.string nm, .bool f, .slice a2 n2 c2, .slice a3 n3 c3] 70)) := by
  have hb := alloc_below' w (.cells #[.string nm, .bool f, .slice a2 n2 c2, .slice a3 n3 c3] 70)
  refine wp_append_rowE (S := sMacro) ti_mac rfl (by decide) _ (X := [⟨[.string nm, .bool f, .slice a2 n2 c2, .slice a3 n3 c3], d, fp⟩]) hg s y ho base v hs (hown.below hb) w.heap.size 1 1 hy rfl ?_ ?_ ?_ ?_ ?_ ?_ (by unfold maxLen; omega) (by omega) (by simp; omega) fun v' w' a b => h v' w' a (grown_trans (World.grownBy_alloc _ _ _) b)
  · intro x hx; obtain rfl := List.mem_singleton.1 hx; rfl
  · intro x hx; obtain rfl := List.mem_singleton.1 hx; simp [Value.oneCell']
  · intro j u hj
    rw [World.cell?_alloc_at _ _ _ _ rfl]
    simpa using hj
  · intro x hx; obtain rfl := List.mem_singleton.1 hx; exact sMacro.below hR hb
  · intro x hx; obtain rfl := List.mem_singleton.1 hx; exact hlo
  · intro x hx b' hb'
    obtain rfl := List.mem_singleton.1 hx
    obtain ⟨cur, t, fr, h1, h2⟩ := hty b' hb'
    exact ⟨cur, t, fr, (hb.block b' (Array.getElem?_eq_some_iff.1 h1).1).trans h1, h2⟩
/-- A macro of no great size. -/
def MacSm (x : DMacro) : Prop := x.params.length ≤ 2000000 ∧ x.body.length ≤ 1048576 ∧ ∀ k, (hk : k < x.body.length) → x.body[k].hidden.length ≤ 2000000
/-- A table's copy. -/
def OwnTab (l : List DMacro) (w : World) (e : Ending) (w' : World) : Prop := ∃ v fp, e = .returned v ∧ (sSlice sMacro).R w' [v] l fp ∧ (∀ b ∈ fp, w.heap.size ≤ b) ∧ Below w.heap.size w w'

set_option maxHeartbeats 4000000 in
set_option maxRecDepth 100000 in
theorem spec_l1OwnMacroList (v : Value) (l : List DMacro) (fp : List Nat) (w : World) (hl : l.length ≤ 1048576) (hx : ∀ k, (hk : k < l.length) → MacSm l[k]) (H : (sSlice sMacro).R w [v] l fp) :
    Calls Try.prog 29 #[v] w (OwnTab l w) := by
  obtain ⟨a, cap, rfl, hc, hm, hrow⟩ := open_rows H
  unfold maxLen at hm
  clear H
  have HX := Lib.hid hx
  clear hx
  have hlit : Hid (RowE sMacro w.heap.size 70 (.slice (some ⟨w.heap.size, 0, none⟩) 0 0) [] (w.alloc (.cells #[] 70))) := RowE.lit [] (by simp) (by simp) (by simp) (by simp) (Nat.le_refl _) (by simp)
  have hba := alloc_below' w (.cells #[] 70)
  go_enter Try.func29, Try.ntmps29
  go_wp2
  go_loopw [3, 4] (fun o i wr => ∃ (k : Nat) (L : List (Elem DMacro)), k ≤ l.length ∧ i = .int .i64 k ∧ Hid (RowE sMacro w.heap.size 70 o L wr) ∧ Hid (L.map (·.d) = l.take k) ∧ Below w.heap.size w wr) (fun _ i _ => l.length - (intOf i).toNat)
  case atStart => exact ⟨0, [], by omega, rfl, hlit, rfl, hba⟩
  case round =>
    clear hlit hba
    obtain ⟨k, L, hk, rfl, HE, HD, hb⟩ := hrel
    by_cases hlt : k < l.length
    · obtain ⟨b1, off1, fps1, rfl, hb1, -, he1⟩ := hrow (by omega)
      obtain ⟨es1, hE1, hR1⟩ := he1 k hlt
      clear hrow he1
      have HC := Lib.hid (spec_l1OwnMacro _ _ _ wr (HX.out k hlt).1 (HX.out k hlt).2.1 (HX.out k hlt).2.2 (sMacro.below hR1 hb))
      obtain ⟨h2, h3, p2, p3, rfl, _, _, _, _⟩ := hR1
      replace hE1 := hE1.frame (hb.block b1 hb1)
      have c10 : wr.cell? ⟨b1, off1 + k * 4, none⟩ = some _ := elem_cell0 hE1 (by decide) rfl
      have c11 : wr.cell? ⟨b1, off1 + k * 4 + 1, none⟩ = some _ := elem_cell (j := 1) hE1 (by decide) rfl
      have c12 : wr.cell? ⟨b1, off1 + k * 4 + 2, none⟩ = some _ := elem_cell (j := 2) hE1 (by decide) rfl
      have c13 : wr.cell? ⟨b1, off1 + k * 4 + 3, none⟩ = some _ := elem_cell (j := 3) hE1 (by decide) rfl
      clear hE1
      have HLl : Hid (L.length = k) := by have := congrArg List.length HD.out; simp at this; show _ = _; omega
      go_wp2_with fail
      refine HC.out.mono ?_
      rintro e w2 ⟨a2, a3, c2, c3, fp2, rfl, hR2, hlo2, hty2, hb2⟩
      obtain ⟨ar, capr, rfl, -⟩ := HE.out.val
      have hE2 := HE.out.below hb2
      have hbw := hb.trans (hb2.mono hb.size)
      have hlo3 : ∀ b ∈ fp2, w.heap.size ≤ b := fun b hx => Nat.le_trans hb.size (hlo2 b hx)
      clear c10 c11 c12 c13 HC HE
      go_wp2_with (at_builtin; refine wp_append_macE rfl (.tmp 12) (.tmp 18) rfl w.heap.size (.slice ar L.length capr) L rfl hE2 l[k].name l[k].function a2 a3 l[k].params.length c2 l[k].body.length c3 l[k] fp2 rfl hR2 hlo3 hty2 (by have := HLl.out; omega) hbw.size ?_; intro v3 w3 hE3 hg3)
      have hb3 : Below w.heap.size w w3 := hbw.grown hg3 hbw.size (fun b hb => (hE2.row.lt b hb).1)
      have HE3 := Lib.hid hE3
      have HD3 : Hid ((L ++ [(⟨[.string l[k].name, .bool l[k].function, .slice a2 l[k].params.length c2, .slice a3 l[k].body.length c3], l[k], fp2⟩ : Elem DMacro)]).map (·.d) = l.take (k + 1)) := by
        show _ = _
        rw [List.map_append, HD.out, List.take_succ_eq_append_getElem hlt]; rfl
      clear hE2 hE3 hg3 hR2 hty2 hlo2 hlo3 hb2
      go_roundw
      case rel => exact ⟨k + 1, _, by omega, by go_num, HE3, HD3, hb3⟩
      case measure => simp [intOf]; omega
    · obtain ⟨fpr, hr, hlo⟩ := HE.out.read
      have hd := HD.out
      rw [List.take_of_length_le (by omega)] at hd
      rw [hd] at hr
      have HR := Lib.hid hr
      have HLO := Lib.hid hlo
      clear hr hd HE HD hlo
      go_wp2
      go_ret
      exact ⟨_, fpr, rfl, HR.out, HLO.out, hb⟩

end Go.Proofs.Ytipfpppcbmpjiaa

/- Four cells stored into one block; an operation of a drawn region taken first; two structs as results. Over any program. -/
namespace Go.Proofs.Ytipfpppcbmpjiaa
open Go.RowKit

def set4 (w : World) (g : Nat) (v0 v1 v2 v3 : Value) : World := (((w.setCell ⟨g, 0, none⟩ v0).setCell ⟨g, 1, none⟩ v1).setCell ⟨g, 2, none⟩ v2).setCell ⟨g, 3, none⟩ v3
section
variable {P : Program} {ops : Array Oper} {Q : Exit → Act → World → Prop} {md : Region.Mode} {S : World → Prop}
/-- An operation of a drawn region is taken first; its slot is written out. -/
theorem takeH2 (i d : Nat) {oi : Oper} {v : Value} {fuel : Nat} {listed : Array Bool} {a : Act} {w : World} (hi : ops[i]? = some oi) (hd : oi.dst = some d)
    (hs : Region.noSelect ops = true) (hf : Region.free md ops listed i = true) (hr : (Region.ready md ops listed).contains i = true)
    (hQ : ∀ c a w, Q (.panic c) (a.put (some d) v) w → Q (.panic c) a w) (hw : Region.wanted oi (yielded ops a.tmps) = true) (hS : S w)
    (hy : ∀ w, S w → (execOp a.eval oi).run P w = .ok (.value v) w)
    (h : wpAnyH P md ops Q S fuel (listed.setIfInBounds i true) (a.put (some d) v) w) : wpAnyH P md ops Q S (fuel + 1) listed a w :=
  wpAnyH_take hi hs hf hr (by rw [hd]; exact hQ) (.inl ⟨hw, hy⟩) hS (by rw [hd]; exact h)
end
theorem set4_at {w : World} {g : Nat} {z0 z1 z2 z3 : Value} {ty : TypeId} (h : w.heap[g]? = some (.cells #[z0, z1, z2, z3] ty (0, 0))) (v0 v1 v2 v3 : Value) :
    (set4 w g v0 v1 v2 v3).heap[g]? = some (.cells #[v0, v1, v2, v3] ty (0, 0)) := blk_set (blk_set (blk_set (blk_set h 0 _) 1 _) 2 _) 3 _
theorem set4_below {B : Nat} {w0 w : World} (hB : Below B w0 w) {g : Nat} (hg : B ≤ g) (v0 v1 v2 v3 : Value) : Below B w0 (set4 w g v0 v1 v2 v3) :=
  ((((hB).setCell (p := ⟨g, 0, none⟩) hg v0).setCell (p := ⟨g, 1, none⟩) hg v1).setCell (p := ⟨g, 2, none⟩) hg v2).setCell (p := ⟨g, 3, none⟩) hg v3
section
variable {α : Type} {S : Shape α} {w w7 : World} {g2 g3 : Nat} {T : TypeId} {z0 z1 z2 z3 y0 y1 y2 y3 : Value} {cs cs' : List Value} {d d' : α} {fp fp' : List Nat}
end

end Go.Proofs.Ytipfpppcbmpjiaa

/- Texts of tokens: no program. -/
namespace Go.Proofs.Ytipfpppcbmpjiaa
open Go.RowKit
/-- What a text stands for, from the place k on. -/
def outTo (s : ByteArray) (k : Nat) : ByteArray :=
  if h : k + 1 < s.size then (if s[k].toNat = 92 then s.extract (k + 1) (k + 2) ++ outTo s (k + 2) else s.extract k (k + 1) ++ outTo s (k + 1)) else ⟨#[]⟩
termination_by s.size - k
theorem outTo_else {s : ByteArray} {k : Nat} (h : k + 1 < s.size) (hc : ¬ s[k].toNat = 92) : outTo s k = s.extract k (k + 1) ++ outTo s (k + 1) := by rw [outTo, dif_pos h, if_neg hc]
theorem outTo_end {s : ByteArray} {k : Nat} (h : s.size ≤ k + 1) : outTo s k = ⟨#[]⟩ := by rw [outTo, dif_neg (by omega)]
end Go.Proofs.Ytipfpppcbmpjiaa

/- Pasting tokens, hiding names: no program. -/
namespace Go.Proofs.Ytipfpppcbmpjiaa
open Go.RowKit

/-! ### Lists of names -/
def Up (l : List ByteArray) : Prop := l.Pairwise fun a b => sLess a b = true
theorem hid_at {l : List ByteArray} (h : hidOk l = true) : l.length ≤ 60 ∧ ∀ i, i < l.length → hidOkAt l i = true := by
  unfold hidOk at h
  rw [Bool.and_eq_true, decide_eq_true_eq, List.all_eq_true] at h
  exact ⟨h.1, fun i hi => h.2 i (by simpa using hi)⟩
theorem hid_step {l : List ByteArray} (h : hidOk l = true) {i : Nat} (hi : i + 1 < l.length) : sLess (l[i]'(by omega)) l[i + 1] = true := by
  have := (hid_at h).2 (i + 1) hi
  unfold hidOkAt at this
  rw [dif_pos hi, Bool.and_eq_true, Bool.or_eq_true, decide_eq_true_eq] at this
  rcases this.2 with h0 | h0
  · omega
  · exact h0
theorem hid_asc {l : List ByteArray} (h : hidOk l = true) : ∀ d i : Nat, (hj : i + d + 1 < l.length) → sLess (l[i]'(by omega)) (l[i + d + 1]'hj) = true
  | 0, i, hj => hid_step h hj
  | d + 1, i, hj => sLess_trans (hid_asc h d i (by omega)) (hid_step h hj)
theorem hid_parts {l : List ByteArray} (h : hidOk l = true) : l.length ≤ 60 ∧ (∀ x ∈ l, oneTok x 1 = true) ∧ Up l := by
  refine ⟨(hid_at h).1, fun x hx => ?_, ?_⟩
  · obtain ⟨i, hi, rfl⟩ := List.getElem_of_mem hx
    have := (hid_at h).2 i hi
    unfold hidOkAt at this
    rw [dif_pos hi, Bool.and_eq_true] at this
    exact this.1
  · unfold Up
    rw [List.pairwise_iff_getElem]
    intro i j hi hj hij
    have := hid_asc h (j - i - 1) i (by omega)
    have e : i + (j - i - 1) + 1 = j := by omega
    simpa only [e] using this
/-! ### Pasting -/
/-! ### Hiding -/
end Go.Proofs.Ytipfpppcbmpjiaa

/- Arguments put into bodies: no program. -/
namespace Go.Proofs.Ytipfpppcbmpjiaa
open Go.RowKit
section
variable {m : DMacro} {raw ready : List (List Tok)} {k : Nat}
end
section
variable {m : DMacro} {raw ready : List (List Tok)} {k : Nat} {out part : List Tok} {emp paste : Bool} {nx : Nat} {ok : Bool}
end
end Go.Proofs.Ytipfpppcbmpjiaa

/- An element put into a row: what the cells are. Over any program. -/
namespace Go.Proofs.Ytipfpppcbmpjiaa
open Go.RowKit
end Go.Proofs.Ytipfpppcbmpjiaa

/- Rows of the call's own whose elements lie anywhere but in the row's own block: appended, written, read. Over any program. -/
namespace Go.Proofs.Ytipfpppcbmpjiaa
open Go.RowKit

/-- append to an own row, and where the row is then: in its own block, or in a new one. -/
theorem run_append_place {P : Program} (w : World) (base : Nat) (t ty e : TypeId) (i : TypeInfo) (z : Value) (size bytes : Nat) (ht : P.underlying t = some (.slice e)) (hi : P.info? e = some i) (hz : i.zero = some z)
    (hsize : i.size = size) (hby : i.bytes = bytes) (hzs : z.cells.size = size) (hsz : 0 < size)
    (v : Value) (n : Nat) (xs : List Value) (hown : w.ownsRow base e size v n xs)
    (a : Addr) (m c : Nat) (news : List Value) (hl : news.length = m * size) (hnews : ∀ j u, news[j]? = some u → w.cell? (a.add j) = some u) (h1 : ∀ u ∈ news, u.oneCell' = true)
    (h63 : n + m ≤ maxLen) (hbytes : (n + m) * bytes ≤ 140737488355328) (hbase : base ≤ w.heap.size) :
    ∃ v' w', (Builtin.append_ #[t, t] ty #[v, .slice (some a) m c]).run P w = .ok v' w' ∧ w'.ownsRow base e size v' (n + m) (xs ++ news) ∧ w.grownBy w' v.ownBlock ∧ (v'.ownBlock = v.ownBlock ∨ v'.ownBlock = some w.heap.size) := by
  obtain ⟨v', w', hr, h2, h3, h4⟩ := Go.run_append_own (P := P) w base t ty e i z size bytes ht hi hz hsize hby hzs hsz v n xs hown a m c news hl hnews h1 h63 hbytes hbase
  refine ⟨v', w', hr, h2, h3, ?_⟩
  have hsmall : n + m ≤ 9223372036854775807 := by simp only [maxLen] at h63; omega
  subst hsize
  subst hby
  rcases hown.2 with ⟨rfl, rfl⟩ | ⟨g, cap, cur, rfl, hbg, hg, hnc, hcm, hcs, htake⟩
  · have hx : xs = [] := List.eq_nil_of_length_eq_zero (by simpa using hown.1)
    subst hx
    by_cases hm : m = 0
    · exact .inl (by rw [h4.2 ⟨rfl, hm⟩])
    · have hr2 := _root_.Go.run_append_nil (P := P) w t ty e i z ht hi hz a m c news hl hnews (by omega) (by omega) (by have hb := hbytes; simp only [Nat.zero_add] at hb; omega)
      rw [hr2] at hr
      obtain ⟨rfl, _⟩ := Result.ok.inj hr
      exact .inr rfl
  · by_cases hroom : n + m ≤ cap
    · have hfit : n * i.size + news.length ≤ cur.size := by rw [hl, hcs, ← Nat.add_mul]; exact Nat.mul_le_mul_right _ hroom
      have hr2 := Go.run_append_room (P := P) w t ty e i ht hi g n cap cur hg a m c news hl hnews h1 hroom hfit
      rw [hr2] at hr
      obtain ⟨rfl, _⟩ := Result.ok.inj hr
      exact .inl rfl
    · have holds : ∀ j u, xs[j]? = some u → w.cell? ((⟨g, 0, none⟩ : Addr).add j) = some u := hown.cells (g := g) rfl
      have hr2 := _root_.Go.run_append_grow (P := P) w t ty e i z ht hi hz ⟨g, 0, none⟩ n cap xs hown.1 holds a m c news hl hnews (by omega) (by omega) (growslice_fits (by omega) hbytes)
      rw [hr2] at hr
      obtain ⟨rfl, _⟩ := Result.ok.inj hr
      exact .inr rfl

structure RowN {α : Type} (S : Shape α) (base : Nat) (e : TypeId) (v : Value) (L : List (Elem α)) (w : World) : Prop where
  row : w.ownsRow base e S.m v L.length (L.flatMap (·.cells))
  len : ∀ x ∈ L, x.cells.length = S.m
  el : ∀ x ∈ L, S.R w x.cells x.d x.fp
  ap : ∀ x ∈ L, ∀ b ∈ x.fp, v.ownBlock ≠ some b

section
variable {α : Type} {S : Shape α} {base : Nat} {e : TypeId} {v v' : Value} {L : List (Elem α)} {w w' : World}
theorem RowN.nil (S : Shape α) (base : Nat) (e : TypeId) (w : World) : RowN S base e (.slice none 0 0) [] w := ⟨World.ownsRow_nil _ _ _ _, by simp, by simp, by simp⟩
theorem RowN.same (h : RowN S base e v L w) (hv : ∀ g, v.ownBlock = some g → w'.heap[g]? = w.heap[g]?) (hb : ∀ x ∈ L, ∀ b ∈ x.fp, w'.heap[b]? = w.heap[b]?) : RowN S base e v L w' where
  row := ownsRow_same h.row hv
  len := h.len
  el := fun x hx => S.frame (fun b hb' => hb x hx b hb') (h.el x hx)
  ap := h.ap
theorem RowN.below (h : RowN S base e v L w) (hb : Below w.heap.size w w') : RowN S base e v L w' :=
  h.same (fun g hg => hb.block g (h.row.lt g hg).2) (fun x hx b hb' => hb.block b (S.lt (h.el x hx) b hb'))
theorem RowN.kept {K : List Nat} (h : RowN S base e v L w) (hk : Kept K w w') (hv : ∀ g, v.ownBlock = some g → g ∉ K) (hb : ∀ x ∈ L, ∀ b ∈ x.fp, b ∉ K) : RowN S base e v L w' :=
  h.same (fun g hg => hk.block g (h.row.lt g hg).2 (hv g hg)) (fun x hx b hb' => hk.block b (S.lt (h.el x hx) b hb') (hb x hx b hb'))
theorem RowN.val (h : RowN S base e v L w) : ∃ a cap, v = .slice a L.length cap ∧ L.length ≤ cap ∧ cap ≤ maxLen ∧ (0 < L.length → ∃ g, a = some ⟨g, 0, none⟩ ∧ base ≤ g ∧ g < w.heap.size) := by
  rcases h.row.2 with ⟨rfl, h0⟩ | ⟨g, cap, cur, rfl, hb, hg, hn, hc, _⟩
  · exact ⟨none, 0, by rw [h0], by omega, by simp, fun h => by omega⟩
  · exact ⟨_, cap, rfl, hn, hc, fun _ => ⟨g, rfl, hb, (Array.getElem?_eq_some_iff.1 hg).1⟩⟩
theorem RowN.mine (h : RowN S base e v L w) : ∀ b, v.ownBlock = some b → base ≤ b ∧ b < w.heap.size := fun b hb => h.row.lt b hb
theorem RowN.read (h : RowN S base e v L w) : ∃ fp, (sSlice S).R w [v] (L.map (·.d)) fp ∧ (∀ b ∈ fp, v.ownBlock = some b ∨ ∃ x ∈ L, b ∈ x.fp) ∧ (Own w base (L.flatMap (·.fp)) → Own w base fp) := by
  obtain ⟨fp, h1, h2, h3⟩ := slice_of_row h.row fun x hx => ⟨h.len x hx, h.el x hx⟩
  refine ⟨fp, h1, fun b hb => ?_, fun ho => h3 ho fun g hg hm => ?_⟩
  · rcases h2 b hb with h | h
    · exact .inl h
    · obtain ⟨x, hx, hb'⟩ := List.mem_flatMap.1 h
      exact .inr ⟨x, hx, hb'⟩
  · obtain ⟨x, hx, hb'⟩ := List.mem_flatMap.1 hm
    exact h.ap x hx g hb' hg
theorem RowN.len_eq {g n cap : Nat} (h : RowN S base e (.slice (some ⟨g, 0, none⟩) n cap) L w) : L.length = n := by
  rcases h.row.2 with ⟨h', _⟩ | ⟨g', cap', cur, h', _⟩
  · cases h'
  · simp only [Value.slice.injEq] at h'; exact h'.2.1.symm
/-- One cell of an element is written: the element reads as something else then. -/
theorem RowN.set {g n cap : Nat} (h : RowN S base e (.slice (some ⟨g, 0, none⟩) n cap) L w) {k : Nat} (hk : k < L.length) {j : Nat} (hj : j < S.m) (u : Value) (x' : Elem α) (hx : x'.cells = L[k].cells.set j u)
    (hR : S.R w x'.cells x'.d x'.fp) (hap : g ∉ x'.fp) : RowN S base e (.slice (some ⟨g, 0, none⟩) n cap) (L.set k x') (w.setCell ⟨g, k * S.m + j, none⟩ u) := by
  have hn : L.length = n := h.len_eq
  have hfar : ∀ b, b ≠ g → (w.setCell ⟨g, k * S.m + j, none⟩ u).heap[b]? = w.heap[b]? := fun b hb => Below.heap_setCell _ _ _ _ hb
  have hmem : ∀ x ∈ L.set k x', x = x' ∨ x ∈ L := fun x hx => by
    rcases List.mem_or_eq_of_mem_set hx with h | h
    · exact .inr h
    · exact .inl h
  have hne : ∀ x ∈ L.set k x', ∀ b ∈ x.fp, b ≠ g := fun x hx' b hb e => by
    subst e
    rcases hmem x hx' with rfl | hx'
    · exact hap hb
    · exact h.ap x hx' b hb rfl
  refine ⟨?_, fun x hx' => ?_, fun x hx' => S.frame (fun b hb => hfar b (hne x hx' b hb)) ?_, fun x hx' b hb hv => ?_⟩
  · have hrow := h.row
    rw [hn] at hrow
    have := (hrow.stored (k * S.m + j) u).1
    rw [flatMap_set h.len hk hj u x' hx] at this
    rw [List.length_set, hn]
    exact this
  · rcases hmem x hx' with rfl | hx'
    · rw [hx, List.length_set]; exact h.len _ (List.getElem_mem hk)
    · exact h.len x hx'
  · rcases hmem x hx' with rfl | hx'
    · exact hR
    · exact h.el x hx'
  · simp only [Value.ownBlock, Option.some.injEq] at hv
    exact hne x hx' b hb hv.symm
/-- Elements appended. -/
theorem RowN.appended (h : RowN S base e v L w) {X : List (Elem α)} (hrow : w'.ownsRow base e S.m v' (L ++ X).length ((L ++ X).flatMap (·.cells))) (hg : w.grownBy w' v.ownBlock) (hp : v'.ownBlock = v.ownBlock ∨ v'.ownBlock = some w.heap.size)
    (hX : ∀ x ∈ X, x.cells.length = S.m ∧ S.R w x.cells x.d x.fp ∧ ∀ b ∈ x.fp, v.ownBlock ≠ some b) : RowN S base e v' (L ++ X) w' := by
  have hall : ∀ x ∈ L ++ X, x.cells.length = S.m ∧ S.R w x.cells x.d x.fp ∧ ∀ b ∈ x.fp, v.ownBlock ≠ some b := fun x hx => by
    rcases List.mem_append.1 hx with hx | hx
    · exact ⟨h.len x hx, h.el x hx, h.ap x hx⟩
    · exact hX x hx
  refine ⟨hrow, fun x hx => (hall x hx).1, fun x hx => ?_, fun x hx b hb => ?_⟩
  · exact S.frame (fun b hb => hg.block b (S.lt (hall x hx).2.1 b hb) fun hv => (hall x hx).2.2 b hb hv.symm) (hall x hx).2.1
  · rcases hp with hp | hp
    · rw [hp]; exact (hall x hx).2.2 b hb
    · rw [hp]
      intro h2
      simp only [Option.some.injEq] at h2
      have := S.lt (hall x hx).2.1 b hb
      omega
end

/-- append of elements that stand somewhere; at one operation. -/
theorem step_append_rowN {α : Type} {S : Shape α} {P : Program} {t e : TypeId} {z : Value} {bytes : Nat} (ti : TI P t e z S.m bytes) (hzs : z.cells.size = S.m) (h0 : 0 < S.m) (w : World) {L X : List (Elem α)} {o : Oper} {a : Act} {K : Act → World → Prop} {Q : Exit → Act → World → Prop}
    (s y : Operand) (ho : o.op = .call { callee := .builtin .append, args := #[s, y], argTypes := #[t, t] })
    (base : Nat) (v : Value) (hs : a.eval s = v) (hown : RowN S base e v L w) (ad : Addr) (m c : Nat) (hy : a.eval y = .slice (some ad) m c) (hm : X.length = m)
    (hX : ∀ x ∈ X, x.cells.length = S.m ∧ S.R w x.cells x.d x.fp ∧ ∀ b ∈ x.fp, v.ownBlock ≠ some b) (h1 : ∀ x ∈ X, ∀ u ∈ x.cells, u.oneCell' = true) (hcell : ∀ j u, (X.flatMap (·.cells))[j]? = some u → w.cell? (ad.add j) = some u)
    (h63 : L.length + m ≤ maxLen) (hbytes : (L.length + m) * bytes ≤ 140737488355328) (hbase : base ≤ w.heap.size)
    (h : ∀ v' w', RowN S base e v' (L ++ X) w' → w.grownBy w' v.ownBlock → (v'.ownBlock = v.ownBlock ∨ v'.ownBlock = some w.heap.size) → K (a.put o.dst v') w') : o.wp P a w K Q := by
  obtain ⟨i, hi, hz0, hz1, hz2⟩ := info_parts ti.2
  subst hm
  obtain ⟨v', w', hr, r1, r2, r3⟩ := run_append_place (P := P) w base t o.type e i z S.m bytes ti.1 hi hz0 hz1 hz2 hzs h0 v L.length _ hown.row ad X.length c (X.flatMap (·.cells)) (flatMap_len (f := Elem.cells) fun x hx => (hX x hx).1) hcell
    (fun u hu => by obtain ⟨x, hx, hu⟩ := List.mem_flatMap.1 hu; exact h1 x hx u hu) h63 hbytes hbase
  unfold Oper.wp execOp
  simp only [ho, resolve, invoke, builtin, Sem.run_bind, Sem.run_pure, Result.andThen_ok, List.map_toArray, List.map_cons, List.map_nil, hs, hy, hr]
  refine h v' w' (hown.appended ?_ r2 r3 hX) r2 r3
  rw [List.length_append, List.flatMap_append]
  exact r1
theorem wp_append_rowN {α : Type} {S : Shape α} {P : Program} {t e : TypeId} {z : Value} {bytes : Nat} (ti : TI P t e z S.m bytes) (hzs : z.cells.size = S.m) (h0 : 0 < S.m) (w : World) {L X : List (Elem α)} {ops : Array Oper} {rest : List Oper} {o : Oper} {a : Act} {Q : Exit → Act → World → Prop}
    (hg : o.guard = none) (s y : Operand) (ho : o.op = .call { callee := .builtin .append, args := #[s, y], argTypes := #[t, t] })
    (base : Nat) (v : Value) (hs : a.eval s = v) (hown : RowN S base e v L w) (ad : Addr) (m c : Nat) (hy : a.eval y = .slice (some ad) m c) (hm : X.length = m)
    (hX : ∀ x ∈ X, x.cells.length = S.m ∧ S.R w x.cells x.d x.fp ∧ ∀ b ∈ x.fp, v.ownBlock ≠ some b) (h1 : ∀ x ∈ X, ∀ u ∈ x.cells, u.oneCell' = true) (hcell : ∀ j u, (X.flatMap (·.cells))[j]? = some u → w.cell? (ad.add j) = some u)
    (h63 : L.length + m ≤ maxLen) (hbytes : (L.length + m) * bytes ≤ 140737488355328) (hbase : base ≤ w.heap.size)
    (h : ∀ v' w', RowN S base e v' (L ++ X) w' → w.grownBy w' v.ownBlock → (v'.ownBlock = v.ownBlock ∨ v'.ownBlock = some w.heap.size) → wpList P ops Q rest (a.put o.dst v') w') : wpList P ops Q (o :: rest) a w :=
  wpList_plain hg fun _ hK => step_append_rowN ti hzs h0 w s y ho base v hs hown ad m c hy hm hX h1 hcell h63 hbytes hbase fun v' w' h2 h3 h4 => hK _ _ (h v' w' h2 h3 h4)
end Go.Proofs.Ytipfpppcbmpjiaa

/- TokenBytes of the model. -/
namespace Go.Proofs.Ytipfpppcbmpjiaa
open Go.RowKit
/-- Where the walk over a text is. -/
def OutAt (s : ByteArray) (k : Nat) (out : ByteArray) : Prop := out ++ outTo s k = outTo s 1 ∧ tClose s k = some s.size ∧ 1 ≤ k ∧ out.size ≤ k
theorem OutAt.byte {s : ByteArray} {k : Nat} {out : ByteArray} (h : OutAt s k out) (hk : k + 1 < s.size) (hc : ¬ s[k].toNat = 92) : OutAt s (k + 1) (out ++ s.extract k (k + 1)) := by
  obtain ⟨h1, h2, h3, h4⟩ := h
  by_cases hq : s[k].toNat = 34
  · rw [tClose_quote (by omega) hq, Option.some.injEq] at h2; omega
  rw [tClose_else (by omega) hq hc] at h2
  refine ⟨?_, h2, by omega, by rw [ByteArray.size_append, ByteArray.size_extract]; omega⟩
  rw [← h1, outTo_else hk hc, ByteArray.append_assoc]
theorem OutAt.done {s : ByteArray} {k : Nat} {out : ByteArray} (h : OutAt s k out) (hk : s.size ≤ k + 1) : out = outTo s 1 := by
  rw [← h.1, outTo_end hk]; exact ByteArray.append_empty.symm

end Go.Proofs.Ytipfpppcbmpjiaa
