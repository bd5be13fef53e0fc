/- Shorter words for steps of walks. -/
import Derived.Deep.RegionHeld3
import Derived.Laws.Rows
import Derived.Lib.Hide
import Derived.Below
import Derived.WalkKit
namespace Go.Proofs.YtipfpppcbmpjiaaGreat
open Go.RowKit
section
variable {P : Program} {ops : Array Oper} {Q : Exit → Act → World → Prop} {md : Region.Mode} {S : World → Prop}
theorem Qt (i d : Nat) {oi : Oper} {v : Value} {fuel : Nat} {listed : Array Bool} {a : Act} {w : World} (hi : ops[i]? = some oi) (hd : oi.dst = some d)
  (h : wpAnyH P md ops Q S fuel (listed.setIfInBounds i true) (a.put (some d) v) w)
  (hy : ∀ w, S w → (execOp a.eval oi).run P w = .ok (.value v) w := by intro w hSw; (try dsimp only at hSw); go_simp; (first | done | with_reducible rfl | rfl))
  (hs : Region.noSelect ops = true := by kernel_rfl) (hf : Region.free md ops listed i = true := by kernel_rfl) (hr : (Region.ready md ops listed).contains i = true := by kernel_rfl)
  (hQ : ∀ c a w, Q (.panic c) (a.put (some d) v) w → Q (.panic c) a w := by exact fun _ _ _ h => h) (hw : Region.wanted oi (yielded ops a.tmps) = true := by rfl) (hS : S w := by assumption) : wpAnyH P md ops Q S (fuel + 1) listed a w :=
 wpAnyH_take hi hs hf hr (by rw [hd]; exact hQ) (.inl ⟨hw, hy⟩) hS (by rw [hd]; exact h)
theorem Qs (i d : Nat) {oi : Oper} {fuel : Nat} {listed : Array Bool} {a : Act} {w : World} (hi : ops[i]? = some oi) (hd : oi.dst = some d)
  (h : wpAnyH P md ops Q S fuel (listed.setIfInBounds i true) (a.put (some d) undef) w)
  (hs : Region.noSelect ops = true := by kernel_rfl) (hf : Region.free md ops listed i = true := by kernel_rfl) (hr : (Region.ready md ops listed).contains i = true := by kernel_rfl)
  (hQ : ∀ c a w, Q (.panic c) (a.put (some d) undef) w → Q (.panic c) a w := by exact fun _ _ _ h => h) (hw : Region.wanted oi (yielded ops a.tmps) = false := by rfl) (hS : S w := by assumption) : wpAnyH P md ops Q S (fuel + 1) listed a w :=
 wpAnyH_take hi hs hf hr (by rw [hd]; exact hQ) (.inr ⟨hw, rfl⟩) hS (by rw [hd]; exact h)
theorem Qr (i : Nat) {o : Oper} {fuel : Nat} {listed : Array Bool} {a : Act} {w : World} (ho : ops[i]? = some o)
  (h : ∀ K' : Act → World → Prop, Shut (∀ a w, S w → (S w → wpAnyH P md ops Q S fuel (listed.setIfInBounds i true) a w) → K' a w) → if Region.wanted o (yielded ops a.tmps) = true then Oper.wp P o a w K' Q else K' (a.put o.dst undef) w)
  (hr : Region.ready md ops listed = [i] := by kernel_rfl) : wpAnyH P md ops Q S (fuel + 1) listed a w :=
 wpAnyH_ready hr (by simp) (AllReadyH.cons ho h AllReadyH.nil)
end
theorem Qp : (∀ (a : Act) (d : Nat) (v : Value), a.put (some d) v = { a with tmps := a.tmps.setIfInBounds d v }) ∧ (∀ (a : Act) (v : Value), a.put none v = a) ∧ (∀ (l : List Value) (i : Nat) (v : Value), l.toArray.setIfInBounds i v = (l.set i v).toArray) ∧ (∀ (a : Value) (l : List Value) (v : Value), (a :: l).set 0 v = v :: l) ∧ (∀ (a : Value) (l : List Value) (n : Nat) (v : Value), (a :: l).set (n + 1) v = a :: l.set n v) :=
 ⟨fun _ _ _ => rfl, fun _ _ => rfl, fun _ _ _ => List.setIfInBounds_toArray .., fun _ _ _ => rfl, fun _ _ _ _ => rfl⟩
theorem Qc {w : World} {g : Nat} {cs : Array Value} {t : TypeId} {fr : Nat × Nat} (j : Nat) (h : w.heap[g]? = some (.cells cs t fr)) : w.cell? ⟨g, j, none⟩ = cs[j]? := cell_of_row w g j cs t fr h
theorem Qf {w : World} {g : Nat} {cs : Array Value} {t : TypeId} (j : Nat) (h : w.heap[g]? = some (.cells cs t (0, 0))) : w.frozen? ⟨g, j, none⟩ = false := frozen_of_row w g j cs t h
theorem Q4 {w : World} {g : Nat} {a b c d : Value} {t : TypeId} {fr : Nat × Nat} (h : w.heap[g]? = some (.cells #[a, b, c, d] t fr)) : w.cell? ⟨g, 0, none⟩ = some a ∧ w.cell? ⟨g, 1, none⟩ = some b ∧ w.cell? ⟨g, 2, none⟩ = some c ∧ w.cell? ⟨g, 3, none⟩ = some d := ⟨Qc 0 h, Qc 1 h, Qc 2 h, Qc 3 h⟩
theorem Q8 {w : World} {g : Nat} {a b c d : Value} {t : TypeId} (h : w.heap[g]? = some (.cells #[a, b, c, d] t (0, 0))) : w.cell? ⟨g, 0, none⟩ = some a ∧ w.frozen? ⟨g, 0, none⟩ = false ∧ w.cell? ⟨g, 1, none⟩ = some b ∧ w.frozen? ⟨g, 1, none⟩ = false ∧ w.cell? ⟨g, 2, none⟩ = some c ∧ w.frozen? ⟨g, 2, none⟩ = false ∧ w.cell? ⟨g, 3, none⟩ = some d ∧ w.frozen? ⟨g, 3, none⟩ = false := ⟨Qc 0 h, Qf 0 h, Qc 1 h, Qf 1 h, Qc 2 h, Qf 2 h, Qc 3 h, Qf 3 h⟩
theorem Qg {α : Type} {xs : Array α} {i : Nat} {b : α} (h : xs[i]? = some b) : ∃ h : i < xs.size, xs[i] = b := Array.getElem?_eq_some_iff.1 h
theorem Qm {α : Type} {a b : α} (h : a ∈ [b]) : a = b := List.mem_singleton.1 h
theorem Qa {α : Type} {a : α} {s t : List α} (h : a ∈ s ++ t) : a ∈ s ∨ a ∈ t := List.mem_append.1 h
theorem Qi {α : Type} {a b : α} : (some a = some b) = (a = b) := Option.some.injEq a b
theorem Qh {p : Prop} (h : p) : Hid p := h
theorem QA : type_of% @Nat.le_refl := @Nat.le_refl
theorem QB : type_of% @ByteArray.toList_eq := @ByteArray.toList_eq
theorem QC : type_of% @List.length_append := @List.length_append
theorem QD : type_of% @Below.refl := @Below.refl
theorem QE : type_of% @List.getElem_mem := @List.getElem_mem
theorem QF : type_of% @IntWalk.i64_in := @IntWalk.i64_in
theorem QG : type_of% @List.map_append := @List.map_append
theorem QH : type_of% @List.length_map := @List.length_map
theorem QI : type_of% @Bool.and_eq_true := @Bool.and_eq_true
theorem QJ : type_of% @List.getElem?_eq_getElem := @List.getElem?_eq_getElem
theorem QK : type_of% @ByteArray.size_append := @ByteArray.size_append
theorem QL : type_of% @List.map_cons := @List.map_cons
theorem QM : type_of% @List.length_drop := @List.length_drop
theorem QN : type_of% @List.map_nil := @List.map_nil
theorem QO : type_of% @List.mem_flatMap := @List.mem_flatMap
theorem QP : type_of% @NoPanic.normal := @NoPanic.normal
theorem QQ : type_of% @List.length_cons := @List.length_cons
theorem QR : type_of% @Array.size_push := @Array.size_push
theorem QS : type_of% @Prod.mk.injEq := @Prod.mk.injEq
theorem QT : type_of% @Value.slice.injEq := @Value.slice.injEq
theorem QU : type_of% @List.length_eq_zero_iff := @List.length_eq_zero_iff
theorem QV : type_of% @Below.heap_setCell := @Below.heap_setCell
theorem QW : type_of% @Nat.lt_of_lt_of_le := @Nat.lt_of_lt_of_le
theorem QX : type_of% @Nat.zero_add := @Nat.zero_add
theorem QY : type_of% @List.getElem_of_mem := @List.getElem_of_mem
theorem QZ : type_of% @Nat.le_trans := @Nat.le_trans
theorem Qb : type_of% @List.take_succ_eq_append_getElem := @List.take_succ_eq_append_getElem
theorem Qd : type_of% @List.length_take := @List.length_take
theorem Qe : type_of% @List.take_of_length_le := @List.take_of_length_le
theorem Qj : type_of% @List.drop_eq_getElem_cons := @List.drop_eq_getElem_cons
theorem Qk : type_of% @List.all_eq_true := @List.all_eq_true
theorem Ql : type_of% @ByteArray.size_extract := @ByteArray.size_extract
theorem Qn : type_of% @List.append_assoc := @List.append_assoc
theorem Qo : type_of% @List.flatMap_append := @List.flatMap_append
theorem Qq : type_of% @List.getElem?_eq_some_iff := @List.getElem?_eq_some_iff
theorem Qu : type_of% @World.cell?_of_block := @World.cell?_of_block
theorem Qv : type_of% @List.getD_eq_getElem?_getD := @List.getD_eq_getElem?_getD
theorem Qw : type_of% @List.flatMap_cons := @List.flatMap_cons
theorem Qx : type_of% @ByteArray.getElem_eq_getElem_data := @ByteArray.getElem_eq_getElem_data
theorem Qy : type_of% @World.cell?_alloc_at := @World.cell?_alloc_at
theorem Qz : type_of% @List.not_mem_nil := @List.not_mem_nil
theorem Q0 : type_of% @Nat.add_zero := @Nat.add_zero
theorem Q1 : type_of% @World.ownsRow_lit := @World.ownsRow_lit
theorem Q2 : type_of% @Option.bind_some := @Option.bind_some
theorem Q3 : type_of% @List.nil_append := @List.nil_append
theorem Q5 : type_of% @List.append_nil := @List.append_nil
theorem Q6 : type_of% @Bool.or_eq_true := @Bool.or_eq_true
theorem Q7 : type_of% @List.mem_cons := @List.mem_cons
theorem JA : type_of% @List.mem_singleton := @List.mem_singleton
theorem JB : type_of% @Bool.and_false := @Bool.and_false
theorem JC : type_of% @List.mem_of_mem_take := @List.mem_of_mem_take
theorem JD : type_of% @Bool.or_eq_false_iff := @Bool.or_eq_false_iff
theorem JE : type_of% @List.getElem_append_right := @List.getElem_append_right
theorem JF : type_of% @List.getElem_map := @List.getElem_map
theorem JG : type_of% @List.mem_of_mem_drop := @List.mem_of_mem_drop
theorem JH : type_of% @List.cons.injEq := @List.cons.injEq
theorem JI : type_of% @Nat.zero_le := @Nat.zero_le
theorem JJ : type_of% @Nat.le_of_eq := @Nat.le_of_eq
theorem JK : type_of% @Bool.and_eq_true_iff := @Bool.and_eq_true_iff
theorem JL : type_of% @Option.some.inj := @Option.some.inj
theorem JM : type_of% @Option.map_some := @Option.map_some
theorem JN : type_of% @Addr.add_lit := @Addr.add_lit
theorem JO : type_of% @List.length_nil := @List.length_nil
theorem JP : type_of% @AllReadyH.cons := @AllReadyH.cons
theorem JQ : type_of% @decide_eq_false := @decide_eq_false
theorem JR : type_of% @decide_eq_true := @decide_eq_true
theorem JS : type_of% @heap_alloc_new := @heap_alloc_new
theorem JT : type_of% @decide_eq_true_eq := @decide_eq_true_eq
theorem JU : type_of% @wp_region_held_drew := @wp_region_held_drew
theorem JV : type_of% @bodyPost_ret := @bodyPost_ret
theorem JW : type_of% @of_decide_eq_true := @of_decide_eq_true
theorem JX : type_of% @results_cell_row := @results_cell_row
theorem JY : type_of% @congrArg := @congrArg
end Go.Proofs.YtipfpppcbmpjiaaGreat
