/- Texts that the proof of P stands on, in one file. -/
import Derived.Test.YtlegeancmcmbaaaDoorRows
import Derived.ProofKit
import Derived.WalkKit
import Derived.LoopTactic
import Derived.Lib.Hide
import Derived.Deep.Draws
import Derived.Orders
import Derived.Outline
import Derived.Deep.QuietTactic
import Derived.BigQuiet
import Derived.OwnWalk
import Derived.Laws.BytesString
import Derived.Laws.IdiomStrings
set_option linter.unusedVariables false
set_option linter.unusedSimpArgs false
/- Words of our own over any program: what a law's end owes, for arguments of any type. -/
namespace Go.Proofs.YtlegeancmcmbaaaDoor
open Go.ChangeShapes Go.WideShapes Go.ChangeAt Go.RowKit

theorem trodAll_below {H : Type} {enc : TypeId × Value → H} {P : Program} (hl : laidOutB P = true) {W W' : World} (hb : Below W.heap.size W W') :
  ∀ {ts : List TypeId} {vs : List Value} {ds : List (DataW H)} {ps : List MemPlace}, (∀ t ∈ ts, P.readableRec t = true ∧ t < P.types.size) →
   DataW.TrodAll enc P W 0 (fun _ => true) true ts vs ds ps → DataW.TrodAll enc P W' 0 (fun b => decide (b < W.heap.size)) true ts vs ds ps
 | [], [], [], _, _, h => h
 |
  t :: ts, v :: vs, d :: ds, ps, hr, h => by
  obtain ⟨p, q, h1, h2, rfl⟩ := h
  obtain ⟨ha, hs⟩ := hr t (by simp)
  have hlt : ∀ x ∈ p, x.block < W.heap.size := by
   obtain ⟨fuel, hf⟩ := h1
   exact DataW.trod_lt fuel _ _ _ hf
  exact ⟨p, q, Below.trod hl ha hs h1 hb hlt, trodAll_below hl hb (fun t ht => hr t (by simp [ht])) h2, rfl⟩
 | [], _ :: _, _, _, _, h => h.elim
 | [], [], _ :: _, _, _, h => h.elim
 | _ :: _, [], _, _, _, h => h.elim
 | _ :: _, _ :: _, [], _, _, h => h.elim

theorem belowN {B : Nat} {a w : World} (h : Below B a w) (n : Nat) : Below B a (w.drewN n) := ⟨h.os, h.tape, h.output, h.size, h.block⟩

end Go.Proofs.YtlegeancmcmbaaaDoor

/- A region that draws its order, walked by what its operations leave: in whatever order they come up, each finds what those before it have left. Over any program. -/
namespace Go.Proofs.YtlegeancmcmbaaaDoor
open Go.RowKit

def Sw (K : Act → World → Prop) : Exit → Act → World → Prop
 | .normal, a, w => K a w
 | _, _, _ => False
theorem Sw.noOut {K : Act → World → Prop} : ¬ LetsOut (Sw K) := fun ⟨_, _, h⟩ => h
theorem sw_wp {P : Program} {o : Oper} {a : Act} {w : World} {K : Act → World → Prop} {Q : Exit → Act → World → Prop} (h : o.wp P a w K (Sw K)) : o.wp P a w K Q := by
 unfold Oper.wp at *
 generalize (execOp a.eval o).run P w = r at *
 cases r with
 |
  ok n w' =>
  cases n <;> simp only [Oper.upon] at h ⊢ <;>
   first
    | exact h
    | exact Calls.mono h (fun e w'' he => by cases e <;> first | exact he | exact absurd he id | exact absurd he Sw.noOut)
    | exact Rows.mono h (fun _ _ he => he)
 |
  halt x w' =>
  cases x <;> simp only [Oper.upon] at h ⊢
  exact absurd h id
theorem sw_op {P : Program} {ops : Array Oper} {i : Nat} {o : Oper} {a : Act} {w : World} {K : Act → World → Prop} {Q : Exit → Act → World → Prop} (hi : ops[i]? = some o) (h : wpList P ops (Sw K) [o] a w) : wpOp P ops Q i K a w := by
 unfold wpOp
 rw [hi]
 unfold wpList at h
 show if _ then _ else _
 split
 ·rename_i hw
  rw [if_pos hw] at h
  rcases h with h | ⟨_, h⟩
  ·exact .inl (sw_wp h)
  ·exact absurd h Sw.noOut
 ·rename_i hw
  rw [if_neg hw] at h
  exact h

def fill (a : Act) : List (Option Nat) → List Value → Act
 | d :: ds, x :: xs => fill (a.put d x) ds xs
 | _, _ => a
theorem put_twice (a : Act) (d : Nat) (x v : Value) : (a.put (some d) x).put (some d) v = a.put (some d) v := by
 simp [Act.put, Array.setIfInBounds_setIfInBounds]
theorem put_swap (a : Act) (d e : Option Nat) (x v : Value) (h : d ≠ e ∨ d = none) : (a.put d x).put e v = (a.put e v).put d x := by
 cases d with
 | none => rfl
 |
  some d =>
  cases e with
  | none => rfl
  |
   some e =>
   have hne : d ≠ e := by
    rcases h with h | h
    ·intro hh; exact h (by rw [hh])
    ·cases h
   simp only [Act.put]
   rw [Array.setIfInBounds_comm _ _ hne]
def apartDsts : List (Option Nat) → Bool
 | [] => true
 | d :: ds => (d == none || !ds.contains d) && apartDsts ds
theorem fill_swap (ds : List (Option Nat)) : ∀ (a : Act) (xs : List Value) (d : Option Nat) (v : Value), (d = none ∨ d ∉ ds) → (fill a ds xs).put d v = fill (a.put d v) ds xs := by
 induction ds with
 | nil => intro a xs d v _; rfl
 |
  cons e ds ih =>
  intro a xs d v h
  cases xs with
  | nil => rfl
  |
   cons x xs =>
   show (fill (a.put e x) ds xs).put d v = fill ((a.put d v).put e x) ds xs
   rw [ih _ _ _ _ (by rcases h with h | h; exact .inl h; exact .inr (fun hh => h (by simp [hh])))]
   rw [put_swap a e d x v (by
                rcases h with rfl | h; · cases e <;> simp
                ·left; rintro rfl; exact h (by simp))]
theorem fill_put (ds : List (Option Nat)) (hd : apartDsts ds = true) : ∀ (a : Act) (xs : List Value) (i : Nat) (d : Option Nat) (v : Value), xs.length = ds.length → ds[i]? = some d → (fill a ds xs).put d v = fill a ds (xs.set i v) := by
 induction ds with
 | nil => intro a xs i d v _ h; simp at h
 |
  cons e ds ih =>
  unfold apartDsts at hd
  rw [Bool.and_eq_true, Bool.or_eq_true] at hd
  intro a xs i d v hl h
  cases xs with
  | nil => simp at hl
  |
   cons x xs =>
   cases i with
   |
    zero =>
    simp only [List.getElem?_cons_zero, Option.some.injEq] at h
    subst h
    show (fill (a.put e x) ds xs).put e v = fill (a.put e v) ds xs
    rw [fill_swap ds _ _ _ _ (by
                  rcases hd.1 with h | h; · left; simpa using h
                  ·right; simpa using h)]
    cases e with
    | none => rfl
    | some e => rw [put_twice]
   |
    succ i =>
    show (fill (a.put e x) ds xs).put d v = fill (a.put e x) ds (xs.set i v)
    exact ih hd.2 _ _ _ _ _ (by simpa using hl) (by simpa using h)
theorem fill_self (ds : List (Option Nat)) : ∀ (a : Act), fill a ds (ds.map fun d => match d with | some t => a.tmps.getD t undef | none => undef) = a := by
 induction ds with
 | nil => intro a; rfl
 |
  cons d ds ih =>
  intro a
  have e : a.put d (match d with | some t => a.tmps.getD t undef | none => undef) = a := by
   cases d with
   | none => rfl
   |
    some t =>
    obtain ⟨T, D⟩ := a
    simp only [Act.put, Act.mk.injEq, and_true]
    apply Array.ext_getElem?
    intro j
    rw [Array.getElem?_setIfInBounds]
    split
    ·rename_i h
     subst h
     split
     ·rename_i h2; simp [Array.getD, h2]
     ·rename_i h2; rw [Array.getElem?_eq_none (by omega)]
    ·rfl
  show fill (a.put d _) ds _ = a
  rw [e]
  exact ih a

def regionOk (ops : Array Oper) : Bool :=
 apartDsts (ops.toList.map (·.dst)) && (List.range ops.size).all fun i => ((ops[i]?).map fun o => o.after.all fun e => decide (e.on < i)).getD false

def At (Ps : List (Value → World → Prop)) (i : Nat) (v : Value) (w : World) : Prop := ∀ p, Ps[i]? = some p → p v w
def origs (a : Act) (ds : List (Option Nat)) : List Value := ds.map fun d => match d with | some t => a.tmps.getD t undef | none => undef

def covers (o : Oper) (i n : Nat) : Bool := (List.range n).all fun j => j == i || o.after.any fun e => Region.binds .any e && e.on == j
def StepOk (P : Program) (ops : Array Oper) (Rl : World → World → Prop) (Ps : List (Value → World → Prop)) (J : Nat → World → Prop) (a : Act) (i : Nat) (o : Oper) : Prop :=
 ∀ (xs : List Value) (w' : World) (m : Nat), xs.length = ops.size → m < ops.size → J m w' → (covers o i ops.size = true → m + 1 = ops.size) →
  (∀ e ∈ o.after, Region.binds .any e = true → ∀ v, xs[e.on]? = some v → At Ps e.on v w') →
  (∀ (j : Nat) (o' : Oper), ops[j]? = some o' → (j = i ∨ ∃ e ∈ o'.after, Region.binds .any e = true ∧ e.on = i) → xs[j]? = (origs a (ops.toList.map (·.dst)))[j]?) →
  ∀ K : Act → World → Prop, (∀ v w'', At Ps i v w'' → Rl w' w'' → J (m + 1) w'' → K ((fill a (ops.toList.map (·.dst)) xs).put o.dst v) w'') →
   wpList P ops (Sw K) [o] (fill a (ops.toList.map (·.dst)) xs) w'

def cnt (n : Nat) (L : Array Bool) : Nat := (List.range n).countP fun i => L.getD i false
theorem cnt_set {n : Nat} {L : Array Bool} {i : Nat} (hi : i < n) (hs : L.size = n) (h : L.getD i true = false) : cnt n (L.setIfInBounds i true) = cnt n L + 1 := by
 have h' : L.getD i false = false := by
  simp only [Array.getD] at h ⊢
  split at h
  ·rename_i h2; rw [dif_pos h2]; exact h
  ·cases h
 have key : ∀ l : List Nat, l.Nodup → (l.countP fun j => (L.setIfInBounds i true).getD j false) = (l.countP fun j => L.getD j false) + (if i ∈ l then 1 else 0) := by
  intro l
  induction l with
  | nil => intro _; simp
  |
   cons x l ih =>
   intro hn
   rw [List.nodup_cons] at hn
   rw [List.countP_cons, List.countP_cons, ih hn.2]
   by_cases e : x = i
   ·subst e
    have h1 : (L.setIfInBounds x true).getD x false = true := by simp [Array.getD, hs, hi]
    rw [if_neg hn.1, h1, h', if_pos (by simp)]; simp
   ·have h1 : (L.setIfInBounds i true).getD x false = L.getD x false := by
     have e' : ¬ i = x := fun h => e h.symm
     simp only [Array.getD, Array.size_setIfInBounds]
     split
     ·rename_i hx
      show (L.setIfInBounds i true)[x]'_ = L[x]'_
      rw [Array.getElem_setIfInBounds (by simpa using hx), if_neg e']
     ·rfl
    rw [h1]
    have h2 : (i ∈ x :: l) ↔ i ∈ l := by simp [Ne.symm e]
    simp only [h2]; omega
 unfold cnt
 rw [key _ List.nodup_range, if_pos (by simpa using hi)]
theorem cnt_full {n : Nat} {L : Array Bool} (h : ∀ i, i < n → L.getD i false = true) : cnt n L = n := by
 unfold cnt
 rw [List.countP_eq_length.2 (by intro i hi; exact h i (by simpa using hi)), List.length_range]
theorem cnt_lt {n : Nat} {L : Array Bool} {i : Nat} (hi : i < n) (h : L.getD i false = false) : cnt n L < n := by
 unfold cnt
 have h1 := List.countP_le_length (p := fun i => L.getD i false) (l := List.range n)
 have h2 : ¬ (List.range n).countP (fun i => L.getD i false) = (List.range n).length := fun e => by
  have := List.countP_eq_length.1 e i (by simpa using hi)
  simp [h] at this
 rw [List.length_range] at h1 h2
 omega

theorem regionOk_after {ops : Array Oper} (h : regionOk ops = true) {i : Nat} {o : Oper} (hi : ops[i]? = some o) : ∀ e ∈ o.after, e.on < i := by
 unfold regionOk at h
 rw [Bool.and_eq_true, List.all_eq_true] at h
 have hlt := (Array.getElem?_eq_some_iff.1 hi).1
 have := h.2 i (by simpa using hlt)
 rw [hi] at this
 simp only [Option.map_some, Option.getD_some, Array.all_eq_true'] at this
 intro e he
 simpa using this e he

structure RInv (ops : Array Oper) (Rl : World → World → Prop) (Ps : List (Value → World → Prop)) (J : Nat → World → Prop) (a : Act) (L : Array Bool) (b : Act) (w : World) (xs : List Value) : Prop where
 size : L.size = ops.size
 len : xs.length = ops.size
 act : b = fill a (ops.toList.map (·.dst)) xs
 j : J (cnt ops.size L) w
 facts : ∀ i v, L.getD i false = true → xs[i]? = some v → At Ps i v w
 old : ∀ i, i < ops.size → L.getD i false = false → xs[i]? = (origs a (ops.toList.map (·.dst)))[i]?
 closed : ∀ i o, ops[i]? = some o → L.getD i false = true → ∀ e ∈ o.after, Region.binds .any e = true → L.getD e.on false = true

theorem getD_ft {L : Array Bool} {i : Nat} (h : L.getD i true = false) : L.getD i false = false := by
 simp only [Array.getD] at h ⊢
 split at h
 ·rename_i h2; rw [dif_pos h2]; exact h
 ·cases h
theorem getD_tf {L : Array Bool} {i : Nat} (hi : i < L.size) (h : L.getD i false = false) : L.getD i true = false := by
 simp only [Array.getD] at h ⊢
 rw [dif_pos hi] at h ⊢; exact h
theorem getD_put {L : Array Bool} {i j : Nat} (hi : i < L.size) : (L.setIfInBounds i true).getD j false = (decide (j = i) || L.getD j false) := by
 simp only [Array.getD, Array.size_setIfInBounds]
 by_cases e : j = i
 ·subst e; rw [dif_pos hi]; simp
 ·have e' : ¬ i = j := fun h => e h.symm
  split
  ·rename_i hx
   show (L.setIfInBounds i true)[j]'_ = _
   rw [Array.getElem_setIfInBounds (by simpa using hx), if_neg e']
   simp [e]
  ·simp [e]

theorem wp_region_types {P : Program} {ops : Array Oper} {Q : Exit → Act → World → Prop} {id : Nat} {a : Act} {w : World} (hm : P.follows .mixedOrders = true) (hok : regionOk ops = true)
  (Rl : World → World → Prop) (Ps : List (Value → World → Prop)) (hst : ∀ p ∈ Ps, ∀ v w w', Rl w w' → p v w → p v w') (J : Nat → World → Prop)
  (hJ : J 0 { w with drawn := w.drawn + 1 })
  (step : ∀ i o, ops[i]? = some o → StepOk P ops Rl Ps J a i o)
  (done : ∀ (xs : List Value) (w' : World), xs.length = ops.size → (∀ i v, xs[i]? = some v → At Ps i v w') → J ops.size w' → Q .normal (fill a (ops.toList.map (·.dst)) xs) w') :
  (Code.region id ops true).wp P Q a w := by
 refine wp_region_any hm ?_
 have hd : apartDsts (ops.toList.map (·.dst)) = true := by unfold regionOk at hok; rw [Bool.and_eq_true] at hok; exact hok.1
 have hlist : ∀ (L : Array Bool), L.size = ops.size → Region.ready .any ops L = [] → ∀ i, i < ops.size → L.getD i false = true := by
  intro L hL hr i
  induction i using Nat.strongRecOn with
  |
   ind i ih =>
   intro hi
   cases hb : L.getD i false with
   | true => rfl
   |
    false =>
    exfalso
    have hm : i ∈ Region.ready .any ops L := by
     rw [mem_ready]
     exact ⟨getD_tf (by omega) hb, ops[i], Array.getElem?_eq_getElem hi, fun e he _ => by
      have hlt := regionOk_after hok (Array.getElem?_eq_getElem hi) e he
      exact ih e.on hlt (by omega)⟩
    rw [hr] at hm
    cases hm
 have main : ∀ (fuel : Nat) (L : Array Bool) (b : Act) (w' : World) (xs : List Value), fuel + cnt ops.size L = ops.size → RInv ops Rl Ps J a L b w' xs → wpAny P .any ops Q fuel L b w' := by
  intro fuel
  induction fuel with
  |
   zero =>
   intro L b w' xs hf I
   have hall : ∀ i, i < ops.size → L.getD i false = true := fun i hi => by
    cases hb : L.getD i false with
    | true => rfl
    | false => have := cnt_lt hi hb; omega
   refine ⟨?_, ?_⟩
   ·cases hr : Region.ready .any ops L with
    | nil => rfl
    |
     cons i r =>
     have hi : i ∈ Region.ready .any ops L := by rw [hr]; simp
     rw [mem_ready] at hi
     obtain ⟨h0, o, ho, _⟩ := hi
     have := hall i (Array.getElem?_eq_some_iff.1 ho).1
     rw [getD_ft h0] at this
     cases this
   ·rw [I.act]
    refine done xs w' I.len (fun i v hv => I.facts i v (hall i ?_) hv) (by have := I.j; rwa [cnt_full hall] at this)
    have := (List.getElem?_eq_some_iff.1 hv).1
    rw [I.len] at this; exact this
  |
   succ fuel ih =>
   intro L b w' xs hf I
   refine ⟨fun hr => ?_, fun i hi => ?_⟩
   ·have hall := hlist L I.size hr
    rw [I.act]
    refine done xs w' I.len (fun i v hv => I.facts i v (hall i ?_) hv) (by have := I.j; rwa [cnt_full hall] at this)
    have := (List.getElem?_eq_some_iff.1 hv).1
    rw [I.len] at this; exact this
   ·obtain ⟨h0, o, ho, hafter⟩ := mem_ready.1 hi
    have hlt := (Array.getElem?_eq_some_iff.1 ho).1
    refine sw_op ho ?_
    rw [I.act]
    refine step i o ho xs w' (cnt ops.size L) I.len (by have := cnt_lt hlt (getD_ft h0); exact this) I.j (fun hcov => ?_) (fun e he hb v hv => I.facts e.on v (hafter e he hb) hv) (fun j o' ho' hj => ?_) _ (fun v w'' h1 h2 h3 => ?_)
    ·rw [← cnt_set hlt I.size h0]
     refine cnt_full fun j hj => ?_
     rw [getD_put (by rw [I.size]; exact hlt)]
     unfold covers at hcov
     rw [List.all_eq_true] at hcov
     have := hcov j (by simpa using hj)
     rw [Bool.or_eq_true, beq_iff_eq] at this
     rcases this with e | e
     ·subst e; simp
     ·rw [Array.any_eq_true'] at e
      obtain ⟨d, hd1, hd2⟩ := e
      rw [Bool.and_eq_true, beq_iff_eq] at hd2
      rw [← hd2.2, hafter d hd1 hd2.1, Bool.or_true]
    ·refine I.old j (Array.getElem?_eq_some_iff.1 ho').1 ?_
     rcases hj with rfl | ⟨e, he, hb, hon⟩
     ·exact getD_ft h0
     ·cases hL : L.getD j false with
      | false => rfl
      |
       true =>
       have := I.closed j o' ho' hL e he hb
       rw [hon, getD_ft h0] at this
       cases this
    ·have hds : (ops.toList.map (·.dst))[i]? = some o.dst := by simp [ho]
     rw [fill_put _ hd _ _ i _ _ (by simpa using I.len) hds]
     have hset : cnt ops.size (L.setIfInBounds i true) = cnt ops.size L + 1 := cnt_set hlt I.size h0
     refine ih _ _ _ (xs.set i v) (by omega) ⟨by simpa using I.size, by simpa using I.len, rfl, by rw [hset]; exact h3, ?_, ?_, ?_⟩
     ·intro j u hj hu
      rw [getD_put (by rw [I.size]; exact hlt)] at hj
      rw [List.getElem?_set] at hu
      by_cases e : i = j
      ·subst e
       rw [if_pos rfl, if_pos (by rw [I.len]; exact hlt)] at hu
       cases hu
       exact h1
      ·rw [if_neg e] at hu
       have hj' : L.getD j false = true := by
        rw [Bool.or_eq_true, decide_eq_true_eq] at hj
        exact hj.resolve_left fun h => e h.symm
       intro p hp
       exact hst p (List.mem_of_getElem? hp) _ _ _ h2 (I.facts j u hj' hu p hp)
     ·intro j hj hL
      rw [getD_put (by rw [I.size]; exact hlt), Bool.or_eq_false_iff, decide_eq_false_iff_not] at hL
      rw [List.getElem?_set, if_neg (fun h => hL.1 h.symm)]
      exact I.old j hj hL.2
     ·intro j o' ho' hL e he hb
      rw [getD_put (by rw [I.size]; exact hlt), Bool.or_eq_true] at hL ⊢
      rcases hL with hL | hL
      ·have : j = i := by simpa using hL
       subst this
       rw [ho] at ho'
       cases ho'
       exact .inr (hafter e he hb)
      ·exact .inr (I.closed j o' ho' hL e he hb)
 refine main ops.size _ _ _ (origs a (ops.toList.map (·.dst))) ?_ ⟨by simp, by simp [origs], (fill_self _ a).symm, ?_, ?_, fun i _ _ => rfl, ?_⟩
 all_goals
  have hz : ∀ i, (Array.replicate ops.size false).getD i false = false := by intro i; simp [Array.getD]
  have hc : cnt ops.size (Array.replicate ops.size false) = 0 := by
   unfold cnt
   rw [List.countP_eq_zero]
   intro i _; simp only [hz i]; simp
 ·rw [hc]; omega
 ·rw [hc]; exact hJ
 ·intro i v h; rw [hz i] at h; cases h
 ·intro i o _ h; rw [hz i] at h; cases h

end Go.Proofs.YtlegeancmcmbaaaDoor

/- Lists of a given length. -/
namespace Go.Proofs.YtlegeancmcmbaaaDoor
open Go.RowKit
theorem cons_of_len {n : Nat} {xs : List Value} (h : xs.length = n + 1) : ∃ x t, xs = x :: t ∧ t.length = n := by
 cases xs with
 | nil => simp at h
 | cons x t => exact ⟨x, t, rfl, by simpa using h⟩
theorem len1 {xs : List Value} (h : xs.length = 1) : ∃ x0, xs = [x0] := by
 obtain ⟨x, t, rfl, ht⟩ := cons_of_len (n := 0) h
 exact ⟨x, by rw [List.eq_nil_of_length_eq_zero ht]⟩
theorem len2 {xs : List Value} (h : xs.length = 2) : ∃ x0 x1, xs = [x0, x1] := by
 obtain ⟨x0, t, rfl, ht⟩ := cons_of_len (n := 1) h
 obtain ⟨x1, rfl⟩ := len1 ht
 exact ⟨x0, x1, rfl⟩
theorem len3 {xs : List Value} (h : xs.length = 3) : ∃ x0 x1 x2, xs = [x0, x1, x2] := by
 obtain ⟨x0, t, rfl, ht⟩ := cons_of_len (n := 2) h
 obtain ⟨x1, x2, rfl⟩ := len2 ht
 exact ⟨x0, x1, x2, rfl⟩
theorem len4 {xs : List Value} (h : xs.length = 4) : ∃ x0 x1 x2 x3, xs = [x0, x1, x2, x3] := by
 obtain ⟨x0, t, rfl, ht⟩ := cons_of_len (n := 3) h
 obtain ⟨x1, x2, x3, rfl⟩ := len3 ht
 exact ⟨x0, x1, x2, x3, rfl⟩
theorem len5 {xs : List Value} (h : xs.length = 5) : ∃ x0 x1 x2 x3 x4, xs = [x0, x1, x2, x3, x4] := by
 obtain ⟨x0, t, rfl, ht⟩ := cons_of_len (n := 4) h
 obtain ⟨x1, x2, x3, x4, rfl⟩ := len4 ht
 exact ⟨x0, x1, x2, x3, x4, rfl⟩
theorem len6 {xs : List Value} (h : xs.length = 6) : ∃ x0 x1 x2 x3 x4 x5, xs = [x0, x1, x2, x3, x4, x5] := by
 obtain ⟨x0, t, rfl, ht⟩ := cons_of_len (n := 5) h
 obtain ⟨x1, x2, x3, x4, x5, rfl⟩ := len5 ht
 exact ⟨x0, x1, x2, x3, x4, x5, rfl⟩
theorem len7 {xs : List Value} (h : xs.length = 7) : ∃ x0 x1 x2 x3 x4 x5 x6, xs = [x0, x1, x2, x3, x4, x5, x6] := by
 obtain ⟨x0, t, rfl, ht⟩ := cons_of_len (n := 6) h
 obtain ⟨x1, x2, x3, x4, x5, x6, rfl⟩ := len6 ht
 exact ⟨x0, x1, x2, x3, x4, x5, x6, rfl⟩
theorem len8 {xs : List Value} (h : xs.length = 8) : ∃ x0 x1 x2 x3 x4 x5 x6 x7, xs = [x0, x1, x2, x3, x4, x5, x6, x7] := by
 obtain ⟨x0, t, rfl, ht⟩ := cons_of_len (n := 7) h
 obtain ⟨x1, x2, x3, x4, x5, x6, x7, rfl⟩ := len7 ht
 exact ⟨x0, x1, x2, x3, x4, x5, x6, x7, rfl⟩
theorem len9 {xs : List Value} (h : xs.length = 9) : ∃ x0 x1 x2 x3 x4 x5 x6 x7 x8, xs = [x0, x1, x2, x3, x4, x5, x6, x7, x8] := by
 obtain ⟨x0, t, rfl, ht⟩ := cons_of_len (n := 8) h
 obtain ⟨x1, x2, x3, x4, x5, x6, x7, x8, rfl⟩ := len8 ht
 exact ⟨x0, x1, x2, x3, x4, x5, x6, x7, x8, rfl⟩
theorem len10 {xs : List Value} (h : xs.length = 10) : ∃ x0 x1 x2 x3 x4 x5 x6 x7 x8 x9, xs = [x0, x1, x2, x3, x4, x5, x6, x7, x8, x9] := by
 obtain ⟨x0, t, rfl, ht⟩ := cons_of_len (n := 9) h
 obtain ⟨x1, x2, x3, x4, x5, x6, x7, x8, x9, rfl⟩ := len9 ht
 exact ⟨x0, x1, x2, x3, x4, x5, x6, x7, x8, x9, rfl⟩
theorem len11 {xs : List Value} (h : xs.length = 11) : ∃ x0 x1 x2 x3 x4 x5 x6 x7 x8 x9 x10, xs = [x0, x1, x2, x3, x4, x5, x6, x7, x8, x9, x10] := by
 obtain ⟨x0, t, rfl, ht⟩ := cons_of_len (n := 10) h
 obtain ⟨x1, x2, x3, x4, x5, x6, x7, x8, x9, x10, rfl⟩ := len10 ht
 exact ⟨x0, x1, x2, x3, x4, x5, x6, x7, x8, x9, x10, rfl⟩
theorem len12 {xs : List Value} (h : xs.length = 12) : ∃ x0 x1 x2 x3 x4 x5 x6 x7 x8 x9 x10 x11, xs = [x0, x1, x2, x3, x4, x5, x6, x7, x8, x9, x10, x11] := by
 obtain ⟨x0, t, rfl, ht⟩ := cons_of_len (n := 11) h
 obtain ⟨x1, x2, x3, x4, x5, x6, x7, x8, x9, x10, x11, rfl⟩ := len11 ht
 exact ⟨x0, x1, x2, x3, x4, x5, x6, x7, x8, x9, x10, x11, rfl⟩
theorem len13 {xs : List Value} (h : xs.length = 13) : ∃ x0 x1 x2 x3 x4 x5 x6 x7 x8 x9 x10 x11 x12, xs = [x0, x1, x2, x3, x4, x5, x6, x7, x8, x9, x10, x11, x12] := by
 obtain ⟨x0, t, rfl, ht⟩ := cons_of_len (n := 12) h
 obtain ⟨x1, x2, x3, x4, x5, x6, x7, x8, x9, x10, x11, x12, rfl⟩ := len12 ht
 exact ⟨x0, x1, x2, x3, x4, x5, x6, x7, x8, x9, x10, x11, x12, rfl⟩
theorem len14 {xs : List Value} (h : xs.length = 14) : ∃ x0 x1 x2 x3 x4 x5 x6 x7 x8 x9 x10 x11 x12 x13, xs = [x0, x1, x2, x3, x4, x5, x6, x7, x8, x9, x10, x11, x12, x13] := by
 obtain ⟨x0, t, rfl, ht⟩ := cons_of_len (n := 13) h
 obtain ⟨x1, x2, x3, x4, x5, x6, x7, x8, x9, x10, x11, x12, x13, rfl⟩ := len13 ht
 exact ⟨x0, x1, x2, x3, x4, x5, x6, x7, x8, x9, x10, x11, x12, x13, rfl⟩
theorem len15 {xs : List Value} (h : xs.length = 15) : ∃ x0 x1 x2 x3 x4 x5 x6 x7 x8 x9 x10 x11 x12 x13 x14, xs = [x0, x1, x2, x3, x4, x5, x6, x7, x8, x9, x10, x11, x12, x13, x14] := by
 obtain ⟨x0, t, rfl, ht⟩ := cons_of_len (n := 14) h
 obtain ⟨x1, x2, x3, x4, x5, x6, x7, x8, x9, x10, x11, x12, x13, x14, rfl⟩ := len14 ht
 exact ⟨x0, x1, x2, x3, x4, x5, x6, x7, x8, x9, x10, x11, x12, x13, x14, rfl⟩
theorem len16 {xs : List Value} (h : xs.length = 16) : ∃ x0 x1 x2 x3 x4 x5 x6 x7 x8 x9 x10 x11 x12 x13 x14 x15, xs = [x0, x1, x2, x3, x4, x5, x6, x7, x8, x9, x10, x11, x12, x13, x14, x15] := by
 obtain ⟨x0, t, rfl, ht⟩ := cons_of_len (n := 15) h
 obtain ⟨x1, x2, x3, x4, x5, x6, x7, x8, x9, x10, x11, x12, x13, x14, x15, rfl⟩ := len15 ht
 exact ⟨x0, x1, x2, x3, x4, x5, x6, x7, x8, x9, x10, x11, x12, x13, x14, x15, rfl⟩
theorem len17 {xs : List Value} (h : xs.length = 17) : ∃ x0 x1 x2 x3 x4 x5 x6 x7 x8 x9 x10 x11 x12 x13 x14 x15 x16, xs = [x0, x1, x2, x3, x4, x5, x6, x7, x8, x9, x10, x11, x12, x13, x14, x15, x16] := by
 obtain ⟨x0, t, rfl, ht⟩ := cons_of_len (n := 16) h
 obtain ⟨x1, x2, x3, x4, x5, x6, x7, x8, x9, x10, x11, x12, x13, x14, x15, x16, rfl⟩ := len16 ht
 exact ⟨x0, x1, x2, x3, x4, x5, x6, x7, x8, x9, x10, x11, x12, x13, x14, x15, x16, rfl⟩
theorem len18 {xs : List Value} (h : xs.length = 18) : ∃ x0 x1 x2 x3 x4 x5 x6 x7 x8 x9 x10 x11 x12 x13 x14 x15 x16 x17, xs = [x0, x1, x2, x3, x4, x5, x6, x7, x8, x9, x10, x11, x12, x13, x14, x15, x16, x17] := by
 obtain ⟨x0, t, rfl, ht⟩ := cons_of_len (n := 17) h
 obtain ⟨x1, x2, x3, x4, x5, x6, x7, x8, x9, x10, x11, x12, x13, x14, x15, x16, x17, rfl⟩ := len17 ht
 exact ⟨x0, x1, x2, x3, x4, x5, x6, x7, x8, x9, x10, x11, x12, x13, x14, x15, x16, x17, rfl⟩
theorem len19 {xs : List Value} (h : xs.length = 19) : ∃ x0 x1 x2 x3 x4 x5 x6 x7 x8 x9 x10 x11 x12 x13 x14 x15 x16 x17 x18, xs = [x0, x1, x2, x3, x4, x5, x6, x7, x8, x9, x10, x11, x12, x13, x14, x15, x16, x17, x18] := by
 obtain ⟨x0, t, rfl, ht⟩ := cons_of_len (n := 18) h
 obtain ⟨x1, x2, x3, x4, x5, x6, x7, x8, x9, x10, x11, x12, x13, x14, x15, x16, x17, x18, rfl⟩ := len18 ht
 exact ⟨x0, x1, x2, x3, x4, x5, x6, x7, x8, x9, x10, x11, x12, x13, x14, x15, x16, x17, x18, rfl⟩
theorem len20 {xs : List Value} (h : xs.length = 20) : ∃ x0 x1 x2 x3 x4 x5 x6 x7 x8 x9 x10 x11 x12 x13 x14 x15 x16 x17 x18 x19, xs = [x0, x1, x2, x3, x4, x5, x6, x7, x8, x9, x10, x11, x12, x13, x14, x15, x16, x17, x18, x19] := by
 obtain ⟨x0, t, rfl, ht⟩ := cons_of_len (n := 19) h
 obtain ⟨x1, x2, x3, x4, x5, x6, x7, x8, x9, x10, x11, x12, x13, x14, x15, x16, x17, x18, x19, rfl⟩ := len19 ht
 exact ⟨x0, x1, x2, x3, x4, x5, x6, x7, x8, x9, x10, x11, x12, x13, x14, x15, x16, x17, x18, x19, rfl⟩
theorem len21 {xs : List Value} (h : xs.length = 21) : ∃ x0 x1 x2 x3 x4 x5 x6 x7 x8 x9 x10 x11 x12 x13 x14 x15 x16 x17 x18 x19 x20, xs = [x0, x1, x2, x3, x4, x5, x6, x7, x8, x9, x10, x11, x12, x13, x14, x15, x16, x17, x18, x19, x20] := by
 obtain ⟨x0, t, rfl, ht⟩ := cons_of_len (n := 20) h
 obtain ⟨x1, x2, x3, x4, x5, x6, x7, x8, x9, x10, x11, x12, x13, x14, x15, x16, x17, x18, x19, x20, rfl⟩ := len20 ht
 exact ⟨x0, x1, x2, x3, x4, x5, x6, x7, x8, x9, x10, x11, x12, x13, x14, x15, x16, x17, x18, x19, x20, rfl⟩
theorem len22 {xs : List Value} (h : xs.length = 22) : ∃ x0 x1 x2 x3 x4 x5 x6 x7 x8 x9 x10 x11 x12 x13 x14 x15 x16 x17 x18 x19 x20 x21, xs = [x0, x1, x2, x3, x4, x5, x6, x7, x8, x9, x10, x11, x12, x13, x14, x15, x16, x17, x18, x19, x20, x21] := by
 obtain ⟨x0, t, rfl, ht⟩ := cons_of_len (n := 21) h
 obtain ⟨x1, x2, x3, x4, x5, x6, x7, x8, x9, x10, x11, x12, x13, x14, x15, x16, x17, x18, x19, x20, x21, rfl⟩ := len21 ht
 exact ⟨x0, x1, x2, x3, x4, x5, x6, x7, x8, x9, x10, x11, x12, x13, x14, x15, x16, x17, x18, x19, x20, x21, rfl⟩
theorem len23 {xs : List Value} (h : xs.length = 23) : ∃ x0 x1 x2 x3 x4 x5 x6 x7 x8 x9 x10 x11 x12 x13 x14 x15 x16 x17 x18 x19 x20 x21 x22, xs = [x0, x1, x2, x3, x4, x5, x6, x7, x8, x9, x10, x11, x12, x13, x14, x15, x16, x17, x18, x19, x20, x21, x22] := by
 obtain ⟨x0, t, rfl, ht⟩ := cons_of_len (n := 22) h
 obtain ⟨x1, x2, x3, x4, x5, x6, x7, x8, x9, x10, x11, x12, x13, x14, x15, x16, x17, x18, x19, x20, x21, x22, rfl⟩ := len22 ht
 exact ⟨x0, x1, x2, x3, x4, x5, x6, x7, x8, x9, x10, x11, x12, x13, x14, x15, x16, x17, x18, x19, x20, x21, x22, rfl⟩
theorem len24 {xs : List Value} (h : xs.length = 24) : ∃ x0 x1 x2 x3 x4 x5 x6 x7 x8 x9 x10 x11 x12 x13 x14 x15 x16 x17 x18 x19 x20 x21 x22 x23, xs = [x0, x1, x2, x3, x4, x5, x6, x7, x8, x9, x10, x11, x12, x13, x14, x15, x16, x17, x18, x19, x20, x21, x22, x23] := by
 obtain ⟨x0, t, rfl, ht⟩ := cons_of_len (n := 23) h
 obtain ⟨x1, x2, x3, x4, x5, x6, x7, x8, x9, x10, x11, x12, x13, x14, x15, x16, x17, x18, x19, x20, x21, x22, x23, rfl⟩ := len23 ht
 exact ⟨x0, x1, x2, x3, x4, x5, x6, x7, x8, x9, x10, x11, x12, x13, x14, x15, x16, x17, x18, x19, x20, x21, x22, x23, rfl⟩
theorem len25 {xs : List Value} (h : xs.length = 25) : ∃ x0 x1 x2 x3 x4 x5 x6 x7 x8 x9 x10 x11 x12 x13 x14 x15 x16 x17 x18 x19 x20 x21 x22 x23 x24, xs = [x0, x1, x2, x3, x4, x5, x6, x7, x8, x9, x10, x11, x12, x13, x14, x15, x16, x17, x18, x19, x20, x21, x22, x23, x24] := by
 obtain ⟨x0, t, rfl, ht⟩ := cons_of_len (n := 24) h
 obtain ⟨x1, x2, x3, x4, x5, x6, x7, x8, x9, x10, x11, x12, x13, x14, x15, x16, x17, x18, x19, x20, x21, x22, x23, x24, rfl⟩ := len24 ht
 exact ⟨x0, x1, x2, x3, x4, x5, x6, x7, x8, x9, x10, x11, x12, x13, x14, x15, x16, x17, x18, x19, x20, x21, x22, x23, x24, rfl⟩
theorem len26 {xs : List Value} (h : xs.length = 26) : ∃ x0 x1 x2 x3 x4 x5 x6 x7 x8 x9 x10 x11 x12 x13 x14 x15 x16 x17 x18 x19 x20 x21 x22 x23 x24 x25, xs = [x0, x1, x2, x3, x4, x5, x6, x7, x8, x9, x10, x11, x12, x13, x14, x15, x16, x17, x18, x19, x20, x21, x22, x23, x24, x25] := by
 obtain ⟨x0, t, rfl, ht⟩ := cons_of_len (n := 25) h
 obtain ⟨x1, x2, x3, x4, x5, x6, x7, x8, x9, x10, x11, x12, x13, x14, x15, x16, x17, x18, x19, x20, x21, x22, x23, x24, x25, rfl⟩ := len25 ht
 exact ⟨x0, x1, x2, x3, x4, x5, x6, x7, x8, x9, x10, x11, x12, x13, x14, x15, x16, x17, x18, x19, x20, x21, x22, x23, x24, x25, rfl⟩
theorem len27 {xs : List Value} (h : xs.length = 27) : ∃ x0 x1 x2 x3 x4 x5 x6 x7 x8 x9 x10 x11 x12 x13 x14 x15 x16 x17 x18 x19 x20 x21 x22 x23 x24 x25 x26, xs = [x0, x1, x2, x3, x4, x5, x6, x7, x8, x9, x10, x11, x12, x13, x14, x15, x16, x17, x18, x19, x20, x21, x22, x23, x24, x25, x26] := by
 obtain ⟨x0, t, rfl, ht⟩ := cons_of_len (n := 26) h
 obtain ⟨x1, x2, x3, x4, x5, x6, x7, x8, x9, x10, x11, x12, x13, x14, x15, x16, x17, x18, x19, x20, x21, x22, x23, x24, x25, x26, rfl⟩ := len26 ht
 exact ⟨x0, x1, x2, x3, x4, x5, x6, x7, x8, x9, x10, x11, x12, x13, x14, x15, x16, x17, x18, x19, x20, x21, x22, x23, x24, x25, x26, rfl⟩
end Go.Proofs.YtlegeancmcmbaaaDoor

/- LineValid of the program and of its model answer alike for every text. -/
namespace Go.Proofs.YtlegeancmcmbaaaDoor
open Go.RowKit

def okByte (c : UInt8) : Bool := 32 ≤ c && c ≤ 126
def lineOk (s : ByteArray) : Bool := decide (s.size ≤ 200) && s.data.toList.all okByte

theorem okByte_iff (c : UInt8) : okByte c = true ↔ 32 ≤ c.toNat ∧ c.toNat ≤ 126 := by
 simp [okByte, UInt8.le_iff_toNat_le]

def OkUpto (s : ByteArray) (k : Nat) : Prop := ∀ j, (h : j < s.size) → j < k → okByte s[j] = true

theorem OkUpto.zero (s : ByteArray) : OkUpto s 0 := by intro j h; omega
theorem OkUpto.succ {s : ByteArray} {k : Nat} (h : OkUpto s k) (hk : k < s.size) (hb : 32 ≤ (s[k].toNat : Int) ∧ (s[k].toNat : Int) ≤ 126) : OkUpto s (k + 1) := by
 intro j hj hjk
 by_cases e : j = k
 ·subst e; rw [okByte_iff]; omega
 ·exact h j hj (by omega)

theorem lineOk_no {s : ByteArray} {k : Nat} (hk : k < s.size) (hb : ¬ (32 ≤ (s[k].toNat : Int) ∧ (s[k].toNat : Int) ≤ 126)) : lineOk s = false := by
 unfold lineOk
 have : s.data.toList.all okByte = false := by
  rw [List.all_eq_false]
  refine ⟨s[k], ?_, ?_⟩
  ·simp [ByteArray.getElem_eq_getElem_data]
  ·rw [okByte_iff]; omega
 rw [this, Bool.and_false]

theorem lineOk_long {s : ByteArray} (h : 200 < s.size) : lineOk s = false := by
 unfold lineOk; rw [decide_eq_false (by omega), Bool.false_and]

theorem lineOk_yes {s : ByteArray} {k : Nat} (h : OkUpto s k) (hk : s.size ≤ k) : lineOk s = decide (s.size ≤ 200) := by
 unfold lineOk
 have : s.data.toList.all okByte = true := by
  rw [List.all_eq_true]
  intro x hx
  obtain ⟨i, hi, rfl⟩ := List.getElem_of_mem hx
  have hi' : i < s.size := by simpa using hi
  have := h i hi' (by omega)
  simpa [ByteArray.getElem_eq_getElem_data] using this
 rw [this, Bool.and_true]

theorem ret_bool {a b : Bool} (h : a = b) : Ending.returned (.bool a) = .returned (.bool b) := by rw [h]

set_option maxHeartbeats 400000 in
theorem spec_LineValid (s : ByteArray) (w : World) (hs : s.size ≤ maxLen) :
  Calls Tryd.prog 59 #[.string s] w fun e w' => e = .returned (.bool (lineOk s)) ∧ w = w' := by
 unfold maxLen at hs
 go_enter Tryd.func59, Tryd.ntmps59
 go_wp2
 go_loop [3] (fun i => ∃ k : Nat, k ≤ s.size ∧ i = .int .i64 k ∧ OkUpto s k) (fun i => s.size - (intOf i).toNat)
 case atStart => exact ⟨0, by omega, rfl, OkUpto.zero s⟩
 case round =>
  obtain ⟨k, hk, rfl, hall⟩ := hrel
  by_cases hlt : k < s.size
  ·by_cases hb : 32 ≤ (s[k].toNat : Int) ∧ (s[k].toNat : Int) ≤ 126
   ·have hn := hall.succ hlt hb
    go_wp2
    go_round
    case rel => exact ⟨k + 1, by omega, by go_num, hn⟩
    case measure => simp [intOf]; omega
   ·have HF := Lib.hid (lineOk_no hlt hb)
    go_wp2
    all_goals (go_ret; exact ⟨ret_bool HF.out.symm, rfl⟩)
  ·have HF := Lib.hid (lineOk_yes hall (by omega))
   go_wp2
   go_ret
   exact ⟨ret_bool (by rw [HF.out]; exact decide_eq_decide.2 (by omega)), rfl⟩

set_option maxHeartbeats 400000 in
theorem impl_LineValid (s : ByteArray) (w : World) (hs : s.size ≤ maxLen) :
  Calls Tryd.prog 31 #[.string s] w fun e w' => e = .returned (.bool (lineOk s)) ∧ w = w' := by
 unfold maxLen at hs
 by_cases hl : 200 < s.size
 ·have HF := Lib.hid (lineOk_long hl)
  go_enter Tryd.func31, Tryd.ntmps31
  go_wp2
  go_ret
  exact ⟨ret_bool HF.out.symm, rfl⟩
 ·go_enter Tryd.func31, Tryd.ntmps31
  go_wp2
  go_loop [9] (fun i => ∃ k : Nat, k ≤ s.size ∧ i = .int .i64 k ∧ OkUpto s k) (fun i => s.size - (intOf i).toNat)
  case atStart => exact ⟨0, by omega, rfl, OkUpto.zero s⟩
  case round =>
   obtain ⟨k, hk, rfl, hall⟩ := hrel
   by_cases hlt : k < s.size
   ·by_cases hb : 32 ≤ (s[k].toNat : Int) ∧ (s[k].toNat : Int) ≤ 126
    ·have hn := hall.succ hlt hb
     go_wp2
     go_round
     case rel => exact ⟨k + 1, by omega, by go_num, hn⟩
     case measure => simp [intOf]; omega
    ·have HF := Lib.hid (lineOk_no hlt hb)
     go_wp2
     all_goals (go_ret; exact ⟨ret_bool HF.out.symm, rfl⟩)
   ·have HF := Lib.hid (lineOk_yes hall (by omega))
    go_wp2
    go_ret
    exact ⟨ret_bool (by rw [HF.out]; exact (decide_eq_true (by omega)).symm), rfl⟩

end Go.Proofs.YtlegeancmcmbaaaDoor

/- Data in memory: what cells read as, and in which blocks. Over any program. -/
namespace Go.Proofs.YtlegeancmcmbaaaDoor
open Go.RowKit

structure Shape (α : Type) where
 m : Nat
 R : World → List Value → α → List Nat → Prop
 frame : ∀ {w w' : World} {cs : List Value} {d : α} {fp : List Nat}, (∀ b ∈ fp, w'.heap[b]? = w.heap[b]?) → R w cs d fp → R w' cs d fp
 lt : ∀ {w : World} {cs : List Value} {d : α} {fp : List Nat}, R w cs d fp → ∀ b ∈ fp, b < w.heap.size

def sFlat {α : Type} (enc : α → Value) (ok : α → Prop) : Shape α where
 m := 1
 R _ cs d fp := cs = [enc d] ∧ ok d ∧ fp = []
 frame _ h := h
 lt h := by obtain ⟨_, _, rfl⟩ := h; simp

def okStr (s : ByteArray) : Prop := s.size ≤ maxLen
def okInt (n : Int) : Prop := -9223372036854775808 ≤ n ∧ n ≤ 9223372036854775807
def encByte (b : UInt8) : Value := .int .u8 b.toNat
def sStr : Shape ByteArray := sFlat Value.string okStr
def sByte : Shape UInt8 := sFlat encByte fun _ => True

def ElemAt (w : World) (b off m i : Nat) (es : List Value) : Prop := es.length = m ∧ ∀ j, j < m → w.cell? ⟨b, off + i * m + j, none⟩ = es[j]?

def RowR {α : Type} (S : Shape α) (w : World) (b off : Nat) (l : List α) (fps : Nat → List Nat) : Prop :=
 b < w.heap.size ∧ ∀ i, (h : i < l.length) → ∃ es, ElemAt w b off S.m i es ∧ S.R w es l[i] (fps i)

def SliceR {α : Type} (S : Shape α) (w : World) (cs : List Value) (l : List α) (fp : List Nat) : Prop :=
 ∃ a cap, cs = [.slice a l.length cap] ∧ l.length ≤ cap ∧ cap ≤ maxLen ∧
  ((l = [] ∧ fp = []) ∨ (0 < l.length ∧ ∃ b off fps, a = some ⟨b, off, none⟩ ∧ fp = b :: (List.range l.length).flatMap fps ∧ RowR S w b off l fps))

theorem ElemAt.frame {w w' : World} {b off m i : Nat} {es : List Value} (h : ElemAt w b off m i es) (hb : w'.heap[b]? = w.heap[b]?) : ElemAt w' b off m i es :=
 ⟨h.1, fun j hj => (World.cell?_of_block (w := w) (w' := w') (a := ⟨b, off + i * m + j, none⟩) hb).trans (h.2 j hj)⟩

def sSlice {α : Type} (S : Shape α) : Shape (List α) where
 m := 1
 R := SliceR S
 frame := by
  rintro w w' cs l fp hf ⟨a, cap, rfl, hc, hm, h⟩
  refine ⟨a, cap, rfl, hc, hm, ?_⟩
  rcases h with h | ⟨h0, b, off, fps, rfl, rfl, hb, he⟩
  ·exact .inl h
  ·refine .inr ⟨h0, b, off, fps, rfl, rfl, ?_, fun i hi => ?_⟩
   ·have h1 := hf b (by simp)
    have h2 : w'.heap[b]? ≠ none := by rw [h1]; simp [hb]
    exact Nat.lt_of_not_le fun h => h2 (by simp [h])
   ·obtain ⟨es, h1, h2⟩ := he i hi
    exact ⟨es, h1.frame (hf b (by simp)), S.frame (fun x hx => hf x (by simp; exact .inr ⟨i, hi, hx⟩)) h2⟩
 lt := by
  rintro w cs l fp ⟨a, cap, rfl, hc, hm, h⟩ x hx
  rcases h with ⟨_, rfl⟩ | ⟨h0, b, off, fps, rfl, rfl, hb, he⟩
  ·simp at hx
  ·simp at hx
   rcases hx with rfl | ⟨i, hi, hx⟩
   ·exact hb
   ·obtain ⟨es, h1, h2⟩ := he i hi
    exact S.lt h2 x hx

theorem Shape.below {α : Type} (S : Shape α) {w w' : World} {cs : List Value} {d : α} {fp : List Nat} (h : S.R w cs d fp) (hb : Below w.heap.size w w') : S.R w' cs d fp :=
 S.frame (fun b h' => hb.block b (S.lt h b h')) h

def Under (B : Nat) (fp : List Nat) : Prop := ∀ b ∈ fp, b < B

theorem Shape.under {α : Type} (S : Shape α) {w w' : World} {B : Nat} {cs : List Value} {d : α} {fp : List Nat} (h : S.R w cs d fp) (hu : Under B fp) (hb : Below B w w') : S.R w' cs d fp :=
 S.frame (fun b h' => hb.block b (hu b h')) h

theorem open_flat {α : Type} {enc : α → Value} {ok : α → Prop} {w : World} {v : Value} {l : List α} {fp : List Nat} (h : (sSlice (sFlat enc ok)).R w [v] l fp) :
  ∃ a cap, v = .slice a l.length cap ∧ l.length ≤ cap ∧ cap ≤ maxLen ∧ (0 < l.length → ∃ b off, a = some ⟨b, off, none⟩ ∧ b < w.heap.size ∧ b ∈ fp ∧ ∀ i, (hi : i < l.length) → w.cell? ⟨b, off + i, none⟩ = some (enc l[i])) ∧ ∀ i, (hi : i < l.length) → ok l[i] := by
 obtain ⟨a, cap, hv, hc, hm, h⟩ := h
 refine ⟨a, cap, by simpa using hv, hc, hm, fun h0 => ?_, fun i hi => ?_⟩
 ·rcases h with ⟨rfl, _⟩ | ⟨_, b, off, fps, rfl, rfl, hb, he⟩
  ·simp at h0
  ·refine ⟨b, off, rfl, hb, by simp, fun i hi => ?_⟩
   obtain ⟨es, h1, h2, _, _⟩ := he i hi
   have := h1.2 0 (by simp [sFlat])
   rw [h2] at this
   simpa [sFlat] using this
 ·rcases h with ⟨rfl, _⟩ | ⟨_, b, off, fps, rfl, rfl, hb, he⟩
  ·simp at hi
  ·obtain ⟨es, h1, h2, h3, _⟩ := he i hi
   exact h3

theorem open_strs {w : World} {v : Value} {l : List ByteArray} {fp : List Nat} (h : (sSlice sStr).R w [v] l fp) :
  ∃ a cap, v = .slice a l.length cap ∧ l.length ≤ cap ∧ cap ≤ maxLen ∧ (0 < l.length → ∃ b off, a = some ⟨b, off, none⟩ ∧ b < w.heap.size ∧ b ∈ fp ∧ ∀ i, (hi : i < l.length) → w.cell? ⟨b, off + i, none⟩ = some (.string l[i])) ∧ ∀ i, (hi : i < l.length) → l[i].size ≤ maxLen :=
 open_flat h

def Own (w : World) (lo : Nat) (fp : List Nat) : Prop := fp.Nodup ∧ ∀ b ∈ fp, lo ≤ b ∧ ∃ cur e, w.heap[b]? = some (.cells cur e (0, 0))

theorem Own.nil (w : World) (lo : Nat) : Own w lo [] := ⟨List.nodup_nil, by simp⟩

structure Kept (fp : List Nat) (w w' : World) : Prop where
 os : w'.os = w.os
 tape : w'.tape = w.tape
 output : w'.output = w.output
 size : w.heap.size ≤ w'.heap.size
 block : ∀ k, k < w.heap.size → k ∉ fp → w'.heap[k]? = w.heap[k]?

theorem Kept.refl (fp : List Nat) (w : World) : Kept fp w w := ⟨rfl, rfl, rfl, Nat.le_refl _, fun _ _ _ => rfl⟩
theorem Kept.trans {fp : List Nat} {a b c : World} (h : Kept fp a b) (k : Kept fp b c) : Kept fp a c :=
 ⟨k.os.trans h.os, k.tape.trans h.tape, k.output.trans h.output, Nat.le_trans h.size k.size, fun i hi hn => (k.block i (Nat.lt_of_lt_of_le hi h.size) hn).trans (h.block i hi hn)⟩
theorem Kept.of_below {fp : List Nat} {a b : World} (h : Below a.heap.size a b) : Kept fp a b := ⟨h.os, h.tape, h.output, h.size, fun k hk _ => h.block k hk⟩
theorem Kept.setCell {fp : List Nat} {a w : World} (h : Kept fp a w) {p : Addr} (hp : p.block ∈ fp) (u : Value) : Kept fp a (w.setCell p u) :=
 h.trans ⟨rfl, rfl, rfl, by simp [World.setCell], fun k hk hn => Below.heap_setCell _ _ _ _ (by rintro rfl; exact hn hp)⟩
theorem Kept.drewN {fp : List Nat} {a w : World} (h : Kept fp a w) (n : Nat) : Kept fp a (w.drewN n) := ⟨h.os, h.tape, h.output, h.size, h.block⟩
theorem Kept.below {fp : List Nat} {lo : Nat} {a w : World} (h : Kept fp a w) (hlo : ∀ b ∈ fp, lo ≤ b) (hs : lo ≤ a.heap.size) : Below lo a w :=
 ⟨h.os, h.tape, h.output, h.size, fun k hk => h.block k (by omega) fun hx => by have := hlo k hx; omega⟩

theorem Shape.kept {α : Type} (S : Shape α) {w w' : World} {cs : List Value} {d : α} {fp fp' : List Nat} (h : S.R w cs d fp') (hd : ∀ b ∈ fp', b ∉ fp) (hk : Kept fp w w') : S.R w' cs d fp' :=
 S.frame (fun b h' => hk.block b (S.lt h b h') (hd b h')) h
theorem Own.kept {w w' : World} {lo : Nat} {fp fp' : List Nat} (h : Own w lo fp') (hd : ∀ b ∈ fp', b ∉ fp) (hk : Kept fp w w') : Own w' lo fp' :=
 ⟨h.1, fun b hb => by
  obtain ⟨h1, cur, e, h2⟩ := h.2 b hb
  exact ⟨h1, cur, e, (hk.block b (Array.getElem?_eq_some_iff.1 h2).1 (hd b hb)).trans h2⟩⟩
theorem Own.below {w w' : World} {lo B : Nat} {fp : List Nat} (h : Own w lo fp) (hu : ∀ b ∈ fp, b < B) (hb : Below B w w') : Own w' lo fp :=
 ⟨h.1, fun b hb' => by
  obtain ⟨h1, cur, e, h2⟩ := h.2 b hb'
  exact ⟨h1, cur, e, (hb.block b (hu b hb')).trans h2⟩⟩
theorem Own.lt {w : World} {lo : Nat} {fp : List Nat} (h : Own w lo fp) : ∀ b ∈ fp, b < w.heap.size := fun b hb => by
 obtain ⟨_, cur, e, h2⟩ := h.2 b hb
 exact (Array.getElem?_eq_some_iff.1 h2).1
theorem Own.grow {w w' : World} {lo : Nat} {fp : List Nat} (h : Own w lo fp) (hb : Below w.heap.size w w') : Own w' lo fp := h.below h.lt hb
theorem Own.frozen {w : World} {lo : Nat} {fp : List Nat} (h : Own w lo fp) {b : Nat} (hb : b ∈ fp) (j : Nat) : w.frozen? ⟨b, j, none⟩ = false := by
 obtain ⟨_, cur, e, h2⟩ := h.2 b hb
 exact frozen_of_row w b j cur e h2
theorem Own.setCell {w : World} {lo : Nat} {fp : List Nat} (h : Own w lo fp) (p : Addr) (u : Value) : Own (w.setCell p u) lo fp :=
 ⟨h.1, fun b hb => by
  obtain ⟨h1, cur, e, h2⟩ := h.2 b hb
  by_cases hp : b = p.block
  ·subst hp
   refine ⟨h1, if p.spot.isSome then cur else cur.setIfInBounds p.off u, e, ?_⟩
   simp [World.setCell, Array.getElem?_modify, h2]
  ·exact ⟨h1, cur, e, (Below.heap_setCell _ _ _ _ hp).trans h2⟩⟩

end Go.Proofs.YtlegeancmcmbaaaDoor

/- Slices of strings: validity, and the law's own helpers. -/
namespace Go.Proofs.YtlegeancmcmbaaaDoor
open Go.RowKit
def AllUpto {α : Type} (p : α → Bool) (l : List α) (k : Nat) : Prop := ∀ j, (h : j < l.length) → j < k → p l[j] = true
theorem AllUpto.zero {α : Type} (p : α → Bool) (l : List α) : AllUpto p l 0 := by intro j h; omega
theorem AllUpto.succ {α : Type} {p : α → Bool} {l : List α} {k : Nat} (h : AllUpto p l k) (hk : k < l.length) (hb : p l[k] = true) : AllUpto p l (k + 1) := by
 intro j hj hjk
 by_cases e : j = k
 ·subst e; exact hb
 ·exact h j hj (by omega)
theorem all_no {α : Type} {p : α → Bool} {l : List α} {k : Nat} (hk : k < l.length) (hb : p l[k] = false) : l.all p = false := by
 rw [List.all_eq_false]
 exact ⟨l[k], List.getElem_mem hk, by simp [hb]⟩
theorem all_yes {α : Type} {p : α → Bool} {l : List α} {k : Nat} (h : AllUpto p l k) (hk : l.length ≤ k) : l.all p = true := by
 rw [List.all_eq_true]
 intro x hx
 obtain ⟨i, hi, rfl⟩ := List.getElem_of_mem hx
 exact h i hi (by omega)

def EqUpto {α : Type} (l1 l2 : List α) (k : Nat) : Prop := ∀ j, (h : j < l1.length) → (h' : j < l2.length) → j < k → l1[j] = l2[j]
theorem EqUpto.succ {α : Type} {l1 l2 : List α} {k : Nat} (h : EqUpto l1 l2 k) (h1 : k < l1.length) (h2 : k < l2.length) (e : l1[k] = l2[k]) : EqUpto l1 l2 (k + 1) := by
 intro j hj hj' hjk
 by_cases e' : j = k
 ·subst e'; exact e
 ·exact h j hj hj' (by omega)
theorem EqUpto.eq {α : Type} [DecidableEq α] {l1 l2 : List α} {k : Nat} (h : EqUpto l1 l2 k) (hl : l1.length = l2.length) (hk : l1.length ≤ k) : decide (l1 = l2) = true := by
 rw [decide_eq_true_eq]
 exact List.ext_getElem hl fun i h1 h2 => h i h1 h2 (by omega)
theorem eq_no {α : Type} [DecidableEq α] {l1 l2 : List α} {k : Nat} (h1 : k < l1.length) (h2 : k < l2.length) (e : l1[k] ≠ l2[k]) : decide (l1 = l2) = false := by
 rw [decide_eq_false_iff_not]; rintro rfl; exact e rfl

theorem bytes_beq {s t : ByteArray} (h : s = t) : (s.toList == t.toList) = true := by rw [h]; exact beq_self_eq_true _
theorem bytes_bne {s t : ByteArray} (h : s ≠ t) : (s.toList == t.toList) = false := by
 rw [beq_eq_false_iff_ne]
 intro e
 rw [ByteArray.toList_eq, ByteArray.toList_eq] at e
 exact h (Go.WideShapes.bytes_inj e)

end Go.Proofs.YtlegeancmcmbaaaDoor

/- Copies of slices of strings. -/
namespace Go.Proofs.YtlegeancmcmbaaaDoor
open Go.RowKit

def TI (P : Program) (t e : TypeId) (z : Value) (size bytes : Nat) : Prop :=
 P.underlying t = some (.slice e) ∧ (P.info? e).map (fun i => (i.zero, i.size, i.bytes)) = some (some z, size, bytes)

theorem ti27 : TI Tryd.prog 45 9 (.string ⟨#[]⟩) 1 16 := ⟨by kernel_rfl, by kernel_rfl⟩

theorem flat_of_own {α : Type} {enc : α → Value} {ok : α → Prop} {w : World} {base e g n cap : Nat} {l : List α} (h : w.ownsRow base e 1 (.slice (some ⟨g, 0, none⟩) n cap) n (l.map enc)) (hs : ∀ i, (hi : i < l.length) → ok l[i]) :
  ∃ fp, (sSlice (sFlat enc ok)).R w [.slice (some ⟨g, 0, none⟩) n cap] l fp ∧ Own w base fp := by
 have hn : l.length = n := by have := h.1; simpa using this
 subst hn
 rcases h.2 with ⟨h', _⟩ | ⟨g', cap', cur, h', hb, hg, hnc, hcm, hcs, htake⟩
 ·simp at h'
 simp only [Value.slice.injEq, Option.some.injEq, Addr.mk.injEq, and_true, true_and] at h'
 obtain ⟨rfl, rfl⟩ := h'
 by_cases h0 : l.length = 0
 ·exact ⟨[], ⟨_, _, rfl, hnc, hcm, .inl ⟨by simpa using h0, rfl⟩⟩, Own.nil _ _⟩
 ·refine ⟨g :: (List.range l.length).flatMap fun _ => [], ⟨_, _, rfl, hnc, hcm, .inr ⟨by omega, g, 0, fun _ => [], rfl, rfl, (h.lt g rfl).2, fun i hi => ⟨[enc l[i]], ⟨rfl, fun j hj => ?_⟩, rfl, hs i hi, rfl⟩⟩⟩, ?_⟩
  ·simp [sFlat] at hj
   subst hj
   have := h.cellAt i (by omega)
   simp only [List.getElem?_map, List.getElem?_eq_getElem hi, Option.map_some] at this
   simpa [sFlat] using this
  ·have e1 : (List.range l.length).flatMap (fun _ => ([] : List Nat)) = [] := by simp
   rw [e1]
   exact ⟨by simp, by simp; exact ⟨hb, _, _, hg⟩⟩

theorem grown_trans {a b c : World} {r : Option Nat} (h : a.grownBy b r) (k : b.grownBy c r) : a.grownBy c r :=
 ⟨k.os.trans h.os, k.tape.trans h.tape, k.output.trans h.output, Nat.le_trans h.size k.size, fun i hi hn => (k.block i (Nat.lt_of_lt_of_le hi h.size) hn).trans (h.block i hi hn)⟩

theorem wp_append_one {P : Program} {t e : TypeId} {z : Value} {bytes : Nat} (ti : TI P t e z 1 bytes) (hzs : z.cells.size = 1) (w0 : World) (x : Value) (hx1 : x.oneCell' = true) {ops : Array Oper} {rest : List Oper} {o : Oper} {a : Act} {Q : Exit → Act → World → Prop}
  (hg : o.guard = none) (s y : Operand) (ho : o.op = .call { callee := .builtin .append, args := #[s, y], argTypes := #[t, t] })
  (base : Nat) (v : Value) (n : Nat) (xs : List Value) (hs : a.eval s = v) (hown : w0.ownsRow base e 1 v n xs)
  (hy : a.eval y = .slice (some ⟨w0.heap.size, 0, none⟩) 1 1)
  (h63 : n + 1 ≤ maxLen) (hbytes : (n + 1) * bytes ≤ 140737488355328) (hbase : base ≤ w0.heap.size)
  (h : ∀ v' w', w'.ownsRow base e 1 v' (n + 1) (xs ++ [x]) → w0.grownBy w' v.ownBlock → wpList P ops Q rest (a.put o.dst v') w') : wpList P ops Q (o :: rest) a (w0.alloc (.cells #[x] e)) := by
 obtain ⟨i, hi, hz0, hz1, hz2⟩ := info_parts ti.2
 refine wpList_append_own _ hg s y t ho base e i z 1 bytes ti.1 hi hz0 hz1 hz2 hzs (by decide) v n xs hs (hown.alloc _) ⟨w0.heap.size, 0, none⟩ 1 1 [x] hy rfl ?_ (by simp [hx1]) h63 hbytes (by simp; omega) fun v' w' a b _ => h v' w' a (grown_trans (World.grownBy_alloc _ _ _) b)
 intro j u hj
 have hj' : j < 1 := by have := (List.getElem?_eq_some_iff.1 hj).1; simpa using this
 obtain rfl : j = 0 := by omega
 simp at hj
 subst hj
 exact World.cell?_alloc_at _ _ _ _ rfl

theorem own_flat {α : Type} {enc : α → Value} {ok : α → Prop} {w : World} {base e n : Nat} {v : Value} {l : List α} (h : w.ownsRow base e 1 v n (l.map enc)) (hs : ∀ i, (hi : i < l.length) → ok l[i]) :
  ∃ fp, (sSlice (sFlat enc ok)).R w [v] l fp ∧ Own w base fp ∧ ∀ b ∈ fp, v.ownBlock = some b := by
 have hn : l.length = n := by have := h.1; simpa using this
 rcases h.2 with ⟨rfl, h0⟩ | ⟨g, cap, cur, rfl, hb, hg, hnc, hcm, hcs, htake⟩
 ·obtain rfl : l = [] := by simpa using hn.trans h0
  exact ⟨[], ⟨none, 0, rfl, by simp, by simp, .inl ⟨rfl, rfl⟩⟩, Own.nil _ _, by simp⟩
 ·obtain ⟨fp, h1, h2⟩ := flat_of_own (ok := ok) h hs
  refine ⟨fp, h1, h2, ?_⟩
  obtain ⟨a, cap', hv, _, _, h3⟩ := h1
  rcases h3 with ⟨_, rfl⟩ | ⟨_, b, off, fps, rfl, rfl, _, he⟩
  ·simp
  ·simp only [List.cons.injEq, Value.slice.injEq, Option.some.injEq, Addr.mk.injEq, and_true] at hv
   obtain ⟨⟨rfl, _⟩, _⟩ := hv
   intro x hx
   rcases List.mem_cons.1 hx with rfl | hx
   ·rfl
   ·exfalso
    obtain ⟨i, hi, hx⟩ := List.mem_flatMap.1 hx
    obtain ⟨es, _, _, _, h4⟩ := he i (by simpa using hi)
    rw [h4] at hx
    simp at hx

theorem slice_empty {α : Type} (S : Shape α) (w : World) (a : Option Addr) (cap : Nat) (h : cap ≤ maxLen) : (sSlice S).R w [.slice a 0 cap] [] [] :=
 ⟨a, cap, rfl, by simp, h, .inl ⟨rfl, rfl⟩⟩

theorem Own.app {w : World} {lo : Nat} {fp1 fp2 : List Nat} (h1 : Own w lo fp1) (h2 : Own w lo fp2) (hd : ∀ b ∈ fp1, b ∉ fp2) : Own w lo (fp1 ++ fp2) :=
 ⟨List.nodup_append.2 ⟨h1.1, h2.1, fun a ha b hb e => hd a ha (e ▸ hb)⟩, fun b hb => (List.mem_append.1 hb).elim (h1.2 b) (h2.2 b)⟩

end Go.Proofs.YtlegeancmcmbaaaDoor

/- The law's own marks: their texts. -/
namespace Go.Proofs.YtlegeancmcmbaaaDoor
open Go.RowKit
end Go.Proofs.YtlegeancmcmbaaaDoor
