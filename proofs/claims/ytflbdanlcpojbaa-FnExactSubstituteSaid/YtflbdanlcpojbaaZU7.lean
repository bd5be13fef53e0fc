/- Texts that the proof of U stands on, in one file. -/
import Derived.Test.YtflbdanlcpojbaaZU1
import Derived.Orders
import Derived.Test.YtflbdanlcpojbaaZU2
import Derived.IntWalk
import Derived.Outline
import Derived.Laws.BitsAllLaws
import Derived.Deep.QuietTactic
import Derived.BigQuiet
import Derived.Laws.Concat
import Derived.Lib.AppendStr
import Derived.Laws.IdiomStrings
import Derived.Test.YtflbdanlcpojbaaZU5
import Derived.Test.YtflbdanlcpojbaaZU4
import Derived.Test.YtflbdanlcpojbaaZU3
set_option linter.unusedVariables false
set_option linter.unusedSimpArgs false
/- A region that draws its order, walked by what its operations leave: in whatever order they come up, each finds what those before it have left. Over any program. -/
namespace Go.Proofs.Ytflbdanlcpojbaa
open Go.RowKit

/-- Go on with K; nothing else may happen. -/
def Sw (K : Act → World → Prop) : Exit → Act → World → Prop
  | .normal, a, w => K a w
  | _, _, _ => False
theorem Sw.noOut {K : Act → World → Prop} : ¬ LetsOut (Sw K) := fun ⟨_, _, h⟩ => h
theorem sw_wp {P : Program} {o : Oper} {a : Act} {w : World} {K : Act → World → Prop} {Q : Exit → Act → World → Prop} (h : o.wp P a w K (Sw K)) : o.wp P a w K Q := by
  unfold Oper.wp at *
  generalize (execOp a.eval o).run P w = r at *
  cases r with
  | ok n w' =>
    cases n <;> simp only [Oper.upon] at h ⊢ <;>
      first
        | exact h
        | exact Calls.mono h (fun e w'' he => by cases e <;> first | exact he | exact absurd he id | exact absurd he Sw.noOut)
        | exact Rows.mono h (fun _ _ he => he)
  | halt x w' =>
    cases x <;> simp only [Oper.upon] at h ⊢
    exact absurd h id
theorem sw_op {P : Program} {ops : Array Oper} {i : Nat} {o : Oper} {a : Act} {w : World} {K : Act → World → Prop} {Q : Exit → Act → World → Prop} (hi : ops[i]? = some o) (h : wpList P ops (Sw K) [o] a w) : wpOp P ops Q i K a w := by
  unfold wpOp
  rw [hi]
  unfold wpList at h
  show if _ then _ else _
  split
  · rename_i hw
    rw [if_pos hw] at h
    rcases h with h | ⟨_, h⟩
    · exact .inl (sw_wp h)
    · exact absurd h Sw.noOut
  · rename_i hw
    rw [if_neg hw] at h
    exact h

/-- The slots that operations leave, filled. -/
def fill (a : Act) : List (Option Nat) → List Value → Act
  | d :: ds, x :: xs => fill (a.put d x) ds xs
  | _, _ => a
theorem put_twice (a : Act) (d : Nat) (x v : Value) : (a.put (some d) x).put (some d) v = a.put (some d) v := by
  simp [Act.put, Array.setIfInBounds_setIfInBounds]
theorem put_swap (a : Act) (d e : Option Nat) (x v : Value) (h : d ≠ e ∨ d = none) : (a.put d x).put e v = (a.put e v).put d x := by
  cases d with
  | none => rfl
  | some d =>
    cases e with
    | none => rfl
    | some e =>
      have hne : d ≠ e := by
        rcases h with h | h
        · intro hh; exact h (by rw [hh])
        · cases h
      simp only [Act.put]
      rw [Array.setIfInBounds_comm _ _ hne]
/-- No slot is left twice. -/
def apartDsts : List (Option Nat) → Bool
  | [] => true
  | d :: ds => (d == none || !ds.contains d) && apartDsts ds
theorem fill_swap (ds : List (Option Nat)) : ∀ (a : Act) (xs : List Value) (d : Option Nat) (v : Value), (d = none ∨ d ∉ ds) → (fill a ds xs).put d v = fill (a.put d v) ds xs := by
  induction ds with
  | nil => intro a xs d v _; rfl
  | cons e ds ih =>
    intro a xs d v h
    cases xs with
    | nil => rfl
    | cons x xs =>
      show (fill (a.put e x) ds xs).put d v = fill ((a.put d v).put e x) ds xs
      rw [ih _ _ _ _ (by rcases h with h | h; exact .inl h; exact .inr (fun hh => h (by simp [hh])))]
      rw [put_swap a e d x v (by rcases h with rfl | h; · cases e <;> simp
                                 · left; rintro rfl; exact h (by simp))]
theorem fill_put (ds : List (Option Nat)) (hd : apartDsts ds = true) : ∀ (a : Act) (xs : List Value) (i : Nat) (d : Option Nat) (v : Value), xs.length = ds.length → ds[i]? = some d → (fill a ds xs).put d v = fill a ds (xs.set i v) := by
  induction ds with
  | nil => intro a xs i d v _ h; simp at h
  | cons e ds ih =>
    unfold apartDsts at hd
    rw [Bool.and_eq_true, Bool.or_eq_true] at hd
    intro a xs i d v hl h
    cases xs with
    | nil => simp at hl
    | cons x xs =>
      cases i with
      | zero =>
        simp only [List.getElem?_cons_zero, Option.some.injEq] at h
        subst h
        show (fill (a.put e x) ds xs).put e v = fill (a.put e v) ds xs
        rw [fill_swap ds _ _ _ _ (by rcases hd.1 with h | h; · left; simpa using h
                                     · right; simpa using h)]
        cases e with
        | none => rfl
        | some e => rw [put_twice]
      | succ i =>
        show (fill (a.put e x) ds xs).put d v = fill (a.put e x) ds (xs.set i v)
        exact ih hd.2 _ _ _ _ _ (by simpa using hl) (by simpa using h)
theorem fill_self (ds : List (Option Nat)) : ∀ (a : Act), fill a ds (ds.map fun d => match d with | some t => a.tmps.getD t undef | none => undef) = a := by
  induction ds with
  | nil => intro a; rfl
  | cons d ds ih =>
    intro a
    have e : a.put d (match d with | some t => a.tmps.getD t undef | none => undef) = a := by
      cases d with
      | none => rfl
      | some t =>
        obtain ⟨T, D⟩ := a
        simp only [Act.put, Act.mk.injEq, and_true]
        apply Array.ext_getElem?
        intro j
        rw [Array.getElem?_setIfInBounds]
        split
        · rename_i h
          subst h
          split
          · rename_i h2; simp [Array.getD, h2]
          · rename_i h2; rw [Array.getElem?_eq_none (by omega)]
        · rfl
    show fill (a.put d _) ds _ = a
    rw [e]
    exact ih a

def regionOk (ops : Array Oper) : Bool :=
  apartDsts (ops.toList.map (·.dst)) && (List.range ops.size).all fun i => ((ops[i]?).map fun o => o.after.all fun e => decide (e.on < i)).getD false

def At (Ps : List (Value → World → Prop)) (i : Nat) (v : Value) (w : World) : Prop := ∀ p, Ps[i]? = some p → p v w
def origs (a : Act) (ds : List (Option Nat)) : List Value := ds.map fun d => match d with | some t => a.tmps.getD t undef | none => undef

/-- All other operations must have come up before this one. -/
def covers (o : Oper) (i n : Nat) : Bool := (List.range n).all fun j => j == i || o.after.any fun e => Region.binds .any e && e.on == j
/-- What an operation finds, and what it owes. -/
def StepOk (P : Program) (ops : Array Oper) (Rl : World → World → Prop) (Ps : List (Value → World → Prop)) (J : Nat → World → Prop) (a : Act) (i : Nat) (o : Oper) : Prop :=
  ∀ (xs : List Value) (w' : World) (m : Nat), xs.length = ops.size → m < ops.size → J m w' → (covers o i ops.size = true → m + 1 = ops.size) →
    (∀ e ∈ o.after, Region.binds .any e = true → ∀ v, xs[e.on]? = some v → At Ps e.on v w') →
    (∀ (j : Nat) (o' : Oper), ops[j]? = some o' → (j = i ∨ ∃ e ∈ o'.after, Region.binds .any e = true ∧ e.on = i) → xs[j]? = (origs a (ops.toList.map (·.dst)))[j]?) →
    ∀ K : Act → World → Prop, (∀ v w'', At Ps i v w'' → Rl w' w'' → J (m + 1) w'' → K ((fill a (ops.toList.map (·.dst)) xs).put o.dst v) w'') →
      wpList P ops (Sw K) [o] (fill a (ops.toList.map (·.dst)) xs) w'

def cnt (n : Nat) (L : Array Bool) : Nat := (List.range n).countP fun i => L.getD i false
theorem cnt_set {n : Nat} {L : Array Bool} {i : Nat} (hi : i < n) (hs : L.size = n) (h : L.getD i true = false) : cnt n (L.setIfInBounds i true) = cnt n L + 1 := by
  have h' : L.getD i false = false := by
    simp only [Array.getD] at h ⊢
    split at h
    · rename_i h2; rw [dif_pos h2]; exact h
    · cases h
  have key : ∀ l : List Nat, l.Nodup → (l.countP fun j => (L.setIfInBounds i true).getD j false) = (l.countP fun j => L.getD j false) + (if i ∈ l then 1 else 0) := by
    intro l
    induction l with
    | nil => intro _; simp
    | cons x l ih =>
      intro hn
      rw [List.nodup_cons] at hn
      rw [List.countP_cons, List.countP_cons, ih hn.2]
      by_cases e : x = i
      · subst e
        have h1 : (L.setIfInBounds x true).getD x false = true := by simp [Array.getD, hs, hi]
        rw [if_neg hn.1, h1, h', if_pos (by simp)]; simp
      · have h1 : (L.setIfInBounds i true).getD x false = L.getD x false := by
          have e' : ¬ i = x := fun h => e h.symm
          simp only [Array.getD, Array.size_setIfInBounds]
          split
          · rename_i hx
            show (L.setIfInBounds i true)[x]'_ = L[x]'_
            rw [Array.getElem_setIfInBounds (by simpa using hx), if_neg e']
          · rfl
        rw [h1]
        have h2 : (i ∈ x :: l) ↔ i ∈ l := by simp [Ne.symm e]
        simp only [h2]; omega
  unfold cnt
  rw [key _ List.nodup_range, if_pos (by simpa using hi)]
theorem cnt_full {n : Nat} {L : Array Bool} (h : ∀ i, i < n → L.getD i false = true) : cnt n L = n := by
  unfold cnt
  rw [List.countP_eq_length.2 (by intro i hi; exact h i (by simpa using hi)), List.length_range]
theorem cnt_lt {n : Nat} {L : Array Bool} {i : Nat} (hi : i < n) (h : L.getD i false = false) : cnt n L < n := by
  unfold cnt
  have h1 := List.countP_le_length (p := fun i => L.getD i false) (l := List.range n)
  have h2 : ¬ (List.range n).countP (fun i => L.getD i false) = (List.range n).length := fun e => by
    have := List.countP_eq_length.1 e i (by simpa using hi)
    simp [h] at this
  rw [List.length_range] at h1 h2
  omega

theorem regionOk_after {ops : Array Oper} (h : regionOk ops = true) {i : Nat} {o : Oper} (hi : ops[i]? = some o) : ∀ e ∈ o.after, e.on < i := by
  unfold regionOk at h
  rw [Bool.and_eq_true, List.all_eq_true] at h
  have hlt := (Array.getElem?_eq_some_iff.1 hi).1
  have := h.2 i (by simpa using hlt)
  rw [hi] at this
  simp only [Option.map_some, Option.getD_some, Array.all_eq_true'] at this
  intro e he
  simpa using this e he

structure RInv (ops : Array Oper) (Rl : World → World → Prop) (Ps : List (Value → World → Prop)) (J : Nat → World → Prop) (a : Act) (L : Array Bool) (b : Act) (w : World) (xs : List Value) : Prop where
  size : L.size = ops.size
  len : xs.length = ops.size
  act : b = fill a (ops.toList.map (·.dst)) xs
  j : J (cnt ops.size L) w
  facts : ∀ i v, L.getD i false = true → xs[i]? = some v → At Ps i v w
  old : ∀ i, i < ops.size → L.getD i false = false → xs[i]? = (origs a (ops.toList.map (·.dst)))[i]?
  closed : ∀ i o, ops[i]? = some o → L.getD i false = true → ∀ e ∈ o.after, Region.binds .any e = true → L.getD e.on false = true

theorem getD_ft {L : Array Bool} {i : Nat} (h : L.getD i true = false) : L.getD i false = false := by
  simp only [Array.getD] at h ⊢
  split at h
  · rename_i h2; rw [dif_pos h2]; exact h
  · cases h
theorem getD_tf {L : Array Bool} {i : Nat} (hi : i < L.size) (h : L.getD i false = false) : L.getD i true = false := by
  simp only [Array.getD] at h ⊢
  rw [dif_pos hi] at h ⊢; exact h
theorem getD_put {L : Array Bool} {i j : Nat} (hi : i < L.size) : (L.setIfInBounds i true).getD j false = (decide (j = i) || L.getD j false) := by
  simp only [Array.getD, Array.size_setIfInBounds]
  by_cases e : j = i
  · subst e; rw [dif_pos hi]; simp
  · have e' : ¬ i = j := fun h => e h.symm
    split
    · rename_i hx
      show (L.setIfInBounds i true)[j]'_ = _
      rw [Array.getElem_setIfInBounds (by simpa using hx), if_neg e']
      simp [e]
    · simp [e]

theorem wp_region_types {P : Program} {ops : Array Oper} {Q : Exit → Act → World → Prop} {id : Nat} {a : Act} {w : World} (hm : P.follows .mixedOrders = true) (hok : regionOk ops = true)
    (Rl : World → World → Prop) (Ps : List (Value → World → Prop)) (hst : ∀ p ∈ Ps, ∀ v w w', Rl w w' → p v w → p v w') (J : Nat → World → Prop)
    (hJ : J 0 { w with drawn := w.drawn + 1 })
    (step : ∀ i o, ops[i]? = some o → StepOk P ops Rl Ps J a i o)
    (done : ∀ (xs : List Value) (w' : World), xs.length = ops.size → (∀ i v, xs[i]? = some v → At Ps i v w') → J ops.size w' → Q .normal (fill a (ops.toList.map (·.dst)) xs) w') :
    (Code.region id ops true).wp P Q a w := by
  refine wp_region_any hm ?_
  have hd : apartDsts (ops.toList.map (·.dst)) = true := by unfold regionOk at hok; rw [Bool.and_eq_true] at hok; exact hok.1
  have hlist : ∀ (L : Array Bool), L.size = ops.size → Region.ready .any ops L = [] → ∀ i, i < ops.size → L.getD i false = true := by
    intro L hL hr i
    induction i using Nat.strongRecOn with
    | ind i ih =>
      intro hi
      cases hb : L.getD i false with
      | true => rfl
      | false =>
        exfalso
        have hm : i ∈ Region.ready .any ops L := by
          rw [mem_ready]
          exact ⟨getD_tf (by omega) hb, ops[i], Array.getElem?_eq_getElem hi, fun e he _ => by
            have hlt := regionOk_after hok (Array.getElem?_eq_getElem hi) e he
            exact ih e.on hlt (by omega)⟩
        rw [hr] at hm
        cases hm
  have main : ∀ (fuel : Nat) (L : Array Bool) (b : Act) (w' : World) (xs : List Value), fuel + cnt ops.size L = ops.size → RInv ops Rl Ps J a L b w' xs → wpAny P .any ops Q fuel L b w' := by
    intro fuel
    induction fuel with
    | zero =>
      intro L b w' xs hf I
      have hall : ∀ i, i < ops.size → L.getD i false = true := fun i hi => by
        cases hb : L.getD i false with
        | true => rfl
        | false => have := cnt_lt hi hb; omega
      refine ⟨?_, ?_⟩
      · cases hr : Region.ready .any ops L with
        | nil => rfl
        | cons i r =>
          have hi : i ∈ Region.ready .any ops L := by rw [hr]; simp
          rw [mem_ready] at hi
          obtain ⟨h0, o, ho, _⟩ := hi
          have := hall i (Array.getElem?_eq_some_iff.1 ho).1
          rw [getD_ft h0] at this
          cases this
      · rw [I.act]
        refine done xs w' I.len (fun i v hv => I.facts i v (hall i ?_) hv) (by have := I.j; rwa [cnt_full hall] at this)
        have := (List.getElem?_eq_some_iff.1 hv).1
        rw [I.len] at this; exact this
    | succ fuel ih =>
      intro L b w' xs hf I
      refine ⟨fun hr => ?_, fun i hi => ?_⟩
      · have hall := hlist L I.size hr
        rw [I.act]
        refine done xs w' I.len (fun i v hv => I.facts i v (hall i ?_) hv) (by have := I.j; rwa [cnt_full hall] at this)
        have := (List.getElem?_eq_some_iff.1 hv).1
        rw [I.len] at this; exact this
      · obtain ⟨h0, o, ho, hafter⟩ := mem_ready.1 hi
        have hlt := (Array.getElem?_eq_some_iff.1 ho).1
        refine sw_op ho ?_
        rw [I.act]
        refine step i o ho xs w' (cnt ops.size L) I.len (by have := cnt_lt hlt (getD_ft h0); exact this) I.j (fun hcov => ?_) (fun e he hb v hv => I.facts e.on v (hafter e he hb) hv) (fun j o' ho' hj => ?_) _ (fun v w'' h1 h2 h3 => ?_)
        · rw [← cnt_set hlt I.size h0]
          refine cnt_full fun j hj => ?_
          rw [getD_put (by rw [I.size]; exact hlt)]
          unfold covers at hcov
          rw [List.all_eq_true] at hcov
          have := hcov j (by simpa using hj)
          rw [Bool.or_eq_true, beq_iff_eq] at this
          rcases this with e | e
          · subst e; simp
          · rw [Array.any_eq_true'] at e
            obtain ⟨d, hd1, hd2⟩ := e
            rw [Bool.and_eq_true, beq_iff_eq] at hd2
            rw [← hd2.2, hafter d hd1 hd2.1, Bool.or_true]
        · refine I.old j (Array.getElem?_eq_some_iff.1 ho').1 ?_
          rcases hj with rfl | ⟨e, he, hb, hon⟩
          · exact getD_ft h0
          · cases hL : L.getD j false with
            | false => rfl
            | true =>
              have := I.closed j o' ho' hL e he hb
              rw [hon, getD_ft h0] at this
              cases this
        · have hds : (ops.toList.map (·.dst))[i]? = some o.dst := by simp [ho]
          rw [fill_put _ hd _ _ i _ _ (by simpa using I.len) hds]
          have hset : cnt ops.size (L.setIfInBounds i true) = cnt ops.size L + 1 := cnt_set hlt I.size h0
          refine ih _ _ _ (xs.set i v) (by omega) ⟨by simpa using I.size, by simpa using I.len, rfl, by rw [hset]; exact h3, ?_, ?_, ?_⟩
          · intro j u hj hu
            rw [getD_put (by rw [I.size]; exact hlt)] at hj
            rw [List.getElem?_set] at hu
            by_cases e : i = j
            · subst e
              rw [if_pos rfl, if_pos (by rw [I.len]; exact hlt)] at hu
              cases hu
              exact h1
            · rw [if_neg e] at hu
              have hj' : L.getD j false = true := by
                rw [Bool.or_eq_true, decide_eq_true_eq] at hj
                exact hj.resolve_left fun h => e h.symm
              intro p hp
              exact hst p (List.mem_of_getElem? hp) _ _ _ h2 (I.facts j u hj' hu p hp)
          · intro j hj hL
            rw [getD_put (by rw [I.size]; exact hlt), Bool.or_eq_false_iff, decide_eq_false_iff_not] at hL
            rw [List.getElem?_set, if_neg (fun h => hL.1 h.symm)]
            exact I.old j hj hL.2
          · intro j o' ho' hL e he hb
            rw [getD_put (by rw [I.size]; exact hlt), Bool.or_eq_true] at hL ⊢
            rcases hL with hL | hL
            · have : j = i := by simpa using hL
              subst this
              rw [ho] at ho'
              cases ho'
              exact .inr (hafter e he hb)
            · exact .inr (I.closed j o' ho' hL e he hb)
  refine main ops.size _ _ _ (origs a (ops.toList.map (·.dst))) ?_ ⟨by simp, by simp [origs], (fill_self _ a).symm, ?_, ?_, fun i _ _ => rfl, ?_⟩
  all_goals
    have hz : ∀ i, (Array.replicate ops.size false).getD i false = false := by intro i; simp [Array.getD]
    have hc : cnt ops.size (Array.replicate ops.size false) = 0 := by
      unfold cnt
      rw [List.countP_eq_zero]
      intro i _; simp only [hz i]; simp
  · rw [hc]; omega
  · rw [hc]; exact hJ
  · intro i v h; rw [hz i] at h; cases h
  · intro i o _ h; rw [hz i] at h; cases h

end Go.Proofs.Ytflbdanlcpojbaa

/- Lists of a given length. -/
namespace Go.Proofs.Ytflbdanlcpojbaa
open Go.RowKit
theorem cons_of_len {n : Nat} {xs : List Value} (h : xs.length = n + 1) : ∃ x t, xs = x :: t ∧ t.length = n := by
  cases xs with
  | nil => simp at h
  | cons x t => exact ⟨x, t, rfl, by simpa using h⟩
theorem len1 {xs : List Value} (h : xs.length = 1) : ∃ x0, xs = [x0] := by
  obtain ⟨x, t, rfl, ht⟩ := cons_of_len (n := 0) h
  exact ⟨x, by rw [List.eq_nil_of_length_eq_zero ht]⟩
theorem len2 {xs : List Value} (h : xs.length = 2) : ∃ x0 x1, xs = [x0, x1] := by
  obtain ⟨x0, t, rfl, ht⟩ := cons_of_len (n := 1) h
  obtain ⟨x1, rfl⟩ := len1 ht
  exact ⟨x0, x1, rfl⟩
theorem len3 {xs : List Value} (h : xs.length = 3) : ∃ x0 x1 x2, xs = [x0, x1, x2] := by
  obtain ⟨x0, t, rfl, ht⟩ := cons_of_len (n := 2) h
  obtain ⟨x1, x2, rfl⟩ := len2 ht
  exact ⟨x0, x1, x2, rfl⟩
theorem len4 {xs : List Value} (h : xs.length = 4) : ∃ x0 x1 x2 x3, xs = [x0, x1, x2, x3] := by
  obtain ⟨x0, t, rfl, ht⟩ := cons_of_len (n := 3) h
  obtain ⟨x1, x2, x3, rfl⟩ := len3 ht
  exact ⟨x0, x1, x2, x3, rfl⟩
theorem len5 {xs : List Value} (h : xs.length = 5) : ∃ x0 x1 x2 x3 x4, xs = [x0, x1, x2, x3, x4] := by
  obtain ⟨x0, t, rfl, ht⟩ := cons_of_len (n := 4) h
  obtain ⟨x1, x2, x3, x4, rfl⟩ := len4 ht
  exact ⟨x0, x1, x2, x3, x4, rfl⟩
theorem len6 {xs : List Value} (h : xs.length = 6) : ∃ x0 x1 x2 x3 x4 x5, xs = [x0, x1, x2, x3, x4, x5] := by
  obtain ⟨x0, t, rfl, ht⟩ := cons_of_len (n := 5) h
  obtain ⟨x1, x2, x3, x4, x5, rfl⟩ := len5 ht
  exact ⟨x0, x1, x2, x3, x4, x5, rfl⟩
theorem len7 {xs : List Value} (h : xs.length = 7) : ∃ x0 x1 x2 x3 x4 x5 x6, xs = [x0, x1, x2, x3, x4, x5, x6] := by
  obtain ⟨x0, t, rfl, ht⟩ := cons_of_len (n := 6) h
  obtain ⟨x1, x2, x3, x4, x5, x6, rfl⟩ := len6 ht
  exact ⟨x0, x1, x2, x3, x4, x5, x6, rfl⟩
theorem len8 {xs : List Value} (h : xs.length = 8) : ∃ x0 x1 x2 x3 x4 x5 x6 x7, xs = [x0, x1, x2, x3, x4, x5, x6, x7] := by
  obtain ⟨x0, t, rfl, ht⟩ := cons_of_len (n := 7) h
  obtain ⟨x1, x2, x3, x4, x5, x6, x7, rfl⟩ := len7 ht
  exact ⟨x0, x1, x2, x3, x4, x5, x6, x7, rfl⟩
theorem len9 {xs : List Value} (h : xs.length = 9) : ∃ x0 x1 x2 x3 x4 x5 x6 x7 x8, xs = [x0, x1, x2, x3, x4, x5, x6, x7, x8] := by
  obtain ⟨x0, t, rfl, ht⟩ := cons_of_len (n := 8) h
  obtain ⟨x1, x2, x3, x4, x5, x6, x7, x8, rfl⟩ := len8 ht
  exact ⟨x0, x1, x2, x3, x4, x5, x6, x7, x8, rfl⟩
theorem len10 {xs : List Value} (h : xs.length = 10) : ∃ x0 x1 x2 x3 x4 x5 x6 x7 x8 x9, xs = [x0, x1, x2, x3, x4, x5, x6, x7, x8, x9] := by
  obtain ⟨x0, t, rfl, ht⟩ := cons_of_len (n := 9) h
  obtain ⟨x1, x2, x3, x4, x5, x6, x7, x8, x9, rfl⟩ := len9 ht
  exact ⟨x0, x1, x2, x3, x4, x5, x6, x7, x8, x9, rfl⟩
theorem len11 {xs : List Value} (h : xs.length = 11) : ∃ x0 x1 x2 x3 x4 x5 x6 x7 x8 x9 x10, xs = [x0, x1, x2, x3, x4, x5, x6, x7, x8, x9, x10] := by
  obtain ⟨x0, t, rfl, ht⟩ := cons_of_len (n := 10) h
  obtain ⟨x1, x2, x3, x4, x5, x6, x7, x8, x9, x10, rfl⟩ := len10 ht
  exact ⟨x0, x1, x2, x3, x4, x5, x6, x7, x8, x9, x10, rfl⟩
theorem len12 {xs : List Value} (h : xs.length = 12) : ∃ x0 x1 x2 x3 x4 x5 x6 x7 x8 x9 x10 x11, xs = [x0, x1, x2, x3, x4, x5, x6, x7, x8, x9, x10, x11] := by
  obtain ⟨x0, t, rfl, ht⟩ := cons_of_len (n := 11) h
  obtain ⟨x1, x2, x3, x4, x5, x6, x7, x8, x9, x10, x11, rfl⟩ := len11 ht
  exact ⟨x0, x1, x2, x3, x4, x5, x6, x7, x8, x9, x10, x11, rfl⟩
theorem len13 {xs : List Value} (h : xs.length = 13) : ∃ x0 x1 x2 x3 x4 x5 x6 x7 x8 x9 x10 x11 x12, xs = [x0, x1, x2, x3, x4, x5, x6, x7, x8, x9, x10, x11, x12] := by
  obtain ⟨x0, t, rfl, ht⟩ := cons_of_len (n := 12) h
  obtain ⟨x1, x2, x3, x4, x5, x6, x7, x8, x9, x10, x11, x12, rfl⟩ := len12 ht
  exact ⟨x0, x1, x2, x3, x4, x5, x6, x7, x8, x9, x10, x11, x12, rfl⟩
theorem len14 {xs : List Value} (h : xs.length = 14) : ∃ x0 x1 x2 x3 x4 x5 x6 x7 x8 x9 x10 x11 x12 x13, xs = [x0, x1, x2, x3, x4, x5, x6, x7, x8, x9, x10, x11, x12, x13] := by
  obtain ⟨x0, t, rfl, ht⟩ := cons_of_len (n := 13) h
  obtain ⟨x1, x2, x3, x4, x5, x6, x7, x8, x9, x10, x11, x12, x13, rfl⟩ := len13 ht
  exact ⟨x0, x1, x2, x3, x4, x5, x6, x7, x8, x9, x10, x11, x12, x13, rfl⟩
theorem len15 {xs : List Value} (h : xs.length = 15) : ∃ x0 x1 x2 x3 x4 x5 x6 x7 x8 x9 x10 x11 x12 x13 x14, xs = [x0, x1, x2, x3, x4, x5, x6, x7, x8, x9, x10, x11, x12, x13, x14] := by
  obtain ⟨x0, t, rfl, ht⟩ := cons_of_len (n := 14) h
  obtain ⟨x1, x2, x3, x4, x5, x6, x7, x8, x9, x10, x11, x12, x13, x14, rfl⟩ := len14 ht
  exact ⟨x0, x1, x2, x3, x4, x5, x6, x7, x8, x9, x10, x11, x12, x13, x14, rfl⟩
theorem len16 {xs : List Value} (h : xs.length = 16) : ∃ x0 x1 x2 x3 x4 x5 x6 x7 x8 x9 x10 x11 x12 x13 x14 x15, xs = [x0, x1, x2, x3, x4, x5, x6, x7, x8, x9, x10, x11, x12, x13, x14, x15] := by
  obtain ⟨x0, t, rfl, ht⟩ := cons_of_len (n := 15) h
  obtain ⟨x1, x2, x3, x4, x5, x6, x7, x8, x9, x10, x11, x12, x13, x14, x15, rfl⟩ := len15 ht
  exact ⟨x0, x1, x2, x3, x4, x5, x6, x7, x8, x9, x10, x11, x12, x13, x14, x15, rfl⟩
theorem len17 {xs : List Value} (h : xs.length = 17) : ∃ x0 x1 x2 x3 x4 x5 x6 x7 x8 x9 x10 x11 x12 x13 x14 x15 x16, xs = [x0, x1, x2, x3, x4, x5, x6, x7, x8, x9, x10, x11, x12, x13, x14, x15, x16] := by
  obtain ⟨x0, t, rfl, ht⟩ := cons_of_len (n := 16) h
  obtain ⟨x1, x2, x3, x4, x5, x6, x7, x8, x9, x10, x11, x12, x13, x14, x15, x16, rfl⟩ := len16 ht
  exact ⟨x0, x1, x2, x3, x4, x5, x6, x7, x8, x9, x10, x11, x12, x13, x14, x15, x16, rfl⟩
theorem len18 {xs : List Value} (h : xs.length = 18) : ∃ x0 x1 x2 x3 x4 x5 x6 x7 x8 x9 x10 x11 x12 x13 x14 x15 x16 x17, xs = [x0, x1, x2, x3, x4, x5, x6, x7, x8, x9, x10, x11, x12, x13, x14, x15, x16, x17] := by
  obtain ⟨x0, t, rfl, ht⟩ := cons_of_len (n := 17) h
  obtain ⟨x1, x2, x3, x4, x5, x6, x7, x8, x9, x10, x11, x12, x13, x14, x15, x16, x17, rfl⟩ := len17 ht
  exact ⟨x0, x1, x2, x3, x4, x5, x6, x7, x8, x9, x10, x11, x12, x13, x14, x15, x16, x17, rfl⟩
theorem len19 {xs : List Value} (h : xs.length = 19) : ∃ x0 x1 x2 x3 x4 x5 x6 x7 x8 x9 x10 x11 x12 x13 x14 x15 x16 x17 x18, xs = [x0, x1, x2, x3, x4, x5, x6, x7, x8, x9, x10, x11, x12, x13, x14, x15, x16, x17, x18] := by
  obtain ⟨x0, t, rfl, ht⟩ := cons_of_len (n := 18) h
  obtain ⟨x1, x2, x3, x4, x5, x6, x7, x8, x9, x10, x11, x12, x13, x14, x15, x16, x17, x18, rfl⟩ := len18 ht
  exact ⟨x0, x1, x2, x3, x4, x5, x6, x7, x8, x9, x10, x11, x12, x13, x14, x15, x16, x17, x18, rfl⟩
theorem len20 {xs : List Value} (h : xs.length = 20) : ∃ x0 x1 x2 x3 x4 x5 x6 x7 x8 x9 x10 x11 x12 x13 x14 x15 x16 x17 x18 x19, xs = [x0, x1, x2, x3, x4, x5, x6, x7, x8, x9, x10, x11, x12, x13, x14, x15, x16, x17, x18, x19] := by
  obtain ⟨x0, t, rfl, ht⟩ := cons_of_len (n := 19) h
  obtain ⟨x1, x2, x3, x4, x5, x6, x7, x8, x9, x10, x11, x12, x13, x14, x15, x16, x17, x18, x19, rfl⟩ := len19 ht
  exact ⟨x0, x1, x2, x3, x4, x5, x6, x7, x8, x9, x10, x11, x12, x13, x14, x15, x16, x17, x18, x19, rfl⟩
theorem len21 {xs : List Value} (h : xs.length = 21) : ∃ x0 x1 x2 x3 x4 x5 x6 x7 x8 x9 x10 x11 x12 x13 x14 x15 x16 x17 x18 x19 x20, xs = [x0, x1, x2, x3, x4, x5, x6, x7, x8, x9, x10, x11, x12, x13, x14, x15, x16, x17, x18, x19, x20] := by
  obtain ⟨x0, t, rfl, ht⟩ := cons_of_len (n := 20) h
  obtain ⟨x1, x2, x3, x4, x5, x6, x7, x8, x9, x10, x11, x12, x13, x14, x15, x16, x17, x18, x19, x20, rfl⟩ := len20 ht
  exact ⟨x0, x1, x2, x3, x4, x5, x6, x7, x8, x9, x10, x11, x12, x13, x14, x15, x16, x17, x18, x19, x20, rfl⟩
theorem len22 {xs : List Value} (h : xs.length = 22) : ∃ x0 x1 x2 x3 x4 x5 x6 x7 x8 x9 x10 x11 x12 x13 x14 x15 x16 x17 x18 x19 x20 x21, xs = [x0, x1, x2, x3, x4, x5, x6, x7, x8, x9, x10, x11, x12, x13, x14, x15, x16, x17, x18, x19, x20, x21] := by
  obtain ⟨x0, t, rfl, ht⟩ := cons_of_len (n := 21) h
  obtain ⟨x1, x2, x3, x4, x5, x6, x7, x8, x9, x10, x11, x12, x13, x14, x15, x16, x17, x18, x19, x20, x21, rfl⟩ := len21 ht
  exact ⟨x0, x1, x2, x3, x4, x5, x6, x7, x8, x9, x10, x11, x12, x13, x14, x15, x16, x17, x18, x19, x20, x21, rfl⟩
theorem len23 {xs : List Value} (h : xs.length = 23) : ∃ x0 x1 x2 x3 x4 x5 x6 x7 x8 x9 x10 x11 x12 x13 x14 x15 x16 x17 x18 x19 x20 x21 x22, xs = [x0, x1, x2, x3, x4, x5, x6, x7, x8, x9, x10, x11, x12, x13, x14, x15, x16, x17, x18, x19, x20, x21, x22] := by
  obtain ⟨x0, t, rfl, ht⟩ := cons_of_len (n := 22) h
  obtain ⟨x1, x2, x3, x4, x5, x6, x7, x8, x9, x10, x11, x12, x13, x14, x15, x16, x17, x18, x19, x20, x21, x22, rfl⟩ := len22 ht
  exact ⟨x0, x1, x2, x3, x4, x5, x6, x7, x8, x9, x10, x11, x12, x13, x14, x15, x16, x17, x18, x19, x20, x21, x22, rfl⟩
theorem len24 {xs : List Value} (h : xs.length = 24) : ∃ x0 x1 x2 x3 x4 x5 x6 x7 x8 x9 x10 x11 x12 x13 x14 x15 x16 x17 x18 x19 x20 x21 x22 x23, xs = [x0, x1, x2, x3, x4, x5, x6, x7, x8, x9, x10, x11, x12, x13, x14, x15, x16, x17, x18, x19, x20, x21, x22, x23] := by
  obtain ⟨x0, t, rfl, ht⟩ := cons_of_len (n := 23) h
  obtain ⟨x1, x2, x3, x4, x5, x6, x7, x8, x9, x10, x11, x12, x13, x14, x15, x16, x17, x18, x19, x20, x21, x22, x23, rfl⟩ := len23 ht
  exact ⟨x0, x1, x2, x3, x4, x5, x6, x7, x8, x9, x10, x11, x12, x13, x14, x15, x16, x17, x18, x19, x20, x21, x22, x23, rfl⟩
theorem len25 {xs : List Value} (h : xs.length = 25) : ∃ x0 x1 x2 x3 x4 x5 x6 x7 x8 x9 x10 x11 x12 x13 x14 x15 x16 x17 x18 x19 x20 x21 x22 x23 x24, xs = [x0, x1, x2, x3, x4, x5, x6, x7, x8, x9, x10, x11, x12, x13, x14, x15, x16, x17, x18, x19, x20, x21, x22, x23, x24] := by
  obtain ⟨x0, t, rfl, ht⟩ := cons_of_len (n := 24) h
  obtain ⟨x1, x2, x3, x4, x5, x6, x7, x8, x9, x10, x11, x12, x13, x14, x15, x16, x17, x18, x19, x20, x21, x22, x23, x24, rfl⟩ := len24 ht
  exact ⟨x0, x1, x2, x3, x4, x5, x6, x7, x8, x9, x10, x11, x12, x13, x14, x15, x16, x17, x18, x19, x20, x21, x22, x23, x24, rfl⟩
theorem len26 {xs : List Value} (h : xs.length = 26) : ∃ x0 x1 x2 x3 x4 x5 x6 x7 x8 x9 x10 x11 x12 x13 x14 x15 x16 x17 x18 x19 x20 x21 x22 x23 x24 x25, xs = [x0, x1, x2, x3, x4, x5, x6, x7, x8, x9, x10, x11, x12, x13, x14, x15, x16, x17, x18, x19, x20, x21, x22, x23, x24, x25] := by
  obtain ⟨x0, t, rfl, ht⟩ := cons_of_len (n := 25) h
  obtain ⟨x1, x2, x3, x4, x5, x6, x7, x8, x9, x10, x11, x12, x13, x14, x15, x16, x17, x18, x19, x20, x21, x22, x23, x24, x25, rfl⟩ := len25 ht
  exact ⟨x0, x1, x2, x3, x4, x5, x6, x7, x8, x9, x10, x11, x12, x13, x14, x15, x16, x17, x18, x19, x20, x21, x22, x23, x24, x25, rfl⟩
theorem len27 {xs : List Value} (h : xs.length = 27) : ∃ x0 x1 x2 x3 x4 x5 x6 x7 x8 x9 x10 x11 x12 x13 x14 x15 x16 x17 x18 x19 x20 x21 x22 x23 x24 x25 x26, xs = [x0, x1, x2, x3, x4, x5, x6, x7, x8, x9, x10, x11, x12, x13, x14, x15, x16, x17, x18, x19, x20, x21, x22, x23, x24, x25, x26] := by
  obtain ⟨x0, t, rfl, ht⟩ := cons_of_len (n := 26) h
  obtain ⟨x1, x2, x3, x4, x5, x6, x7, x8, x9, x10, x11, x12, x13, x14, x15, x16, x17, x18, x19, x20, x21, x22, x23, x24, x25, x26, rfl⟩ := len26 ht
  exact ⟨x0, x1, x2, x3, x4, x5, x6, x7, x8, x9, x10, x11, x12, x13, x14, x15, x16, x17, x18, x19, x20, x21, x22, x23, x24, x25, x26, rfl⟩
end Go.Proofs.Ytflbdanlcpojbaa

/- The drawing of inputs: the reader. -/
namespace Go.Proofs.Ytflbdanlcpojbaa
open Go.RowKit

/-- A reader: block rb holds the bytes' slice and the place p. -/
structure Rd (w : World) (rb : Nat) (p : Nat) : Prop where
  mk ::
  ex : ∃ (a : Option Addr) (l : List UInt8) (cap : Nat) (fp : List Nat), w.heap[rb]? = some (.cells #[.slice a l.length cap, .int .i64 p] 74 (0, 0)) ∧ (sSlice sByte).R w [.slice a l.length cap] l fp ∧ Under rb fp ∧ l.length ≤ 2000
  hp : p ≤ 1000000

theorem Rd.step {w : World} {rb p : Nat} (H : Rd w rb p) (hp : p < 1000000) : Rd (w.setCell ⟨rb, 1, none⟩ (.int .i64 ((p : Int) + 1))) rb (p + 1) ∧ Kept [rb] w (w.setCell ⟨rb, 1, none⟩ (.int .i64 ((p : Int) + 1))) := by
  obtain ⟨⟨a, l, cap, fp, hb, hr, hu, hl⟩, hp'⟩ := H
  have hk : Kept [rb] w (w.setCell ⟨rb, 1, none⟩ (.int .i64 ((p : Int) + 1))) := (Kept.refl _ _).setCell (by simp) _
  refine ⟨⟨⟨a, l, cap, fp, ?_, (sSlice sByte).kept hr (fun b hb' => by have := hu b hb'; simp; omega) hk, hu, hl⟩, by omega⟩, hk⟩
  simp [World.setCell, Array.getElem?_modify, hb]

/-- The reader's next number is in 0..n-1; its place has moved by one. -/
def Picked (rb p : Nat) (n : Int) (w : World) (e : Ending) (w' : World) : Prop :=
  ∃ r : Int, e = .returned (.int .i64 r) ∧ 0 ≤ r ∧ (r < n ∨ n < 1 ∧ r = 0) ∧ Rd w' rb (p + 1) ∧ Kept [rb] w w'

theorem Picked.of {rb p : Nat} {n r : Int} {w : World} (H : Rd w rb p) (hp : p < 1000000) (h0 : 0 ≤ r) (h1 : r < n ∨ n < 1 ∧ r = 0) (m : Nat) :
    Picked rb p n w (.returned (.int .i64 r)) ((w.setCell ⟨rb, 1, none⟩ (.int .i64 ((p : Int) + 1))).drewN m) :=
  ⟨r, rfl, h0, h1, ⟨(H.step hp).1.ex, (H.step hp).1.hp⟩, (H.step hp).2.drewN m⟩

theorem xor_i64_nonneg (a b : Nat) (ha : a < 4611686018427387904) (hb : b < 4611686018427387904) : 0 ≤ bits .xor .i64 (a : Int) (b : Int) := by
  have hx : a ^^^ b < 2 ^ 62 := Nat.xor_lt_two_pow (by omega) (by omega)
  have h1 : (BitVec.ofInt 64 (a : Int)).toNat = a := by
    rw [BitVec.ofInt_natCast, BitVec.toNat_ofNat]; exact Nat.mod_eq_of_lt (by omega)
  have h2 : (BitVec.ofInt 64 (b : Int)).toNat = b := by
    rw [BitVec.ofInt_natCast, BitVec.toNat_ofNat]; exact Nat.mod_eq_of_lt (by omega)
  show 0 ≤ IntKind.i64.wrap ((BitVec.ofInt 64 (a : Int) ^^^ BitVec.ofInt 64 (b : Int)).toNat : Int)
  rw [BitVec.toNat_xor, h1, h2, IntWalk.i64_in _ (by omega)]
  omega
theorem xor_pick {X : Int} (h : 0 ≤ X ∧ X ≤ 1000000000) : 0 ≤ bits .xor .i64 X (X / 64) := by
  obtain ⟨x, rfl⟩ := Int.eq_ofNat_of_zero_le h.1
  have := xor_i64_nonneg x (x / 64) (by omega) (by omega)
  simpa using this
theorem wrap_byte (b : UInt8) : 0 ≤ wrap64 (b.toNat : Int) ∧ wrap64 (b.toNat : Int) ≤ 255 := by
  have := b.toNat_lt
  rw [show wrap64 (b.toNat : Int) = (b.toNat : Int) from by unfold wrap64; omega]
  omega
theorem rem_pick {x n : Int} (h : 0 ≤ x) (hn : 1 ≤ n) : 0 ≤ x.tmod n ∧ x.tmod n < n := by
  rw [Int.tmod_eq_emod_of_nonneg h]
  exact ⟨Int.emod_nonneg _ (by omega), Int.emod_lt_of_pos _ (by omega)⟩

set_option maxHeartbeats 2000000 in
theorem pick (rb p : Nat) (n : Int) (w : World) (H : Rd w rb p) (hp : p < 1000000) (hn : n ≤ 1000000) (hn0 : -1000000 ≤ n) :
    Calls Try.prog 47 #[.pointer (some ⟨rb, 0, none⟩), .int .i64 n] w (Picked rb p n w) := by
  have HP := fun (r : Int) h0 h1 m => Picked.of (n := n) (r := r) H hp h0 h1 m
  have HH := Lib.hid HP; clear HP
  obtain ⟨⟨a, l, cap, fp, hb, hr, hu, hl⟩, _⟩ := H
  have h0 : w.cell? ⟨rb, 0, none⟩ = some (.slice a l.length cap) := by simp [World.cell?, hb]
  have h1 : w.cell? ⟨rb, 1, none⟩ = some (.int .i64 p) := by simp [World.cell?, hb]
  have hf : w.frozen? ⟨rb, 1, none⟩ = false := by simp [World.frozen?, hb]
  clear hb
  obtain ⟨_, _, hv, _, _, hcell, _⟩ := open_flat hr
  simp only [Value.slice.injEq] at hv
  obtain ⟨rfl, _, rfl⟩ := hv
  clear hr
  by_cases hn1 : n < 1
  · go_enter Try.func47, Try.ntmps47
    go_wp2
    go_ret
    exact HH.out 0 (by omega) (.inr ⟨hn1, rfl⟩) 0
  by_cases hl0 : l.length = 0
  · have hl1 : ((l.length : Int) == 0) = true := by simp [hl0]
    go_enter Try.func47, Try.ntmps47
    go_wp2
    go_ret
    exact HH.out 0 (by omega) (.inl (by omega)) 0
  obtain ⟨b, off, rfl, hbw, hbf, hc⟩ := hcell (by omega)
  clear hcell
  have hlt := hu b hbf
  have hne : ¬ rb = b := by omega
  have hl1 : ((l.length : Int) == 0) = false := beq_eq_false_iff_ne.2 (by omega)
  by_cases hk : p < l.length
  · have hcp := hc p hk
    simp only [encByte] at hcp
    have HZ := Lib.hid (rem_pick (wrap_byte l[p]).1 (show 1 ≤ n by omega))
    clear hc
    go_enter Try.func47, Try.ntmps47
    go_wp2
    go_ret
    exact HH.out _ HZ.out.1 (.inl HZ.out.2) 0
  · obtain ⟨i1, hi1⟩ : ∃ i, i = p % l.length := ⟨_, rfl⟩
    obtain ⟨m3, hm3⟩ : ∃ m, m = p * 7 + 3 := ⟨_, rfl⟩
    obtain ⟨i2, hi2⟩ : ∃ i, i = m3 % l.length := ⟨_, rfl⟩
    obtain ⟨q1, hq1⟩ : ∃ q, q = p / l.length := ⟨_, rfl⟩
    have hi1l : i1 < l.length := by rw [hi1]; exact Nat.mod_lt _ (by omega)
    have hi2l : i2 < l.length := by rw [hi2]; exact Nat.mod_lt _ (by omega)
    have hq1l : q1 ≤ p := by rw [hq1]; exact Nat.div_le_self _ _
    obtain ⟨c1, hd1, hd2, hc1⟩ : ∃ c : Int, 0 ≤ c ∧ c ≤ 255 ∧ w.cell? ⟨b, off + i1, none⟩ = some (.int .u8 c) := ⟨_, by omega, by have := l[i1].toNat_lt; omega, hc i1 hi1l⟩
    obtain ⟨c2, hd3, hd4, hc2⟩ : ∃ c : Int, 0 ≤ c ∧ c ≤ 255 ∧ w.cell? ⟨b, off + i2, none⟩ = some (.int .u8 c) := ⟨_, by omega, by have := l[i2].toNat_lt; omega, hc i2 hi2l⟩
    have e1 : IntKind.i64.wrap ((p : Int).tmod (l.length : Int)) = (i1 : Int) := by
      rw [Int.tmod_eq_emod_of_nonneg (by omega), ← Int.natCast_emod, ← hi1]; exact IntWalk.i64_in _ (by omega)
    have e3 : IntKind.i64.wrap ((p : Int) * 7) = (p : Int) * 7 := IntWalk.i64_in _ (by omega)
    have e4 : IntKind.i64.wrap ((p : Int) * 7 + 3) = (m3 : Int) := by rw [IntWalk.i64_in _ (by omega)]; omega
    have e5 : IntKind.i64.wrap ((m3 : Int).tmod (l.length : Int)) = (i2 : Int) := by
      rw [Int.tmod_eq_emod_of_nonneg (by omega), ← Int.natCast_emod, ← hi2]; exact IntWalk.i64_in _ (by omega)
    have e6 : IntKind.i64.wrap c1 = c1 := IntWalk.i64_in _ (by omega)
    have e7 : IntKind.i64.wrap c2 = c2 := IntWalk.i64_in _ (by omega)
    have e8 : IntKind.i64.wrap (c1 * 131) = c1 * 131 := IntWalk.i64_in _ (by omega)
    have e9 : IntKind.i64.wrap (c2 * 1117) = c2 * 1117 := IntWalk.i64_in _ (by omega)
    have e10 : IntKind.i64.wrap (c1 * 131 + c2 * 1117) = c1 * 131 + c2 * 1117 := IntWalk.i64_in _ (by omega)
    have e11 : IntKind.i64.wrap ((p : Int) * 29) = (p : Int) * 29 := IntWalk.i64_in _ (by omega)
    have e12 : IntKind.i64.wrap (c1 * 131 + c2 * 1117 + (p : Int) * 29) = c1 * 131 + c2 * 1117 + (p : Int) * 29 := IntWalk.i64_in _ (by omega)
    have e13 : IntKind.i64.wrap ((p : Int).tdiv (l.length : Int)) = (q1 : Int) := by
      rw [Int.tdiv_eq_ediv_of_nonneg (by omega), ← Int.natCast_ediv, ← hq1]; exact IntWalk.i64_in _ (by omega)
    have e14 : IntKind.i64.wrap ((q1 : Int) * 53) = (q1 : Int) * 53 := IntWalk.i64_in _ (by omega)
    obtain ⟨X, hX⟩ : ∃ X : Int, X = c1 * 131 + c2 * 1117 + (p : Int) * 29 + (q1 : Int) * 53 := ⟨_, rfl⟩
    have hX0 : 0 ≤ X ∧ X ≤ 1000000000 := by omega
    have e15 : IntKind.i64.wrap (c1 * 131 + c2 * 1117 + (p : Int) * 29 + (q1 : Int) * 53) = X := by rw [← hX]; exact IntWalk.i64_in _ (by omega)
    have f1 : (p : Int) % (l.length : Int) = (i1 : Int) := by rw [hi1, Int.natCast_emod]
    have f2 : ((p : Int) * 7 + 3) % (l.length : Int) = (i2 : Int) := by rw [hi2, hm3, Int.natCast_emod]; rfl
    have f3 : (m3 : Int) % (l.length : Int) = (i2 : Int) := by rw [hi2, Int.natCast_emod]
    have f4 : (p : Int) / (l.length : Int) = (q1 : Int) := by rw [hq1, Int.natCast_ediv]
    have f5 := hX.symm
    have HX := Lib.hid hX0
    clear hX0 hX hi1 hm3 hi2 hq1 hc
    go_enter Try.func47, Try.ntmps47
    go_wp2
    go_quiet (fail)
    clear f1 f2 f3 f4 f5 e1 e3 e4 e5 e6 e7 e8 e9 e10 e11 e12 e13 e14 e15
    have hX0 := HX.out
    go_wp2
    go_ret
    have hr := rem_pick (xor_pick HX.out) (show 1 ≤ n by omega)
    exact HH.out _ hr.1 (.inl hr.2) _

/-- .. 'odd' answers some bool. -/
def Odd (rb p : Nat) (w : World) (e : Ending) (w' : World) : Prop := ∃ b : Bool, ∃ q : Nat, e = .returned (.bool b) ∧ p ≤ q ∧ q ≤ p + 1 ∧ Rd w' rb q ∧ Kept [rb] w w'

set_option maxHeartbeats 1000000 in
theorem odd (rb p : Nat) (n : Int) (w : World) (H : Rd w rb p) (hp : p < 1000000) (hn : n ≤ 1000000) (hn0 : 0 ≤ n) :
    Calls Try.prog 24 #[.pointer (some ⟨rb, 0, none⟩), .int .i64 n] w (Odd rb p w) := by
  by_cases h0 : 0 < n
  · go_enter Try.func24, Try.ntmps24
    go_wp2_with (go_at_call 47; refine (pick _ _ _ _ H hp hn (by omega)).mono ?_; rintro e w' ⟨r, rfl, hr0, hr1, hr2, hr3⟩)
    go_ret
    exact ⟨_, p + 1, rfl, by omega, by omega, hr2, hr3⟩
  · have e0 : n = 0 := by omega
    subst e0
    go_enter Try.func24, Try.ntmps24
    go_wp2
    go_ret
    exact ⟨_, p, rfl, by omega, by omega, H, Kept.refl _ _⟩

end Go.Proofs.Ytflbdanlcpojbaa

/- The drawing of inputs: readers, and texts out of a list. -/
namespace Go.Proofs.Ytflbdanlcpojbaa
open Go.RowKit

theorem Rd.grow {w w' : World} {rb p : Nat} (H : Rd w rb p) (hb : Below w.heap.size w w') : Rd w' rb p := by
  obtain ⟨⟨a, l, cap, fp, h1, h2, h3, h4⟩, h5⟩ := H
  exact ⟨⟨a, l, cap, fp, (hb.block rb (Array.getElem?_eq_some_iff.1 h1).1).trans h1, (sSlice sByte).below h2 hb, h3, h4⟩, h5⟩
theorem Rd.lt {w : World} {rb p : Nat} (H : Rd w rb p) : rb < w.heap.size := by
  obtain ⟨⟨a, l, cap, fp, h1, h2, h3, h4⟩, h5⟩ := H
  exact (Array.getElem?_eq_some_iff.1 h1).1
theorem kept_below {B rb : Nat} {w0 w w' : World} (hb : Below B w0 w) (hk : Kept [rb] w w') (hr : B ≤ rb) (hs : B ≤ w.heap.size) : Below B w0 w' :=
  hb.trans (hk.below (fun b hb => by
    obtain rfl : b = rb := by simpa using hb
    exact hr) hs)

/-- A text out of a list. -/
theorem lit_get (L : List ByteArray) (r : Int) (h0 : 0 ≤ r) (h1 : r < L.length) : ∃ s, s ∈ L ∧ ∀ A : Array Value, A = (L.map Value.string).toArray → A[r.toNat]? = some (.string s) := by
  have h : r.toNat < L.length := by omega
  refine ⟨L[r.toNat], List.getElem_mem h, ?_⟩
  rintro A rfl
  simp [List.getElem?_eq_getElem h]

theorem Kept.cell {fp : List Nat} {w w' : World} (hk : Kept fp w w') {p : Addr} (h1 : p.block < w.heap.size) (h2 : p.block ∉ fp) : w'.cell? p = w.cell? p :=
  World.cell?_of_block (hk.block p.block h1 h2)
/-- A text out of a list of texts that the call has just made, behind a pick. -/
theorem lit_pick (L : List ByteArray) (M : Nat) (hM : ∀ s ∈ L, s.size ≤ M) {rb : Nat} {wr w2 : World} {r : Int} (h0 : 0 ≤ r) (h1 : r < L.length) (hr : rb < wr.heap.size) (hK : Kept [rb] (wr.alloc (.cells (L.map Value.string).toArray 9)) w2) :
    ∃ s : ByteArray, s.size ≤ M ∧ w2.cell? ⟨wr.heap.size, r.toNat, none⟩ = some (.string s) := by
  obtain ⟨s, hs, hl⟩ := lit_get L r h0 h1
  refine ⟨s, hM s hs, ?_⟩
  rw [hK.cell (p := ⟨wr.heap.size, r.toNat, none⟩) (by simp) (by simp; omega), World.cell?_alloc_at _ _ _ _ rfl]
  exact hl _ rfl
/-- A reader of a slice of bytes. -/
def Opened (B : Nat) (w0 : World) (e : Ending) (w' : World) : Prop := ∃ rb, e = .returned (.pointer (some ⟨rb, 0, none⟩)) ∧ B ≤ rb ∧ Rd w' rb 0 ∧ Below B w0 w'

theorem slice_take {α : Type} {S : Shape α} {w : World} {a : Option Addr} {cap : Nat} {l : List α} {fp : List Nat} (n : Nat) (hn : n ≤ l.length) (H : (sSlice S).R w [.slice a l.length cap] l fp) :
    ∃ fp', (sSlice S).R w [.slice a n cap] (l.take n) fp' ∧ ∀ b ∈ fp', b ∈ fp := by
  obtain ⟨a', cap', hv, hc, hm, h⟩ := H
  simp only [List.cons.injEq, Value.slice.injEq, and_true, true_and] at hv
  obtain ⟨rfl, rfl⟩ := hv
  have hl : (l.take n).length = n := by simp; omega
  by_cases h0 : n = 0
  · subst h0
    exact ⟨[], ⟨a, cap, by simp, by simp, hm, .inl ⟨by simp, rfl⟩⟩, by simp⟩
  · rcases h with ⟨rfl, _⟩ | ⟨_, b, off, fps, ha, rfl, hb, he⟩
    · simp at hn; omega
    · refine ⟨b :: (List.range n).flatMap fps, ⟨a, cap, by rw [hl], by omega, hm, .inr ⟨by omega, b, off, fps, ha, by rw [hl], hb, fun i hi => ?_⟩⟩, ?_⟩
      · rw [hl] at hi
        obtain ⟨es, h1, h2⟩ := he i (by omega)
        exact ⟨es, h1, by rw [List.getElem_take]; exact h2⟩
      · intro x hx
        rcases List.mem_cons.1 hx with rfl | hx
        · simp
        · obtain ⟨i, hi, hx⟩ := List.mem_flatMap.1 hx
          refine List.mem_cons_of_mem _ (List.mem_flatMap.2 ⟨i, ?_, hx⟩)
          simp only [List.mem_range] at hi ⊢
          omega

theorem Opened.of {v : Value} {l : List UInt8} {a : Option Addr} {cap : Nat} {fp : List Nat} {w : World} (hv : v = .slice a l.length cap) (H : (sSlice sByte).R w [v] l fp) (hl : l.length ≤ 2000) :
    Opened w.heap.size w (.returned (.pointer (some ⟨w.heap.size, 0, none⟩))) (w.alloc (.cells #[v, .int .i64 0] 74)) := by
  subst hv
  have hb : Below w.heap.size w (w.alloc (.cells #[.slice a l.length cap, .int .i64 0] 74)) := (Below.refl _ _).alloc (Nat.le_refl _) _
  refine ⟨w.heap.size, rfl, Nat.le_refl _, ⟨⟨a, l, cap, fp, ?_, (sSlice sByte).below H hb, (sSlice sByte).lt H, hl⟩, by omega⟩, hb⟩
  show (w.heap.push _)[w.heap.size]? = _
  simp

set_option maxHeartbeats 1000000 in
theorem l20Open (v : Value) (l : List UInt8) (fp : List Nat) (w : World) (H : (sSlice sByte).R w [v] l fp) :
    Calls Try.prog 21 #[v] w (Opened w.heap.size w) := by
  obtain ⟨a, cap, hv, hc, hm, h⟩ := H
  obtain rfl : v = .slice a l.length cap := by simpa using hv
  unfold maxLen at hm
  by_cases hl : 2000 < l.length
  · obtain ⟨fp', h', _⟩ := slice_take (S := sByte) 2000 (by omega) ⟨a, cap, rfl, hc, hm, h⟩
    have HO := Lib.hid (fun v hv (h : (sSlice sByte).R w [v] (l.take 2000) fp') => Opened.of (v := v) (a := a) (cap := cap) hv h (by simp; omega))
    go_enter Try.func21, Try.ntmps21
    go_wp2
    go_ret
    exact HO.out _ (by rw [List.length_take, Nat.min_eq_left (by omega)]) h'
  · have HO := Lib.hid (Opened.of (v := .slice a l.length cap) rfl ⟨a, cap, rfl, hc, hm, h⟩ (by omega))
    go_enter Try.func21, Try.ntmps21
    go_wp2
    go_ret
    exact HO.out

end Go.Proofs.Ytflbdanlcpojbaa

/- What slots hold in regions that draw their order, beside a reader. -/
namespace Go.Proofs.Ytflbdanlcpojbaa
open Go.RowKit

def StepsFrom (P : Program) (ops : Array Oper) (Rl : World → World → Prop) (Ps : List (Value → World → Prop)) (J : Nat → World → Prop) (a : Act) : Nat → List Oper → Prop
  | _, [] => True
  | i, o :: t => StepOk P ops Rl Ps J a i o ∧ StepsFrom P ops Rl Ps J a (i + 1) t
theorem steps_of {P : Program} {ops : Array Oper} {Rl : World → World → Prop} {Ps : List (Value → World → Prop)} {J : Nat → World → Prop} {a : Act} :
    ∀ (l : List Oper) (k : Nat), (∀ j, l[j]? = ops[k + j]?) → StepsFrom P ops Rl Ps J a k l → ∀ i o, k ≤ i → ops[i]? = some o → StepOk P ops Rl Ps J a i o := by
  intro l
  induction l with
  | nil =>
    intro k h _ i o hk hi
    have := h (i - k)
    rw [show k + (i - k) = i from by omega, hi] at this
    simp at this
  | cons x t ih =>
    intro k h hs i o hk hi
    by_cases e : i = k
    · subst e
      have h0 := h 0
      rw [Nat.add_zero, hi] at h0
      simp only [List.getElem?_cons_zero, Option.some.injEq] at h0
      subst h0
      exact hs.1
    · exact ih (k + 1) (fun j => by have := h (j + 1); rw [List.getElem?_cons_succ] at this; rw [this]; congr 1; omega) hs.2 i o (by omega) hi
theorem steps_all {P : Program} {ops : Array Oper} {Rl : World → World → Prop} {Ps : List (Value → World → Prop)} {J : Nat → World → Prop} {a : Act} (h : StepsFrom P ops Rl Ps J a 0 ops.toList) :
    ∀ i o, ops[i]? = some o → StepOk P ops Rl Ps J a i o := fun i o hi => steps_of ops.toList 0 (fun j => by simp) h i o (Nat.zero_le _) hi

def Stable (fb : List Nat) (p : Value → World → Prop) : Prop := ∀ v w w', Kept fb w w' → p v w → p v w'
def StabAll (fb : List Nat) : List (Value → World → Prop) → Prop
  | [] => True
  | p :: t => Stable fb p ∧ StabAll fb t
theorem stab_all {fb : List Nat} : ∀ {Ps : List (Value → World → Prop)}, StabAll fb Ps → ∀ p ∈ Ps, ∀ v w w', Kept fb w w' → p v w → p v w'
  | [], _, p, hp => by cases hp
  | q :: t, h, p, hp => by
    rcases List.mem_cons.1 hp with rfl | hp
    · exact h.1
    · exact stab_all h.2 p hp

def pVal (x : Value) : Value → World → Prop := fun v _ => v = x
def pStr (M : Nat) : Value → World → Prop := fun v _ => ∃ s : ByteArray, v = .string s ∧ s.size ≤ M
def pInt (n : Int) : Value → World → Prop := fun v _ => ∃ r : Int, v = .int .i64 r ∧ 0 ≤ r ∧ r < n
def pLits (fb : List Nat) (n M : Nat) : Value → World → Prop := fun v w => ∃ b, v = .slice (some ⟨b, 0, none⟩) n n ∧ b ∉ fb ∧ b < w.heap.size ∧ ∀ j, j < n → ∃ s : ByteArray, w.cell? ⟨b, j, none⟩ = some (.string s) ∧ s.size ≤ M
def pPtr (fb : List Nat) (M : Nat) : Value → World → Prop := fun v w => ∃ (b j : Nat) (s : ByteArray), v = .pointer (some ⟨b, j, none⟩) ∧ b ∉ fb ∧ b < w.heap.size ∧ w.cell? ⟨b, j, none⟩ = some (.string s) ∧ s.size ≤ M
theorem stVal {fb : List Nat} (x : Value) : Stable fb (pVal x) := fun _ _ _ _ h => h
theorem stStr {fb : List Nat} (M : Nat) : Stable fb (pStr M) := fun _ _ _ _ h => h
theorem stInt {fb : List Nat} (n : Int) : Stable fb (pInt n) := fun _ _ _ _ h => h
theorem stLits {fb : List Nat} (n M : Nat) : Stable fb (pLits fb n M) := fun v w w' hk ⟨b, h1, h2, h3, h4⟩ =>
  ⟨b, h1, h2, Nat.lt_of_lt_of_le h3 hk.size, fun j hj => by
    obtain ⟨s, h5, h6⟩ := h4 j hj
    exact ⟨s, (hk.cell (p := ⟨b, j, none⟩) h3 h2).trans h5, h6⟩⟩
theorem stPtr {fb : List Nat} (M : Nat) : Stable fb (pPtr fb M) := fun v w w' hk ⟨b, j, s, h1, h2, h3, h4, h5⟩ =>
  ⟨b, j, s, h1, h2, Nat.lt_of_lt_of_le h3 hk.size, (hk.cell (p := ⟨b, j, none⟩) h3 h2).trans h4, h5⟩
theorem pLits_new (L : List ByteArray) (M : Nat) (fb : List Nat) (w : World) (hM : ∀ s ∈ L, s.size ≤ M) (hr : ∀ b ∈ fb, b < w.heap.size) (n : Nat) (hn : L.length = n) :
    pLits fb n M (.slice (some ⟨w.heap.size, 0, none⟩) n n) (w.alloc (.cells (L.map Value.string).toArray 9)) := by
  refine ⟨w.heap.size, rfl, fun h => by have := hr _ h; omega, by simp, fun j hj => ⟨L[j]'(by omega), ?_, hM _ (List.getElem_mem _)⟩⟩
  rw [World.cell?_alloc_at _ _ _ _ rfl]
  simp [List.getElem?_eq_getElem (show j < L.length by omega)]
/-- The reader's state while a region runs. -/
def jRd (rb p0 : Nat) (w0 : World) (m : Nat) (w : World) : Prop := (∃ p, p ≤ p0 + m ∧ Rd w rb p) ∧ Kept [rb] w0 w
theorem jRd.same {rb p0 m : Nat} {w0 w : World} (h : jRd rb p0 w0 m w) : jRd rb p0 w0 (m + 1) w := by
  obtain ⟨⟨p, h1, h2⟩, h3⟩ := h
  exact ⟨⟨p, by omega, h2⟩, h3⟩
theorem jRd.alloc {rb p0 m : Nat} {w0 w : World} (h : jRd rb p0 w0 m w) (o : Obj) : jRd rb p0 w0 (m + 1) (w.alloc o) := by
  obtain ⟨⟨p, h1, h2⟩, h3⟩ := h
  have hb := (Below.refl w.heap.size w).alloc (Nat.le_refl _) o
  exact ⟨⟨p, by omega, h2.grow hb⟩, h3.trans (Kept.of_below hb)⟩
theorem jRd.lt {rb p0 m : Nat} {w0 w : World} (h : jRd rb p0 w0 m w) : rb < w.heap.size := by
  obtain ⟨⟨p, h1, h2⟩, h3⟩ := h
  exact h2.lt
theorem jRd.lts {rb p0 m : Nat} {w0 w : World} (h : jRd rb p0 w0 m w) : ∀ b ∈ [rb], b < w.heap.size := fun b hb => by
  have : b = rb := by simpa using hb
  subst this; exact h.lt
theorem jRd.start {rb p : Nat} {w : World} (h : Rd w rb p) : jRd rb p w 0 { w with drawn := w.drawn + 1 } :=
  ⟨⟨p, by omega, ⟨h.ex, h.hp⟩⟩, (Kept.refl [rb] w).drewN 1⟩
theorem At.mk {Ps : List (Value → World → Prop)} {i : Nat} {p : Value → World → Prop} {v : Value} {w : World} (h : Ps[i]? = some p) (hp : p v w) : At Ps i v w := by
  intro q hq
  rw [h] at hq
  cases hq
  exact hp

theorem jRd.le {rb p0 m m' : Nat} {w0 w : World} (h : jRd rb p0 w0 m w) (hm : m ≤ m') : jRd rb p0 w0 m' w := by
  obtain ⟨⟨p, h1, h2⟩, h3⟩ := h
  exact ⟨⟨p, by omega, h2⟩, h3⟩
theorem jRd.begin {rb p : Nat} {w : World} (h : Rd w rb p) : jRd rb p w 0 w := ⟨⟨p, by omega, h⟩, Kept.refl _ _⟩
theorem jRd.made {rb p0 m : Nat} {w0 w : World} (h : jRd rb p0 w0 m w) (o : Obj) : jRd rb p0 w0 m (w.alloc o) := by
  obtain ⟨⟨p, h1, h2⟩, h3⟩ := h
  have hb := (Below.refl w.heap.size w).alloc (Nat.le_refl _) o
  exact ⟨⟨p, h1, h2.grow hb⟩, h3.trans (Kept.of_below hb)⟩
theorem jRd.grown {rb p0 m : Nat} {w0 w w' : World} {ob : Option Nat} (h : jRd rb p0 w0 m w) (hg : w.grownBy w' ob) (hr : rb < w0.heap.size) (ho : ∀ b, ob = some b → w0.heap.size ≤ b) : jRd rb p0 w0 m w' := by
  obtain ⟨⟨p, h1, ⟨a, l, cap, fp, h2, h3, h4, h5⟩, h6⟩, h7⟩ := h
  have hs := h7.size
  have hblk : ∀ b, b ≤ rb → w'.heap[b]? = w.heap[b]? := fun b hb => hg.block b (by omega) (by intro he; have := ho b he.symm; omega)
  refine ⟨⟨p, h1, ⟨a, l, cap, fp, (hblk rb (Nat.le_refl _)).trans h2, (sSlice sByte).frame (fun b hb => hblk b (Nat.le_of_lt (h4 b hb))) h3, h4, h5⟩, h6⟩, ⟨hg.os.trans h7.os, hg.tape.trans h7.tape, hg.output.trans h7.output, Nat.le_trans h7.size hg.size, ?_⟩⟩
  intro k hk hn
  exact (hg.block k (by omega) (by intro he; have := ho k he.symm; omega)).trans (h7.block k hk hn)
theorem jRd.top {rb p0 m B : Nat} {w00 w0 w : World} (h : jRd rb p0 w0 m w) (hb : Below B w00 w0) (hr : B ≤ rb) (hs : B ≤ w0.heap.size) : Below B w00 w := kept_below hb h.2 hr hs
theorem own_kept {B e n rb : Nat} {v : Value} {xs : List Value} {w w' : World} (h : w.ownsRow B e 1 v n xs) (hk : Kept [rb] w w') (hr : rb < B) : w'.ownsRow B e 1 v n xs := by
  refine ⟨h.1, ?_⟩
  rcases h.2 with h0 | ⟨g, cap, cur, rfl, hb, hg, h1, h2, h3, h4⟩
  · exact .inl h0
  · exact .inr ⟨g, cap, cur, rfl, hb, (hk.block g (Array.getElem?_eq_some_iff.1 hg).1 (by simp; omega)).trans hg, h1, h2, h3, h4⟩

/-- A reader and a row of texts of the call's own: as at first, or, behind all, with one of them turned. -/
def jOwn (rb p0 : Nat) (w0 : World) (B : Nat) (v : Value) (L : List ByteArray) (k N M : Nat) (m : Nat) (w : World) : Prop :=
  (∃ p, p ≤ p0 + m ∧ Rd w rb p) ∧ Below w0.heap.size w0 w ∧
    (w.ownsRow B 9 1 v L.length (L.map Value.string) ∨ m = N ∧ ∃ s : ByteArray, s.size ≤ M ∧ w.ownsRow B 9 1 v L.length ((L.set k s).map Value.string))
section
variable {rb p0 B k N M m : Nat} {w0 w w' : World} {v : Value} {L : List ByteArray}
theorem jOwn.row (h : jOwn rb p0 w0 B v L k N M m w) (hm : m < N) : w.ownsRow B 9 1 v L.length (L.map Value.string) := by
  rcases h.2.2 with h | ⟨h, _⟩
  · exact h
  · omega
theorem jOwn.same (h : jOwn rb p0 w0 B v L k N M m w) (hm : m < N) : jOwn rb p0 w0 B v L k N M (m + 1) w := by
  obtain ⟨p, h1, h2⟩ := h.1
  exact ⟨⟨p, by omega, h2⟩, h.2.1, .inl (h.row hm)⟩
theorem jOwn.alloc (h : jOwn rb p0 w0 B v L k N M m w) (hm : m < N) (o : Obj) : jOwn rb p0 w0 B v L k N M (m + 1) (w.alloc o) := by
  obtain ⟨p, h1, h2⟩ := h.1
  have hb := (Below.refl w.heap.size w).alloc (Nat.le_refl _) o
  exact ⟨⟨p, by omega, h2.grow hb⟩, h.2.1.alloc h.2.1.size o, .inl ((h.row hm).alloc o)⟩
theorem jOwn.pick (h : jOwn rb p0 w0 B v L k N M m w) (hm : m < N) {p : Nat} (hp : p ≤ p0 + m) (hR : Rd w' rb (p + 1)) (hk : Kept [rb] w w') (hrb : rb < B) (hr0 : w0.heap.size ≤ rb) : jOwn rb p0 w0 B v L k N M (m + 1) w' :=
  ⟨⟨p + 1, by omega, hR⟩, kept_below h.2.1 hk hr0 h.2.1.size, .inl (own_kept (h.row hm) hk hrb)⟩
theorem jOwn.lts {g cap n : Nat} (h : jOwn rb p0 w0 B (.slice (some ⟨g, 0, none⟩) n cap) L k N M m w) (hm : m < N) (hg : B ≤ g) : ∀ b ∈ [rb, g], b < w.heap.size := fun b hb => by
  obtain ⟨p, h1, h2⟩ := h.1
  rcases List.mem_cons.1 hb with rfl | hb
  · exact h2.lt
  · have : b = g := by simpa using hb
    subst this
    exact ((h.row hm).lt b rfl).2
theorem jOwn.start (h : jOwn rb p0 w0 B v L k N M 0 w) : jOwn rb p0 w0 B v L k N M 0 { w with drawn := w.drawn + 1 } := by
  obtain ⟨p, h1, h2⟩ := h.1
  exact ⟨⟨p, h1, ⟨h2.ex, h2.hp⟩⟩, h.2.1.drew, h.2.2⟩
theorem Rd.kept {rb p : Nat} {fp : List Nat} {w w' : World} (h : Rd w rb p) (hk : Kept fp w w') (hf : ∀ b ∈ fp, rb < b) : Rd w' rb p := by
  have hlt := h.lt
  obtain ⟨⟨a, l, cap, fq, h1, h2, h3, h4⟩, h5⟩ := h
  refine ⟨⟨a, l, cap, fq, (hk.block rb hlt (fun hx => by have := hf rb hx; omega)).trans h1, (sSlice sByte).kept h2 (fun b hb hx => by have := hf b hx; have := h3 b hb; omega) hk, h3, h4⟩, h5⟩
theorem jOwn.store {g cap n : Nat} {s : ByteArray} (h : jOwn rb p0 w0 B (.slice (some ⟨g, 0, none⟩) n cap) L k N M m w) (hm : m < N) (hN : m + 1 = N) (hs : s.size ≤ M) (hrb : rb < B) (hg : B ≤ g) (hw0 : w0.heap.size ≤ B) :
    jOwn rb p0 w0 B (.slice (some ⟨g, 0, none⟩) n cap) L k N M (m + 1) (w.setCell ⟨g, k, none⟩ (.string s)) := by
  obtain ⟨p, h1, h2⟩ := h.1
  have hrow := h.row hm
  have hn : L.length = n := by
    rcases hrow.2 with ⟨h', _⟩ | ⟨g', cap', cur, h', _⟩
    · cases h'
    · simp only [Value.slice.injEq] at h'; exact h'.2.1.symm
  subst hn
  have hk : Kept [g] w (w.setCell ⟨g, k, none⟩ (.string s)) := (Kept.refl _ _).setCell (by simp) _
  refine ⟨⟨p, by omega, h2.kept hk (fun b hb => by have e : b = g := (by simpa using hb); omega)⟩, h.2.1.trans (hk.below (fun b hb => by have e : b = g := (by simpa using hb); omega) h.2.1.size), .inr ⟨hN, s, hs, ?_⟩⟩
  have := (hrow.stored k (.string s)).1
  rw [List.map_set]
  exact this
end
end Go.Proofs.Ytflbdanlcpojbaa

/- Rows of bytes of the call's own. -/
namespace Go.Proofs.Ytflbdanlcpojbaa
open Go.RowKit

theorem ti_bytes : TI Try.prog 22 5 (.int .u8 0) 1 1 := ⟨by kernel_rfl, by kernel_rfl⟩
def Bytes (base : Nat) (v : Value) (s : ByteArray) (w : World) : Prop := w.ownsRow base 5 1 v s.size (Lib.strCells s)
theorem strCells_append (a b : ByteArray) : Lib.strCells (a ++ b) = Lib.strCells a ++ Lib.strCells b := by
  simp [Lib.strCells, ByteArray.data_append]
theorem Bytes.none (base : Nat) (w : World) : Bytes base (.slice Option.none 0 0) ⟨#[]⟩ w := World.ownsRow_nil _ _ _ _
theorem Bytes.drew {base : Nat} {v : Value} {s : ByteArray} {w : World} (h : Bytes base v s w) (n : Nat) : Bytes base v s (w.drewN n) := h
/-- append(b, c) -/
theorem wp_append_byte {w0 : World} {ops : Array Oper} {rest : List Oper} {o : Oper} {a : Act} {Q : Exit → Act → World → Prop} (hg : o.guard = Option.none) (s y : Operand)
    (ho : o.op = .call { callee := .builtin .append, args := #[s, y], argTypes := #[22, 22] })
    (base : Nat) (v : Value) (x b : ByteArray) (c : Int) (hs : a.eval s = v) (hown : Bytes base v x w0) (hy : a.eval y = .slice (some ⟨w0.heap.size, 0, Option.none⟩) 1 1) (hb : Lib.strCells b = [.int .u8 c]) (h63 : x.size ≤ 1000000) (hbase : base ≤ w0.heap.size)
    (h : ∀ v' w', Bytes base v' (x ++ b) w' → w0.grownBy w' v.ownBlock → wpList Try.prog ops Q rest (a.put o.dst v') w') : wpList Try.prog ops Q (o :: rest) a (w0.alloc (.cells #[.int .u8 c] 5)) := by
  have hb1 : b.size = 1 := by have := congrArg List.length hb; rwa [Lib.strCells_length] at this
  refine wp_append_one ti_bytes rfl w0 (.int .u8 c) rfl hg s y ho base v x.size (Lib.strCells x) hs hown hy (by unfold maxLen; omega) (by omega) hbase fun v' w' h1 h2 => h v' w' ?_ h2
  unfold Bytes
  rw [strCells_append, ByteArray.size_append, hb, hb1]
  exact h1
theorem strCells_at (s : ByteArray) (k : Nat) (h : k < s.size) : Lib.strCells (s.extract k (k + 1)) = [.int .u8 (s[k].toNat : Int)] := by
  have e : s.data.toList.length = s.size := Array.length_toList
  unfold Lib.strCells
  rw [ByteArray.data_extract, Array.toList_extract, List.extract_eq_take_drop, List.drop_eq_getElem_cons (by omega), show k + 1 - k = 1 from by omega]
  simp [ByteArray.getElem_eq_getElem_data]
/-- string(b) -/
theorem run_own_string {base : Nat} {v : Value} {s : ByteArray} {w : World} (h : Bytes base v s w) : (convert 22 9 v).run Try.prog w = .ok (.string s) w := by
  rcases h.2 with ⟨rfl, h0⟩ | ⟨g, cap, cur, rfl, hb, hg, hnc, hcm, hcs, htake⟩
  · rw [run_convert_bytes_string _ _ _ 5 _ 0 0 Try.underlying22 Try.underlying5 Try.underlying9]
    have : s = ⟨#[]⟩ := by apply Go.WideShapes.bytes_inj; rw [← List.length_eq_zero_iff, Array.length_toList]; exact h0
    subst this
    simp [Conv.bytesToString, loadCells]
    rfl
  · have hl : s.data.toList.length = s.size := Array.length_toList
    have := run_convert_bytes_back (P := Try.prog) w 22 9 5 ⟨g, 0, Option.none⟩ cap s.data.toList Try.underlying22 Try.underlying5 Try.underlying9 (fun j hj => by
      have h1 := h.cellAt j (by omega)
      have h2 : (Lib.strCells s)[j]? = some (.int .u8 (s.data.toList[j].toNat : Int)) := by simp [Lib.strCells, List.getElem?_eq_getElem hj]
      rw [Addr.add_lit, Nat.zero_add]
      exact h1.trans h2)
    rw [hl] at this
    simpa using this

end Go.Proofs.Ytflbdanlcpojbaa

/- The drawing of a line. -/
namespace Go.Proofs.Ytflbdanlcpojbaa
open Go.RowKit

/-- A text of at most M bytes is drawn, by at most n picks. -/
def Drawn (rb p n M : Nat) (w : World) (e : Ending) (w' : World) : Prop := ∃ (s : ByteArray) (q : Nat), e = .returned (.string s) ∧ s.size ≤ M ∧ q ≤ p + n ∧ Rd w' rb q ∧ Kept [rb] w w'
def line_lits : List ByteArray := [⟨#[10]⟩, ⟨#[127]⟩, ⟨#[64]⟩, ⟨#[34, 115]⟩, ⟨#[97, 98, 99, 100, 101, 102, 103, 104, 105, 106, 107, 108, 109]⟩, ⟨#[92]⟩]
theorem line_lits_size : ∀ s ∈ line_lits, s.size ≤ 13 := by decide

set_option maxHeartbeats 8000000 in
theorem l20Line (rb p : Nat) (n : Int) (w : World) (H : Rd w rb p) (hp : p ≤ 100000) (hn : n ≤ 100) (hn0 : 0 ≤ n) :
    Calls Try.prog 49 #[.pointer (some ⟨rb, 0, none⟩), .int .i64 n] w (Drawn rb p 110 1000 w) := by
  go_enter Try.func49, Try.ntmps49
  go_wp2_with (go_at_call 47; refine (pick rb p _ _ H (by omega) (by omega) (by omega)).mono ?_; rintro e w2 ⟨r, rfl, h0, h1, hR2, hK⟩)
  go_loopw [5, 6] (fun o i wr => ∃ (k q : Nat) (out : ByteArray), k ≤ 6 ∧ q + 14 * k ≤ p + 100 ∧ out.size + 20 * k ≤ 500 ∧ o = .string out ∧ i = .int .i64 k ∧ Rd wr rb q ∧ Kept [rb] w wr) (fun _ i _ => (intOf i).toNat)
  case atStart => exact ⟨r.toNat, p + 1, _, by omega, by omega, by show 0 + _ ≤ _; omega, rfl, by go_num, hR2, hK⟩
  case round =>
    obtain ⟨k, q, out, hk, hq, ho, rfl, rfl, hR, hB⟩ := hrel
    clear hR2 hK
    by_cases hlt : 0 < k
    · go_wp2
      refine wp_region_types (P := Try.prog) (by kernel_rfl) (by kernel_rfl) (Kept [rb]) [pVal (.string out), pLits [rb] 20 6, pVal (.pointer (some ⟨rb, 0, none⟩)), pInt 20, pPtr [rb] 6, pStr 6, pStr (out.size + 6), pLits [rb] 2 1, pVal (.pointer (some ⟨rb, 0, none⟩)), pInt 2, pPtr [rb] 1, pStr 1, pStr ((out.size + 6) + 1), pStr ((out.size + 6) + 1)] (stab_all ⟨stVal _, stLits _ _, stVal _, stInt _, stPtr _, stStr _, stStr _, stLits _ _, stVal _, stInt _, stPtr _, stStr _, stStr _, stStr _, trivial⟩) (jRd rb q wr) ?start (steps_all ⟨?s0, ?s1, ?s2, ?s3, ?s4, ?s5, ?s6, ?s7, ?s8, ?s9, ?s10, ?s11, ?s12, ?s13, trivial⟩) ?done
      case start => exact jRd.start hR
      case s0 =>
        intro xs w' m hl hm hJ hlast hf ho K hK
        replace hm : m < 14 := hm
        obtain ⟨x0, x1, x2, x3, x4, x5, x6, x7, x8, x9, x10, x11, x12, x13, rfl⟩ := len14 hl
        obtain rfl : x13 = .string out := by have := ho 13 _ rfl (.inr ⟨⟨0, .phase⟩, by simp, rfl, rfl⟩); simpa [origs] using this
        clear hlast
        clear hf ho
        simp only [fill, Act.put, List.map_cons, List.map_nil, List.setIfInBounds_toArray, List.set_cons_succ, List.set_cons_zero] at hK ⊢
        go_wp2
        exact hK _ _ (At.mk rfl rfl) (Kept.refl _ _) hJ.same
      case s1 =>
        intro xs w' m hl hm hJ hlast hf ho K hK
        replace hm : m < 14 := hm
        obtain ⟨x0, x1, x2, x3, x4, x5, x6, x7, x8, x9, x10, x11, x12, x13, rfl⟩ := len14 hl
        clear hlast
        clear hf ho
        simp only [fill, Act.put, List.map_cons, List.map_nil, List.setIfInBounds_toArray, List.set_cons_succ, List.set_cons_zero] at hK ⊢
        go_wp2
        exact hK _ _ (At.mk rfl (pLits_new [⟨#[97]⟩, ⟨#[98]⟩, ⟨#[102, 40]⟩, ⟨#[120]⟩, ⟨#[41]⟩, ⟨#[32]⟩, ⟨#[44]⟩, ⟨#[43]⟩, ⟨#[49]⟩, ⟨#[49, 50]⟩, ⟨#[34, 115, 34]⟩, ⟨#[103, 40, 49, 44, 50, 41]⟩, ⟨#[102, 40, 97, 41]⟩, ⟨#[40]⟩, ⟨#[65, 66]⟩, ⟨#[32, 45, 32]⟩, ⟨#[61, 61]⟩, ⟨#[104, 40, 98, 32, 99, 41]⟩, ⟨#[101, 40, 41]⟩, ⟨#[38, 38]⟩] 6 [rb] w' (by decide) hJ.lts 20 rfl)) (Kept.of_below ((Below.refl _ _).alloc (Nat.le_refl _) _)) (hJ.alloc _)
      case s2 =>
        intro xs w' m hl hm hJ hlast hf ho K hK
        replace hm : m < 14 := hm
        obtain ⟨x0, x1, x2, x3, x4, x5, x6, x7, x8, x9, x10, x11, x12, x13, rfl⟩ := len14 hl
        clear hlast
        clear hf ho
        simp only [fill, Act.put, List.map_cons, List.map_nil, List.setIfInBounds_toArray, List.set_cons_succ, List.set_cons_zero] at hK ⊢
        go_wp2
        exact hK _ _ (At.mk rfl rfl) (Kept.refl _ _) hJ.same
      case s3 =>
        intro xs w' m hl hm hJ hlast hf ho K hK
        replace hm : m < 14 := hm
        obtain ⟨x0, x1, x2, x3, x4, x5, x6, x7, x8, x9, x10, x11, x12, x13, rfl⟩ := len14 hl
        have f2 : pVal (.pointer (some ⟨rb, 0, none⟩)) x2 w' := hf ⟨2, .data⟩ (by simp) rfl _ rfl _ rfl
        clear hlast
        clear hf ho
        obtain rfl := f2
        obtain ⟨⟨p1, hp1, hR1⟩, hK1⟩ := hJ
        simp only [fill, Act.put, List.map_cons, List.map_nil, List.setIfInBounds_toArray, List.set_cons_succ, List.set_cons_zero] at hK ⊢
        go_wp2_with (go_at_call 47; refine (pick rb p1 _ _ hR1 (by omega) (by omega) (by omega)).mono ?_; rintro e w2 ⟨rr, rfl, hr0, hr1, hRq, hkq⟩)
        exact hK _ _ (At.mk rfl ⟨rr, rfl, hr0, by omega⟩) hkq ⟨⟨p1 + 1, by omega, hRq⟩, hK1.trans hkq⟩
      case s4 =>
        intro xs w' m hl hm hJ hlast hf ho K hK
        replace hm : m < 14 := hm
        obtain ⟨x0, x1, x2, x3, x4, x5, x6, x7, x8, x9, x10, x11, x12, x13, rfl⟩ := len14 hl
        have f1 : pLits [rb] 20 6 x1 w' := hf ⟨1, .data⟩ (by simp) rfl _ rfl _ rfl
        have f3 : pInt 20 x3 w' := hf ⟨3, .data⟩ (by simp) rfl _ rfl _ rfl
        clear hlast
        clear hf ho
        obtain ⟨ba, rfl, hnea, hba, hca⟩ := f1
        obtain ⟨ri, rfl, hii, hji⟩ := f3
        obtain ⟨s, hc1, hs1⟩ := hca ri.toNat (by omega)
        simp only [fill, Act.put, List.map_cons, List.map_nil, List.setIfInBounds_toArray, List.set_cons_succ, List.set_cons_zero] at hK ⊢
        go_wp2
        exact hK _ _ (At.mk rfl ⟨ba, _, s, rfl, hnea, hba, hc1, hs1⟩) (Kept.refl _ _) hJ.same
      case s5 =>
        intro xs w' m hl hm hJ hlast hf ho K hK
        replace hm : m < 14 := hm
        obtain ⟨x0, x1, x2, x3, x4, x5, x6, x7, x8, x9, x10, x11, x12, x13, rfl⟩ := len14 hl
        have f4 : pPtr [rb] 6 x4 w' := hf ⟨4, .data⟩ (by simp) rfl _ rfl _ rfl
        clear hlast
        clear hf ho
        obtain ⟨ba, ja, sa, rfl, hnea, hba, hca, hsa⟩ := f4
        simp only [fill, Act.put, List.map_cons, List.map_nil, List.setIfInBounds_toArray, List.set_cons_succ, List.set_cons_zero] at hK ⊢
        go_wp2
        exact hK _ _ (At.mk rfl ⟨_, rfl, hsa⟩) (Kept.refl _ _) hJ.same
      case s6 =>
        intro xs w' m hl hm hJ hlast hf ho K hK
        replace hm : m < 14 := hm
        obtain ⟨x0, x1, x2, x3, x4, x5, x6, x7, x8, x9, x10, x11, x12, x13, rfl⟩ := len14 hl
        have f0 : pVal (.string out) x0 w' := hf ⟨0, .data⟩ (by simp) rfl _ rfl _ rfl
        have f5 : pStr 6 x5 w' := hf ⟨5, .data⟩ (by simp) rfl _ rfl _ rfl
        clear hlast
        clear hf ho
        obtain rfl := f0
        obtain ⟨sb, rfl, hsb⟩ := f5
        have hadd := fun W => run_string_add_sum (P := Try.prog) W out sb (by omega)
        simp only [fill, Act.put, List.map_cons, List.map_nil, List.setIfInBounds_toArray, List.set_cons_succ, List.set_cons_zero] at hK ⊢
        go_wp2
        exact hK _ _ (At.mk rfl ⟨_, rfl, by rw [ByteArray.size_append]; omega⟩) (Kept.refl _ _) hJ.same
      case s7 =>
        intro xs w' m hl hm hJ hlast hf ho K hK
        replace hm : m < 14 := hm
        obtain ⟨x0, x1, x2, x3, x4, x5, x6, x7, x8, x9, x10, x11, x12, x13, rfl⟩ := len14 hl
        clear hlast
        clear hf ho
        simp only [fill, Act.put, List.map_cons, List.map_nil, List.setIfInBounds_toArray, List.set_cons_succ, List.set_cons_zero] at hK ⊢
        go_wp2
        exact hK _ _ (At.mk rfl (pLits_new [⟨#[]⟩, ⟨#[32]⟩] 1 [rb] w' (by decide) hJ.lts 2 rfl)) (Kept.of_below ((Below.refl _ _).alloc (Nat.le_refl _) _)) (hJ.alloc _)
      case s8 =>
        intro xs w' m hl hm hJ hlast hf ho K hK
        replace hm : m < 14 := hm
        obtain ⟨x0, x1, x2, x3, x4, x5, x6, x7, x8, x9, x10, x11, x12, x13, rfl⟩ := len14 hl
        clear hlast
        clear hf ho
        simp only [fill, Act.put, List.map_cons, List.map_nil, List.setIfInBounds_toArray, List.set_cons_succ, List.set_cons_zero] at hK ⊢
        go_wp2
        exact hK _ _ (At.mk rfl rfl) (Kept.refl _ _) hJ.same
      case s9 =>
        intro xs w' m hl hm hJ hlast hf ho K hK
        replace hm : m < 14 := hm
        obtain ⟨x0, x1, x2, x3, x4, x5, x6, x7, x8, x9, x10, x11, x12, x13, rfl⟩ := len14 hl
        have f8 : pVal (.pointer (some ⟨rb, 0, none⟩)) x8 w' := hf ⟨8, .data⟩ (by simp) rfl _ rfl _ rfl
        clear hlast
        clear hf ho
        obtain rfl := f8
        obtain ⟨⟨p1, hp1, hR1⟩, hK1⟩ := hJ
        simp only [fill, Act.put, List.map_cons, List.map_nil, List.setIfInBounds_toArray, List.set_cons_succ, List.set_cons_zero] at hK ⊢
        go_wp2_with (go_at_call 47; refine (pick rb p1 _ _ hR1 (by omega) (by omega) (by omega)).mono ?_; rintro e w2 ⟨rr, rfl, hr0, hr1, hRq, hkq⟩)
        exact hK _ _ (At.mk rfl ⟨rr, rfl, hr0, by omega⟩) hkq ⟨⟨p1 + 1, by omega, hRq⟩, hK1.trans hkq⟩
      case s10 =>
        intro xs w' m hl hm hJ hlast hf ho K hK
        replace hm : m < 14 := hm
        obtain ⟨x0, x1, x2, x3, x4, x5, x6, x7, x8, x9, x10, x11, x12, x13, rfl⟩ := len14 hl
        have f7 : pLits [rb] 2 1 x7 w' := hf ⟨7, .data⟩ (by simp) rfl _ rfl _ rfl
        have f9 : pInt 2 x9 w' := hf ⟨9, .data⟩ (by simp) rfl _ rfl _ rfl
        clear hlast
        clear hf ho
        obtain ⟨ba, rfl, hnea, hba, hca⟩ := f7
        obtain ⟨ri, rfl, hii, hji⟩ := f9
        obtain ⟨s, hc1, hs1⟩ := hca ri.toNat (by omega)
        simp only [fill, Act.put, List.map_cons, List.map_nil, List.setIfInBounds_toArray, List.set_cons_succ, List.set_cons_zero] at hK ⊢
        go_wp2
        exact hK _ _ (At.mk rfl ⟨ba, _, s, rfl, hnea, hba, hc1, hs1⟩) (Kept.refl _ _) hJ.same
      case s11 =>
        intro xs w' m hl hm hJ hlast hf ho K hK
        replace hm : m < 14 := hm
        obtain ⟨x0, x1, x2, x3, x4, x5, x6, x7, x8, x9, x10, x11, x12, x13, rfl⟩ := len14 hl
        have f10 : pPtr [rb] 1 x10 w' := hf ⟨10, .data⟩ (by simp) rfl _ rfl _ rfl
        clear hlast
        clear hf ho
        obtain ⟨ba, ja, sa, rfl, hnea, hba, hca, hsa⟩ := f10
        simp only [fill, Act.put, List.map_cons, List.map_nil, List.setIfInBounds_toArray, List.set_cons_succ, List.set_cons_zero] at hK ⊢
        go_wp2
        exact hK _ _ (At.mk rfl ⟨_, rfl, hsa⟩) (Kept.refl _ _) hJ.same
      case s12 =>
        intro xs w' m hl hm hJ hlast hf ho K hK
        replace hm : m < 14 := hm
        obtain ⟨x0, x1, x2, x3, x4, x5, x6, x7, x8, x9, x10, x11, x12, x13, rfl⟩ := len14 hl
        have f6 : pStr (out.size + 6) x6 w' := hf ⟨6, .data⟩ (by simp) rfl _ rfl _ rfl
        have f11 : pStr 1 x11 w' := hf ⟨11, .data⟩ (by simp) rfl _ rfl _ rfl
        clear hlast
        clear hf ho
        obtain ⟨sa, rfl, hsa⟩ := f6
        obtain ⟨sb, rfl, hsb⟩ := f11
        have hadd := fun W => run_string_add_sum (P := Try.prog) W sa sb (by omega)
        simp only [fill, Act.put, List.map_cons, List.map_nil, List.setIfInBounds_toArray, List.set_cons_succ, List.set_cons_zero] at hK ⊢
        go_wp2
        exact hK _ _ (At.mk rfl ⟨_, rfl, by rw [ByteArray.size_append]; omega⟩) (Kept.refl _ _) hJ.same
      case s13 =>
        intro xs w' m hl hm hJ hlast hf ho K hK
        replace hm : m < 14 := hm
        obtain ⟨x0, x1, x2, x3, x4, x5, x6, x7, x8, x9, x10, x11, x12, x13, rfl⟩ := len14 hl
        have f12 : pStr ((out.size + 6) + 1) x12 w' := hf ⟨12, .data⟩ (by simp) rfl _ rfl _ rfl
        clear hlast
        clear hf ho
        obtain ⟨sa, rfl, hsa⟩ := f12
        simp only [fill, Act.put, List.map_cons, List.map_nil, List.setIfInBounds_toArray, List.set_cons_succ, List.set_cons_zero] at hK ⊢
        go_wp2
        exact hK _ _ (At.mk rfl ⟨_, rfl, hsa⟩) (Kept.refl _ _) hJ.same
      case done =>
        intro xs w' hl hf hJ
        obtain ⟨x0, x1, x2, x3, x4, x5, x6, x7, x8, x9, x10, x11, x12, x13, rfl⟩ := len14 hl
        have f13 : pStr ((out.size + 6) + 1) x13 w' := hf 13 _ rfl _ rfl
        obtain ⟨sz, rfl, hsz⟩ := f13
        clear hf
        obtain ⟨⟨p1, hp1, hR1⟩, hK1⟩ := hJ
        replace hp1 : p1 ≤ q + 14 := hp1
        simp only [fill, Act.put, List.map_cons, List.map_nil, List.setIfInBounds_toArray, List.set_cons_succ, List.set_cons_zero]
        go_wp2
        go_roundw
        case rel => exact ⟨k - 1, p1, sz, by omega, by omega, by omega, rfl, by go_num, hR1, hB.trans hK1⟩
        case measure => simp [intOf]; omega
    · go_wp2_with fail
      refine (odd rb q _ _ hR (by omega) (by omega) (by omega)).mono ?_
      rintro e w3 ⟨b, q2, rfl, hq1, hq2, hR3, hK3⟩
      cases b
      · go_wp2
        go_ret
        exact ⟨out, q2, rfl, by omega, by omega, hR3, hB.trans hK3⟩
      · go_wp2_with (go_at_call 47; refine (pick rb q2 _ _ (hR3.grow ((Below.refl _ _).alloc (Nat.le_refl _) _)) (by omega) (by omega) (by omega)).mono ?_; rintro e w4 ⟨r2, rfl, h20, h21, hR4, hK4⟩; obtain ⟨s, hs, hc⟩ := lit_pick line_lits 13 line_lits_size h20 (by show r2 < 6; omega) hR3.lt hK4; have hadd := fun W => run_string_add_sum (P := Try.prog) W out s (by omega))
        go_ret
        exact ⟨out ++ s, q2 + 1, rfl, by rw [ByteArray.size_append]; omega, by omega, hR4, (hB.trans hK3).trans ((Kept.of_below ((Below.refl _ _).alloc (Nat.le_refl _) _)).trans hK4)⟩

end Go.Proofs.Ytflbdanlcpojbaa

/- The drawing of tokens. -/
namespace Go.Proofs.Ytflbdanlcpojbaa
open Go.RowKit

/-- A drawn token: small. -/
def okTok (t : Tok) : Prop := t.text.size ≤ 1000 ∧ 0 ≤ t.kind ∧ t.kind ≤ 4 ∧ t.hidden.length ≤ 3
def elemTok (t : Tok) : Elem Tok := ⟨freshCells t, t, []⟩
theorem toks_rowE {base : Nat} {v : Value} {l : List Tok} {w : World} {B : Nat} (h : TokRow base v l w) (hf : Fresh B l) (hB : B ≤ 1000) :
    RowE sTok base 35 v (l.map elemTok) w ∧ ∀ x ∈ l.map elemTok, okTok x.d := by
  have hL : (l.map elemTok).flatMap (·.cells) = l.flatMap freshCells := by rw [List.flatMap_map]; rfl
  have hx : ∀ x ∈ l.map elemTok, ∃ t ∈ l, x = elemTok t := fun x hx => by
    obtain ⟨t, ht, rfl⟩ := List.mem_map.1 hx
    exact ⟨t, ht, rfl⟩
  refine ⟨⟨by rw [hL, List.length_map]; exact h, fun x hm => ?_, fun x hm => ?_, fun x hm b hb => ?_, fun x hm b hb => ?_⟩, fun x hm => ?_⟩ <;> obtain ⟨t, ht, rfl⟩ := hx x hm
  · rfl
  · obtain ⟨a1, a2, a3, a4⟩ := hf t ht
    have b1 : okInt t.kind := ⟨by omega, by omega⟩
    have b2 : okStr t.text := by unfold okStr maxLen; omega
    have b3 : (sSlice sStr).R w [.slice none 0 0] t.hidden [] := by rw [a2]; exact slice_empty sStr w none 0 (by simp)
    exact ⟨_, rfl, b1, b2, b3⟩
  · simp [elemTok] at hb
  · simp [elemTok] at hb
  · obtain ⟨a1, a2, a3, a4⟩ := hf t ht
    exact ⟨Nat.le_trans a1 hB, by show 0 ≤ t.kind; omega, a4, by show t.hidden.length ≤ 3; rw [a2]; simp⟩

/-- The lists of names out of which a token's hidden ones are drawn. -/
abbrev hidW (w : World) : World :=
  (((((w.alloc (.cells #[.string ⟨#[97]⟩] 9)).alloc (.cells #[.string ⟨#[97]⟩, .string ⟨#[98]⟩] 9)).alloc (.cells #[.string ⟨#[102]⟩] 9)).alloc (.cells #[.string ⟨#[97]⟩, .string ⟨#[102]⟩, .string ⟨#[103]⟩] 9)).alloc
    (.cells #[.slice (some ⟨w.heap.size, 0, none⟩) 1 1, .slice (some ⟨w.heap.size + 1, 0, none⟩) 2 2, .slice (some ⟨w.heap.size + 1 + 1, 0, none⟩) 1 1, .slice (some ⟨w.heap.size + 1 + 1 + 1, 0, none⟩) 3 3] 23))
def hidL (n : Nat) : List Obj := [.cells #[.string ⟨#[97]⟩] 9, .cells #[.string ⟨#[97]⟩, .string ⟨#[98]⟩] 9, .cells #[.string ⟨#[102]⟩] 9, .cells #[.string ⟨#[97]⟩, .string ⟨#[102]⟩, .string ⟨#[103]⟩] 9,
  .cells #[.slice (some ⟨n, 0, none⟩) 1 1, .slice (some ⟨n + 1, 0, none⟩) 2 2, .slice (some ⟨n + 1 + 1, 0, none⟩) 1 1, .slice (some ⟨n + 1 + 1 + 1, 0, none⟩) 3 3] 23]
theorem hidW_eq (w : World) : hidW w = allocs w (hidL w.heap.size) := rfl
theorem hidW_below (w : World) : Below w.heap.size w (hidW w) := by rw [hidW_eq]; exact allocs_below _ _ (Below.refl _ _) (Nat.le_refl _)
theorem hidW_blk (w : World) (j : Nat) (hj : j < 5) : (hidW w).heap[w.heap.size + j]? = some ((hidL w.heap.size)[j]'hj) := by rw [hidW_eq]; exact allocs_blk w (hidL w.heap.size) j hj
theorem hidW_size (w : World) : (hidW w).heap.size = w.heap.size + 5 := by rw [hidW_eq, allocs_size]; rfl
/-- A literal row of texts. -/
theorem lit_strs {w : World} {b : Nat} {l : List ByteArray} {t : TypeId} {fr : Nat × Nat} (h : w.heap[b]? = some (.cells (l.map Value.string).toArray t fr)) (hs : ∀ s ∈ l, s.size ≤ 1000) (h0 : 0 < l.length) (hl : l.length ≤ 1000) (n : Nat) (hn : l.length = n) :
    (sSlice sStr).R w [.slice (some ⟨b, 0, none⟩) n n] l [b] := by
  subst hn
  refine ⟨_, _, rfl, Nat.le_refl _, by unfold maxLen; omega, .inr ⟨h0, b, 0, fun _ => [], rfl, by simp, (Array.getElem?_eq_some_iff.1 h).1, fun i hi => ⟨[.string l[i]], ⟨rfl, fun j hj => ?_⟩, rfl, ?_, rfl⟩⟩⟩
  · have hj0 : j = 0 := by simp [sStr, sFlat] at hj; omega
    subst hj0
    have := cell_of_row w b i _ _ _ h
    simp only [sStr, sFlat, Nat.mul_one, Nat.zero_add, Nat.add_zero] at *
    rw [this]; simp [List.getElem?_eq_getElem hi]
  · have := hs _ (List.getElem_mem hi)
    unfold okStr maxLen; omega
theorem hid_lits {w w3 : World} {rb : Nat} {r : Int} (hr : rb < w.heap.size) (hK : Kept [rb] (hidW w) w3) (h0 : 0 ≤ r) (h1 : r < 4) :
    ∃ b n l, w3.cell? ⟨w.heap.size + 1 + 1 + 1 + 1, r.toNat, none⟩ = some (.slice (some ⟨b, 0, none⟩) n n) ∧ (sSlice sStr).R w3 [.slice (some ⟨b, 0, none⟩) n n] l [b] ∧ l.length ≤ 3 ∧ w.heap.size ≤ b ∧ ∃ cur fr, w3.heap[b]? = some (.cells cur 9 fr) := by
  have gs := hidW_size w
  have g0 := hidW_blk w 0 (by omega)
  have g1 := hidW_blk w 1 (by omega)
  have g2 := hidW_blk w 2 (by omega)
  have g3 := hidW_blk w 3 (by omega)
  have g4 := hidW_blk w 4 (by omega)
  have k0 := (hK.block _ (by omega) (by simp; omega)).trans g0
  have k1 := (hK.block _ (by omega) (by simp; omega)).trans g1
  have k2 := (hK.block _ (by omega) (by simp; omega)).trans g2
  have k3 := (hK.block _ (by omega) (by simp; omega)).trans g3
  have k4 := (hK.block _ (by omega) (by simp; omega)).trans g4
  have hc := fun j => cell_of_row w3 (w.heap.size + 1 + 1 + 1 + 1) j _ _ _ k4
  have hr4 : r = 0 ∨ r = 1 ∨ r = 2 ∨ r = 3 := by omega
  rcases hr4 with rfl | rfl | rfl | rfl
  · exact ⟨_, 1, [⟨#[97]⟩], hc 0, lit_strs (l := [⟨#[97]⟩]) k0 (by decide) (by decide) (by decide) 1 rfl, by decide, by omega, _, _, k0⟩
  · exact ⟨_, 2, [⟨#[97]⟩, ⟨#[98]⟩], hc 1, lit_strs (l := [⟨#[97]⟩, ⟨#[98]⟩]) k1 (by decide) (by decide) (by decide) 2 rfl, by decide, by omega, _, _, k1⟩
  · exact ⟨_, 1, [⟨#[102]⟩], hc 2, lit_strs (l := [⟨#[102]⟩]) k2 (by decide) (by decide) (by decide) 1 rfl, by decide, by omega, _, _, k2⟩
  · exact ⟨_, 3, [⟨#[97]⟩, ⟨#[102]⟩, ⟨#[103]⟩], hc 3, lit_strs (l := [⟨#[97]⟩, ⟨#[102]⟩, ⟨#[103]⟩]) k3 (by decide) (by decide) (by decide) 3 rfl, by decide, by omega, _, _, k3⟩

def tokE (k : Int) (s : ByteArray) (ao : Option Addr) (m : Nat) (l : List ByteArray) (fp : List Nat) : Elem Tok := ⟨[.int .i64 k, .string s, .bool false, .slice ao m m], ⟨k, s, false, l⟩, fp⟩
/-- The tokens that are not valid, out of which one is drawn. -/
def badE (n : Nat) : List (Elem Tok) := [tokE 0 ⟨#[]⟩ none 0 [] [], tokE 1 ⟨#[49, 97]⟩ none 0 [] [], tokE 1 ⟨#[97, 32, 98]⟩ none 0 [] [], tokE 2 ⟨#[97]⟩ none 0 [] [], tokE 4 ⟨#[64]⟩ none 0 [] [], tokE 3 ⟨#[34, 97]⟩ none 0 [] [],
  tokE 1 ⟨#[97]⟩ (some ⟨n, 0, none⟩) 2 [⟨#[98]⟩, ⟨#[97]⟩] [n], tokE 1 ⟨#[97]⟩ (some ⟨n + 1, 0, none⟩) 1 [⟨#[49]⟩] [n + 1]]
def badL (n : Nat) : List Obj := [.cells #[.string ⟨#[98]⟩, .string ⟨#[97]⟩] 9, .cells #[.string ⟨#[49]⟩] 9, .cells ((badE n).flatMap (·.cells)).toArray 35]
abbrev badW (w : World) : World :=
  ((w.alloc (.cells #[.string ⟨#[98]⟩, .string ⟨#[97]⟩] 9)).alloc (.cells #[.string ⟨#[49]⟩] 9)).alloc
    (.cells #[.int .i64 0, .string ⟨#[]⟩, .bool false, .slice none 0 0, .int .i64 1, .string ⟨#[49, 97]⟩, .bool false, .slice none 0 0, .int .i64 1, .string ⟨#[97, 32, 98]⟩, .bool false, .slice none 0 0, .int .i64 2, .string ⟨#[97]⟩, .bool false, .slice none 0 0,
      .int .i64 4, .string ⟨#[64]⟩, .bool false, .slice none 0 0, .int .i64 3, .string ⟨#[34, 97]⟩, .bool false, .slice none 0 0, .int .i64 1, .string ⟨#[97]⟩, .bool false, .slice (some ⟨w.heap.size, 0, none⟩) 2 2, .int .i64 1, .string ⟨#[97]⟩, .bool false, .slice (some ⟨w.heap.size + 1, 0, none⟩) 1 1] 35)
theorem badW_eq (w : World) : badW w = allocs w (badL w.heap.size) := rfl
theorem badW_below (w : World) : Below w.heap.size w (badW w) := by rw [badW_eq]; exact allocs_below _ _ (Below.refl _ _) (Nat.le_refl _)
theorem badW_blk (w : World) (j : Nat) (hj : j < 3) : (badW w).heap[w.heap.size + j]? = some ((badL w.heap.size)[j]'hj) := by rw [badW_eq]; exact allocs_blk w (badL w.heap.size) j hj
theorem badW_size (w : World) : (badW w).heap.size = w.heap.size + 3 := by rw [badW_eq, allocs_size]; rfl
theorem badE_len (n : Nat) : ∀ x ∈ badE n, x.cells.length = 4 := by
  intro x hx
  simp only [badE, List.mem_cons, List.not_mem_nil, or_false] at hx
  rcases hx with rfl | rfl | rfl | rfl | rfl | rfl | rfl | rfl <;> rfl
theorem badE_form (n : Nat) : ∀ x ∈ badE n, okTok x.d ∧ ∃ k s ao m l fp, x = tokE k s ao m l fp ∧ (fp = [] ∧ l = [] ∧ ao = none ∧ m = 0 ∨ fp = [n] ∧ l = [⟨#[98]⟩, ⟨#[97]⟩] ∧ ao = some ⟨n, 0, none⟩ ∧ m = 2 ∨ fp = [n + 1] ∧ l = [⟨#[49]⟩] ∧ ao = some ⟨n + 1, 0, none⟩ ∧ m = 1) := by
  intro x hx
  simp only [badE, List.mem_cons, List.not_mem_nil, or_false] at hx
  have ok : ∀ (k : Int) (s : ByteArray) (l : List ByteArray), s.size ≤ 1000 → 0 ≤ k → k ≤ 4 → l.length ≤ 3 → okTok ⟨k, s, false, l⟩ := fun k s l a b c d => ⟨a, b, c, d⟩
  rcases hx with rfl | rfl | rfl | rfl | rfl | rfl | rfl | rfl
  · exact ⟨ok _ _ _ (by decide) (by decide) (by decide) (by decide), _, _, _, _, _, _, rfl, .inl ⟨rfl, rfl, rfl, rfl⟩⟩
  · exact ⟨ok _ _ _ (by decide) (by decide) (by decide) (by decide), _, _, _, _, _, _, rfl, .inl ⟨rfl, rfl, rfl, rfl⟩⟩
  · exact ⟨ok _ _ _ (by decide) (by decide) (by decide) (by decide), _, _, _, _, _, _, rfl, .inl ⟨rfl, rfl, rfl, rfl⟩⟩
  · exact ⟨ok _ _ _ (by decide) (by decide) (by decide) (by decide), _, _, _, _, _, _, rfl, .inl ⟨rfl, rfl, rfl, rfl⟩⟩
  · exact ⟨ok _ _ _ (by decide) (by decide) (by decide) (by decide), _, _, _, _, _, _, rfl, .inl ⟨rfl, rfl, rfl, rfl⟩⟩
  · exact ⟨ok _ _ _ (by decide) (by decide) (by decide) (by decide), _, _, _, _, _, _, rfl, .inl ⟨rfl, rfl, rfl, rfl⟩⟩
  · exact ⟨ok _ _ _ (by decide) (by decide) (by decide) (by decide), _, _, _, _, _, _, rfl, .inr (.inl ⟨rfl, rfl, rfl, rfl⟩)⟩
  · exact ⟨ok _ _ _ (by decide) (by decide) (by decide) (by decide), _, _, _, _, _, _, rfl, .inr (.inr ⟨rfl, rfl, rfl, rfl⟩)⟩
/-- One of them, picked. -/
def PickedTok (B g : Nat) (i : Nat) (w : World) : Prop :=
  ∃ (k : Int) (s : ByteArray) (ao : Option Addr) (m : Nat) (l : List ByteArray) (fp : List Nat),
    w.cell? ⟨g, i * 4, none⟩ = some (.int .i64 k) ∧ w.cell? ⟨g, i * 4 + 1, none⟩ = some (.string s) ∧ w.cell? ⟨g, i * 4 + 2, none⟩ = some (.bool false) ∧ w.cell? ⟨g, i * 4 + 3, none⟩ = some (.slice ao m m) ∧
    sTok.R w [.int .i64 k, .string s, .bool false, .slice ao m m] ⟨k, s, false, l⟩ fp ∧ okTok ⟨k, s, false, l⟩ ∧ (∀ b ∈ fp, B ≤ b) ∧ (∀ b ∈ fp, ∃ cur t fr, w.heap[b]? = some (.cells cur t fr) ∧ t ≠ 35)
theorem bad_pick {w w4 : World} {rb : Nat} {r : Int} (hr : rb < w.heap.size) (hK : Kept [rb] (badW w) w4) (h0 : 0 ≤ r) (h1 : r < 8) : PickedTok w.heap.size (w.heap.size + 1 + 1) r.toNat w4 := by
  have gs := badW_size w
  have k0 := (hK.block _ (by omega) (by simp; omega)).trans (badW_blk w 0 (by omega))
  have k1 := (hK.block _ (by omega) (by simp; omega)).trans (badW_blk w 1 (by omega))
  have k2 := (hK.block _ (by omega) (by simp; omega)).trans (badW_blk w 2 (by omega))
  have hr8 : r.toNat < (badE w.heap.size).length := by show _ < 8; omega
  have hmem := List.getElem_mem hr8
  obtain ⟨hok, k, s, ao, m, l, fp, hx, hways⟩ := badE_form _ _ hmem
  have hc : ∀ j, j < 4 → w4.cell? ⟨w.heap.size + 1 + 1, r.toNat * 4 + j, none⟩ = (tokE k s ao m l fp).cells[j]? := fun j hj => by
    rw [cell_of_row w4 (w.heap.size + 1 + 1) (r.toNat * 4 + j) _ _ _ k2, List.getElem?_toArray, flatMap_at (f := Elem.cells) (badE_len _) hr8 hj, hx]
  rw [hx] at hok
  obtain ⟨o1, o2, o3, o4⟩ := hok
  have b1 : okInt k := ⟨by have : 0 ≤ k := o2; omega, by have : k ≤ 4 := o3; omega⟩
  have b2 : okStr s := by unfold okStr maxLen; have : s.size ≤ 1000 := o1; omega
  refine ⟨k, s, ao, m, l, fp, hc 0 (by omega), hc 1 (by omega), hc 2 (by omega), hc 3 (by omega), ?_, ⟨o1, o2, o3, o4⟩, ?_, ?_⟩
  · rcases hways with ⟨rfl, rfl, rfl, rfl⟩ | ⟨rfl, rfl, rfl, rfl⟩ | ⟨rfl, rfl, rfl, rfl⟩
    · exact ⟨_, rfl, b1, b2, slice_empty sStr _ _ _ (by simp)⟩
    · exact ⟨_, rfl, b1, b2, lit_strs (l := [⟨#[98]⟩, ⟨#[97]⟩]) k0 (by decide) (by decide) (by decide) 2 rfl⟩
    · exact ⟨_, rfl, b1, b2, lit_strs (l := [⟨#[49]⟩]) k1 (by decide) (by decide) (by decide) 1 rfl⟩
  · intro b hb
    rcases hways with ⟨rfl, _⟩ | ⟨rfl, _⟩ | ⟨rfl, _⟩ <;> simp at hb <;> omega
  · intro b hb
    rcases hways with ⟨rfl, _⟩ | ⟨rfl, _⟩ | ⟨rfl, _⟩ <;> simp at hb <;> subst hb
    · exact ⟨_, _, _, k0, by decide⟩
    · exact ⟨_, _, _, k1, by decide⟩

/-- append of one token out of its literal's own block. -/
theorem wp_append_tokE {w : World} {ops : Array Oper} {rest : List Oper} {o : Oper} {a : Act} {Q : Exit → Act → World → Prop} (hg : o.guard = none) (s y : Operand)
    (ho : o.op = .call { callee := .builtin .append, args := #[s, y], argTypes := #[24, 24] })
    (base : Nat) (v : Value) (L : List (Elem Tok)) (hs : a.eval s = v) (hown : RowE sTok base 35 v L w) (k : Int) (x : ByteArray) (b : Bool) (ao : Option Addr) (m c : Nat) (l : List ByteArray) (fp : List Nat)
    (hy : a.eval y = .slice (some ⟨w.heap.size, 0, none⟩) 1 1) (hR : sTok.R w [.int .i64 k, .string x, .bool b, .slice ao m c] ⟨k, x, b, l⟩ fp) (hlo : ∀ b ∈ fp, base ≤ b) (hty : ∀ b ∈ fp, ∃ cur t fr, w.heap[b]? = some (.cells cur t fr) ∧ t ≠ 35)
    (h63 : L.length ≤ 2000000) (hbase : base ≤ w.heap.size)
    (h : ∀ v' w', RowE sTok base 35 v' (L ++ [⟨[.int .i64 k, .string x, .bool b, .slice ao m c], ⟨k, x, b, l⟩, fp⟩]) w' → w.grownBy w' v.ownBlock → wpList Try.prog ops Q rest (a.put o.dst v') w') :
    wpList Try.prog ops Q (o :: rest) a (w.alloc (.cells #[.int .i64 k, .string x, .bool b, .slice ao m c] 35)) := by
  have hb := alloc_below' w (.cells #[.int .i64 k, .string x, .bool b, .slice ao m c] 35)
  refine wp_append_rowE (S := sTok) ti_tok rfl (by decide) _ (X := [⟨[.int .i64 k, .string x, .bool b, .slice ao m c], ⟨k, x, b, l⟩, fp⟩]) hg s y ho base v hs (hown.below hb) w.heap.size 1 1 hy rfl ?_ ?_ ?_ ?_ ?_ ?_ (by unfold maxLen; omega) (by omega) (by simp; omega) fun v' w' a b => h v' w' a (grown_trans (World.grownBy_alloc _ _ _) b)
  · intro x hx; obtain rfl := List.mem_singleton.1 hx; rfl
  · intro x hx; obtain rfl := List.mem_singleton.1 hx; simp [Value.oneCell']
  · intro j u hj
    rw [World.cell?_alloc_at _ _ _ _ rfl]
    simpa using hj
  · intro x hx; obtain rfl := List.mem_singleton.1 hx; exact sTok.below hR hb
  · intro x hx; obtain rfl := List.mem_singleton.1 hx; exact hlo
  · intro x hx b' hb'
    obtain rfl := List.mem_singleton.1 hx
    obtain ⟨cur, t, fr, h1, h2⟩ := hty b' hb'
    exact ⟨cur, t, fr, (hb.block b' (Array.getElem?_eq_some_iff.1 h1).1).trans h1, h2⟩

theorem okApp {L : List (Elem Tok)} {x : Elem Tok} (h : ∀ x ∈ L, okTok x.d) (hx : okTok x.d) : ∀ y ∈ L ++ [x], okTok y.d := fun y hy => by
  rcases List.mem_append.1 hy with hy | hy
  · exact h y hy
  · obtain rfl := List.mem_singleton.1 hy; exact hx
theorem grownRd {rb p B : Nat} {w w' : World} {ob : Option Nat} (h : Rd w rb p) (hg : w.grownBy w' ob) (hr : rb < B) (ho : ∀ b, ob = some b → B ≤ b) : Rd w' rb p := by
  obtain ⟨⟨a, l, cap, fp, h2, h3, h4, h5⟩, h6⟩ := h
  have hlt := (Array.getElem?_eq_some_iff.1 h2).1
  have hblk : ∀ b, b ≤ rb → w'.heap[b]? = w.heap[b]? := fun b hb => hg.block b (by omega) (by intro he; have := ho b he.symm; omega)
  exact ⟨⟨a, l, cap, fp, (hblk rb (Nat.le_refl _)).trans h2, (sSlice sByte).frame (fun b hb => hblk b (Nat.le_of_lt (h4 b hb))) h3, h4, h5⟩, h6⟩
theorem grownKept {rb : Nat} {w0 w w' : World} {ob : Option Nat} (h : Kept [rb] w0 w) (hg : w.grownBy w' ob) (ho : ∀ b, ob = some b → w0.heap.size ≤ b) : Kept [rb] w0 w' :=
  ⟨hg.os.trans h.os, hg.tape.trans h.tape, hg.output.trans h.output, Nat.le_trans h.size hg.size, fun k hk hn => (hg.block k (Nat.lt_of_lt_of_le hk h.size) (by intro he; have := ho k he.symm; omega)).trans (h.block k hk hn)⟩
theorem rdSet {rb g p : Nat} {w : World} (h : Rd w rb p) (hr : rb < g) (o : Nat) (u : Value) : Rd (w.setCell ⟨g, o, none⟩ u) rb p :=
  h.kept ((Kept.refl [g] w).setCell (p := ⟨g, o, none⟩) (by simp) u) (fun b hb => by have e : b = g := (by simpa using hb); omega)
theorem keptSet {rb g : Nat} {w w' : World} (hk : Kept [rb] w w') (hg : w.heap.size ≤ g) (u : Value) (o : Nat) : Kept [rb] w (w'.setCell ⟨g, o, none⟩ u) :=
  ⟨hk.os, hk.tape, hk.output, by simp [World.setCell]; exact hk.size, fun k h1 h2 => (Below.heap_setCell _ _ _ _ (by show k ≠ g; omega)).trans (hk.block k h1 h2)⟩
/-- Tokens are drawn, by at most n picks. -/
def DrawnToks (rb p n : Nat) (least : Nat) (w : World) (e : Ending) (w' : World) : Prop :=
  ∃ (v : Value) (L : List (Elem Tok)) (q : Nat), e = .returned v ∧ RowE sTok w.heap.size 35 v L w' ∧ (∀ x ∈ L, okTok x.d) ∧ least ≤ L.length ∧ L.length ≤ 61 ∧ q ≤ p + n ∧ Rd w' rb q ∧ Kept [rb] w w'

/-- .. 'odd' of 1 is true. -/
def OddT (rb p : Nat) (n : Int) (w : World) (e : Ending) (w' : World) : Prop := ∃ b : Bool, ∃ q : Nat, e = .returned (.bool b) ∧ Hid (n = 1 → b = true) ∧ p ≤ q ∧ q ≤ p + 1 ∧ Rd w' rb q ∧ Kept [rb] w w'
set_option maxHeartbeats 1000000 in
theorem oddT (rb p : Nat) (n : Int) (w : World) (H : Rd w rb p) (hp : p < 1000000) (hn : n ≤ 1000000) (hn0 : 0 ≤ n) :
    Calls Try.prog 24 #[.pointer (some ⟨rb, 0, none⟩), .int .i64 n] w (OddT rb p n w) := by
  by_cases h0 : 0 < n
  · go_enter Try.func24, Try.ntmps24
    go_wp2_with (go_at_call 47; refine (pick _ _ _ _ H hp hn (by omega)).mono ?_; rintro e w' ⟨r, rfl, hr0, hr1, hr2, hr3⟩)
    go_ret
    exact ⟨_, p + 1, rfl, (fun h => by simp; omega), by omega, by omega, hr2, hr3⟩
  · have e0 : n = 0 := by omega
    subst e0
    go_enter Try.func24, Try.ntmps24
    go_wp2
    go_ret
    exact ⟨_, p, rfl, (fun h => absurd h (by decide)), by omega, by omega, H, Kept.refl _ _⟩

set_option maxHeartbeats 8000000 in
set_option maxRecDepth 100000 in
theorem l20Tokens (rb p : Nat) (n : Int) (w : World) (H : Rd w rb p) (hp : p ≤ 100000) (hn : n ≤ 100) (hn0 : 0 ≤ n) (least : Nat) (hl : least ≤ 1) (hl1 : 0 < least → n = 1) :
    Calls Try.prog 23 #[.pointer (some ⟨rb, 0, none⟩), .int .i64 n] w (DrawnToks rb p 300 least w) := by
  have hrb := H.lt
  go_enter Try.func23, Try.ntmps23
  go_wp2_with fail
  refine (l20Line rb p _ _ H hp (by omega) (by omega)).mono ?_
  rintro e w1 ⟨s, q1, rfl, hs, hq1, hR1, hK1⟩
  go_wp2_with fail
  refine (spec_TokensOf_row s _ (by unfold maxLen; omega)).mono ?_
  rintro e w2 ⟨v, rfl, hrow, hfr, hB2⟩
  have hcnt := (tokRes_all s).1
  obtain ⟨hE0, hok0⟩ := toks_rowE hrow hfr hs
  have hR2 := hR1.grow hB2
  have hK2 := hK1.trans (Kept.of_below (fp := [rb]) hB2)
  replace hE0 := hE0.lower hK1.size
  have HN : Hid (((tokRes s).1.map elemTok).length ≤ 60) := by show _ ≤ _; rw [List.length_map]; exact hcnt
  generalize (tokRes s).1.map elemTok = L0 at hE0 hok0 HN
  generalize (tokRes s).2 = b0 at *
  clear hrow hfr hcnt hB2 hR1 hK1
  obtain ⟨a, cap, rfl, hc, hm, hpos⟩ := hE0.val
  unfold maxLen at hm
  have hlen := HN.out
  go_wp2
  go_loopw [7] (fun i wr => ∃ (k q : Nat) (L : List (Elem Tok)), k ≤ L0.length ∧ i = .int .i64 k ∧ q ≤ q1 + 2 * k ∧ Hid (L.length = L0.length) ∧ RowE sTok w.heap.size 35 (.slice a L0.length cap) L wr ∧ (∀ x ∈ L, okTok x.d) ∧ Rd wr rb q ∧ Kept [rb] w wr) (fun i _ => L0.length - (intOf i).toNat)
  case atStart => exact ⟨0, q1, L0, by omega, rfl, by omega, rfl, hE0, hok0, hR2, hK2⟩
  case round =>
    obtain ⟨k, q, L, hk, rfl, hq, HL, hE, hok, hR, hK⟩ := hrel
    clear hE0 hok0 hR2 hK2
    by_cases hlt : k < L0.length
    · obtain ⟨g, rfl, hg1, hg2⟩ := hpos (by omega)
      go_wp2_with fail
      refine (pick rb q _ _ hR (by omega) (by omega) (by omega)).mono ?_
      rintro e w3 ⟨r, rfl, h0, h1, hR3, hK3⟩
      have hE3 := hE.keptR hK3 hrb
      have hK3' := hK.trans hK3
      by_cases hr : r = 0
      · have hr' : (r == 0) = true := by simp [hr]
        clear hr
        go_wp2_with fail
        refine (pick rb (q + 1) _ _ (hR3.grow (hidW_below w3)) (by omega) (by omega) (by omega)).mono ?_
        rintro e w4 ⟨r2, rfl, h20, h21, hR4, hK4⟩
        obtain ⟨hb, hn', l, hcl, hRl, hll, hlb, hty⟩ := hid_lits hR3.lt hK4 h20 (by omega)
        have hE4 := (hE3.below (hidW_below w3)).keptR hK4 hrb
        have hK4' := (hK3'.trans (Kept.of_below (fp := [rb]) (hidW_below w3))).trans hK4
        have hkL : k < L.length := by rw [HL.out]; exact hlt
        have hkm := List.getElem_mem hkL
        obtain ⟨hh, hcs, hi, hst, _⟩ := hE4.el _ hkm
        have HCS := Lib.hid hcs
        have c3 : w4.cell? ⟨g, k * 4 + 3, none⟩ = some hh := hE4.cellAt hkL (j := 3) (by decide) (by rw [hcs]; rfl)
        have f3 : w4.frozen? ⟨g, k * 4 + 3, none⟩ = false := hE4.frozen _
        have HOK := Lib.hid (hok _ hkm)
        have HI := Lib.hid (And.intro hi hst)
        obtain ⟨cur, fr, hcur⟩ := hty
        have HS : Hid (RowE sTok w.heap.size 35 (.slice (some ⟨g, 0, none⟩) L0.length cap) (L.set k ⟨[.int .i64 L[k].d.kind, .string L[k].d.text, .bool L[k].d.spaced, .slice (some ⟨hb, 0, none⟩) hn' hn'], ⟨L[k].d.kind, L[k].d.text, L[k].d.spaced, l⟩, [hb]⟩) (w4.setCell ⟨g, k * 4 + 3, none⟩ (.slice (some ⟨hb, 0, none⟩) hn' hn'))) := by
          refine hE4.set hkL (j := 3) (by decide) _ _ (by rw [HCS.out]; rfl) ⟨_, rfl, HI.out.1, HI.out.2, hRl⟩ (fun b hb' => ?_) (fun b hb' => ?_)
          · have e : b = hb := by simpa using hb'
            subst e
            have := hK3'.size; omega
          · have e : b = hb := by simpa using hb'
            subst e
            exact ⟨cur, _, fr, hcur, by decide⟩
        have HOKs : Hid (∀ x ∈ L.set k ⟨[.int .i64 L[k].d.kind, .string L[k].d.text, .bool L[k].d.spaced, .slice (some ⟨hb, 0, none⟩) hn' hn'], ⟨L[k].d.kind, L[k].d.text, L[k].d.spaced, l⟩, [hb]⟩, okTok x.d) := by
          intro x hx
          rcases List.mem_or_eq_of_mem_set hx with h | h
          · exact hok x h
          · subst h; exact ⟨HOK.out.1, HOK.out.2.1, HOK.out.2.2.1, hll⟩
        have HLs : Hid ((L.set k ⟨[.int .i64 L[k].d.kind, .string L[k].d.text, .bool L[k].d.spaced, .slice (some ⟨hb, 0, none⟩) hn' hn'], ⟨L[k].d.kind, L[k].d.text, L[k].d.spaced, l⟩, [hb]⟩).length = L0.length) := by show _ = _; rw [List.length_set]; exact HL.out
        have hR5 : Hid (Rd (w4.setCell ⟨g, k * 4 + 3, none⟩ (.slice (some ⟨hb, 0, none⟩) hn' hn')) rb (q + 1 + 1)) := hR4.kept ((Kept.refl [g] w4).setCell (p := ⟨g, k * 4 + 3, none⟩) (by simp) _) (fun b hb' => by have e : b = g := (by simpa using hb'); omega)
        have hK5 : Hid (Kept [rb] w (w4.setCell ⟨g, k * 4 + 3, none⟩ (.slice (some ⟨hb, 0, none⟩) hn' hn'))) := keptSet hK4' hg1 _ _
        clear hcs hok hE hE3 hE4 hi hst HCS HI hcur hR3 hK hK3 hK3' hK4 hR hRl hkm hR4 hK4'
        go_wp2
        go_roundw
        case rel => exact ⟨k + 1, q + 1 + 1, _, by omega, by go_num, by omega, HLs.out, HS.out, HOKs.out, hR5.out, hK5.out⟩
        case measure => simp [intOf]; omega
      · have hr' : (r == 0) = false := by simp [hr]
        clear hr
        go_wp2
        go_roundw
        case rel => exact ⟨k + 1, q + 1, L, by omega, by go_num, by omega, HL, hE3, hok, hR3, hK3'⟩
        case measure => simp [intOf]; omega
    · go_wp2_with fail
      refine (oddT rb q _ _ hR (by omega) (by omega) (by omega)).mono ?_
      rintro e w3 ⟨b, q2, rfl, hb1, hq1', hq2, hR3, hK3⟩
      have hE3 := hE.keptR hK3 hrb
      have hK3' := hK.trans hK3
      have HL1 := HL.out
      clear hE hK hR
      cases b
      · have HZ : Hid (least = 0) := by
          show _ = _
          by_cases h : 0 < least
          · exact absurd (hb1.out (hl1 h)) (by decide)
          · omega
        go_wp2
        go_ret
        exact ⟨_, L, q2, rfl, hE3, hok, by rw [HZ.out]; omega, by omega, by omega, hR3, hK3'⟩
      · go_wp2_with fail
        refine (pick rb q2 _ _ (hR3.grow (badW_below w3)) (by omega) (by omega) (by omega)).mono ?_
        rintro e w4 ⟨r2, rfl, h20, h21, hR4, hK4⟩
        obtain ⟨tk, ts, ao, tm, tl, tf, d0, d1, d2, d3, dR, dok, dlo, dty⟩ := bad_pick hR3.lt hK4 h20 (by omega)
        have hE4 := (hE3.below (badW_below w3)).keptR hK4 hrb
        have hK4' := (hK3'.trans (Kept.of_below (fp := [rb]) (badW_below w3))).trans hK4
        have hw4 : w3.heap.size ≤ w4.heap.size := Nat.le_trans (badW_below w3).size hK4.size
        have hw0 := hK4'.size
        have HT := Lib.hid (And.intro dR (And.intro (fun b hb => Nat.le_trans (Nat.le_trans hK3'.size (Nat.le_refl _)) (dlo b hb)) dty))
        have HR4 := Lib.hid hR4
        have HE4 := Lib.hid hE4
        have HOK := Lib.hid hok
        have HDK := Lib.hid dok
        have HK4' := Lib.hid hK4'
        clear hE3 hK3 hK3' hK4 hR3 dR dlo dty hE4 hR4 hok dok hK4' HL HN
        go_wp2_with (at_builtin; refine wp_append_tokE rfl (.tmp 51) (.tmp 59) rfl w.heap.size (.slice a L0.length cap) L rfl HE4.out tk ts false ao tm tm tl tf rfl HT.out.1 HT.out.2.1 HT.out.2.2 (by omega) hw0 ?_; intro v5 w5 hE5 hg5)
        go_ret
        exact ⟨v5, _, q2 + 1, rfl, hE5, okApp HOK.out HDK.out, by rw [List.length_append]; simp; omega, by rw [List.length_append]; simp; omega, by omega, grownRd HR4.out hg5 hrb HE4.out.mine, grownKept HK4'.out hg5 HE4.out.mine⟩

theorem blkKept {rb g : Nat} {w w' : World} {o : Obj} (h : w.heap[g]? = some o) (hk : Kept [rb] w w') (hn : g ≠ rb) : w'.heap[g]? = some o :=
  (hk.block g (Array.getElem?_eq_some_iff.1 h).1 (by simpa using hn)).trans h

end Go.Proofs.Ytflbdanlcpojbaa
