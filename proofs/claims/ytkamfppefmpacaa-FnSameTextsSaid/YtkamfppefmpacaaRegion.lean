/- A region that draws its order, walked by what its operations leave: in whatever order they come up, each finds what those before it have left. Over any program. -/
import Derived.Test.YtkamfppefmpacaaLib
import Derived.Orders
namespace Go.Proofs.Ytkamfppefmpacaa
open Go.RowKit

/-- Go on with K; nothing else may happen. -/
def Sw (K : Act → World → Prop) : Exit → Act → World → Prop
  | .normal, a, w => K a w
  | _, _, _ => False
theorem Sw.noOut {K : Act → World → Prop} : ¬ LetsOut (Sw K) := fun ⟨_, _, h⟩ => h
theorem sw_wp {P : Program} {o : Oper} {a : Act} {w : World} {K : Act → World → Prop} {Q : Exit → Act → World → Prop} (h : o.wp P a w K (Sw K)) : o.wp P a w K Q := by
  unfold Oper.wp at *
  generalize (execOp a.eval o).run P w = r at *
  cases r with
  | ok n w' =>
    cases n <;> simp only [Oper.upon] at h ⊢ <;>
      first
        | exact h
        | exact Calls.mono h (fun e w'' he => by cases e <;> first | exact he | exact absurd he id | exact absurd he Sw.noOut)
        | exact Rows.mono h (fun _ _ he => he)
  | halt x w' =>
    cases x <;> simp only [Oper.upon] at h ⊢
    exact absurd h id
theorem sw_op {P : Program} {ops : Array Oper} {i : Nat} {o : Oper} {a : Act} {w : World} {K : Act → World → Prop} {Q : Exit → Act → World → Prop} (hi : ops[i]? = some o) (h : wpList P ops (Sw K) [o] a w) : wpOp P ops Q i K a w := by
  unfold wpOp
  rw [hi]
  unfold wpList at h
  show if _ then _ else _
  split
  · rename_i hw
    rw [if_pos hw] at h
    rcases h with h | ⟨_, h⟩
    · exact .inl (sw_wp h)
    · exact absurd h Sw.noOut
  · rename_i hw
    rw [if_neg hw] at h
    exact h

/-- The slots that operations leave, filled. -/
def fill (a : Act) : List (Option Nat) → List Value → Act
  | d :: ds, x :: xs => fill (a.put d x) ds xs
  | _, _ => a
theorem put_twice (a : Act) (d : Nat) (x v : Value) : (a.put (some d) x).put (some d) v = a.put (some d) v := by
  simp [Act.put, Array.setIfInBounds_setIfInBounds]
theorem put_swap (a : Act) (d e : Option Nat) (x v : Value) (h : d ≠ e ∨ d = none) : (a.put d x).put e v = (a.put e v).put d x := by
  cases d with
  | none => rfl
  | some d =>
    cases e with
    | none => rfl
    | some e =>
      have hne : d ≠ e := by
        rcases h with h | h
        · intro hh; exact h (by rw [hh])
        · cases h
      simp only [Act.put]
      rw [Array.setIfInBounds_comm _ _ hne]
/-- No slot is left twice. -/
def apartDsts : List (Option Nat) → Bool
  | [] => true
  | d :: ds => (d == none || !ds.contains d) && apartDsts ds
theorem fill_swap (ds : List (Option Nat)) : ∀ (a : Act) (xs : List Value) (d : Option Nat) (v : Value), (d = none ∨ d ∉ ds) → (fill a ds xs).put d v = fill (a.put d v) ds xs := by
  induction ds with
  | nil => intro a xs d v _; rfl
  | cons e ds ih =>
    intro a xs d v h
    cases xs with
    | nil => rfl
    | cons x xs =>
      show (fill (a.put e x) ds xs).put d v = fill ((a.put d v).put e x) ds xs
      rw [ih _ _ _ _ (by rcases h with h | h; exact .inl h; exact .inr (fun hh => h (by simp [hh])))]
      rw [put_swap a e d x v (by rcases h with rfl | h; · cases e <;> simp
                                 · left; rintro rfl; exact h (by simp))]
theorem fill_put (ds : List (Option Nat)) (hd : apartDsts ds = true) : ∀ (a : Act) (xs : List Value) (i : Nat) (d : Option Nat) (v : Value), xs.length = ds.length → ds[i]? = some d → (fill a ds xs).put d v = fill a ds (xs.set i v) := by
  induction ds with
  | nil => intro a xs i d v _ h; simp at h
  | cons e ds ih =>
    unfold apartDsts at hd
    rw [Bool.and_eq_true, Bool.or_eq_true] at hd
    intro a xs i d v hl h
    cases xs with
    | nil => simp at hl
    | cons x xs =>
      cases i with
      | zero =>
        simp only [List.getElem?_cons_zero, Option.some.injEq] at h
        subst h
        show (fill (a.put e x) ds xs).put e v = fill (a.put e v) ds xs
        rw [fill_swap ds _ _ _ _ (by rcases hd.1 with h | h; · left; simpa using h
                                     · right; simpa using h)]
        cases e with
        | none => rfl
        | some e => rw [put_twice]
      | succ i =>
        show (fill (a.put e x) ds xs).put d v = fill (a.put e x) ds (xs.set i v)
        exact ih hd.2 _ _ _ _ _ (by simpa using hl) (by simpa using h)
theorem fill_self (ds : List (Option Nat)) : ∀ (a : Act), fill a ds (ds.map fun d => match d with | some t => a.tmps.getD t undef | none => undef) = a := by
  induction ds with
  | nil => intro a; rfl
  | cons d ds ih =>
    intro a
    have e : a.put d (match d with | some t => a.tmps.getD t undef | none => undef) = a := by
      cases d with
      | none => rfl
      | some t =>
        obtain ⟨T, D⟩ := a
        simp only [Act.put, Act.mk.injEq, and_true]
        apply Array.ext_getElem?
        intro j
        rw [Array.getElem?_setIfInBounds]
        split
        · rename_i h
          subst h
          split
          · rename_i h2; simp [Array.getD, h2]
          · rename_i h2; rw [Array.getElem?_eq_none (by omega)]
        · rfl
    show fill (a.put d _) ds _ = a
    rw [e]
    exact ih a

def regionOk (ops : Array Oper) : Bool :=
  apartDsts (ops.toList.map (·.dst)) && (List.range ops.size).all fun i => ((ops[i]?).map fun o => o.after.all fun e => decide (e.on < i)).getD false

def At (Ps : List (Value → World → Prop)) (i : Nat) (v : Value) (w : World) : Prop := ∀ p, Ps[i]? = some p → p v w
def origs (a : Act) (ds : List (Option Nat)) : List Value := ds.map fun d => match d with | some t => a.tmps.getD t undef | none => undef

/-- All other operations must have come up before this one. -/
def covers (o : Oper) (i n : Nat) : Bool := (List.range n).all fun j => j == i || o.after.any fun e => Region.binds .any e && e.on == j
/-- What an operation finds, and what it owes. -/
def StepOk (P : Program) (ops : Array Oper) (Rl : World → World → Prop) (Ps : List (Value → World → Prop)) (J : Nat → World → Prop) (a : Act) (i : Nat) (o : Oper) : Prop :=
  ∀ (xs : List Value) (w' : World) (m : Nat), xs.length = ops.size → m < ops.size → J m w' → (covers o i ops.size = true → m + 1 = ops.size) →
    (∀ e ∈ o.after, Region.binds .any e = true → ∀ v, xs[e.on]? = some v → At Ps e.on v w') →
    (∀ (j : Nat) (o' : Oper), ops[j]? = some o' → (j = i ∨ ∃ e ∈ o'.after, Region.binds .any e = true ∧ e.on = i) → xs[j]? = (origs a (ops.toList.map (·.dst)))[j]?) →
    ∀ K : Act → World → Prop, (∀ v w'', At Ps i v w'' → Rl w' w'' → J (m + 1) w'' → K ((fill a (ops.toList.map (·.dst)) xs).put o.dst v) w'') →
      wpList P ops (Sw K) [o] (fill a (ops.toList.map (·.dst)) xs) w'

def cnt (n : Nat) (L : Array Bool) : Nat := (List.range n).countP fun i => L.getD i false
theorem cnt_set {n : Nat} {L : Array Bool} {i : Nat} (hi : i < n) (hs : L.size = n) (h : L.getD i true = false) : cnt n (L.setIfInBounds i true) = cnt n L + 1 := by
  have h' : L.getD i false = false := by
    simp only [Array.getD] at h ⊢
    split at h
    · rename_i h2; rw [dif_pos h2]; exact h
    · cases h
  have key : ∀ l : List Nat, l.Nodup → (l.countP fun j => (L.setIfInBounds i true).getD j false) = (l.countP fun j => L.getD j false) + (if i ∈ l then 1 else 0) := by
    intro l
    induction l with
    | nil => intro _; simp
    | cons x l ih =>
      intro hn
      rw [List.nodup_cons] at hn
      rw [List.countP_cons, List.countP_cons, ih hn.2]
      by_cases e : x = i
      · subst e
        have h1 : (L.setIfInBounds x true).getD x false = true := by simp [Array.getD, hs, hi]
        rw [if_neg hn.1, h1, h', if_pos (by simp)]; simp
      · have h1 : (L.setIfInBounds i true).getD x false = L.getD x false := by
          have e' : ¬ i = x := fun h => e h.symm
          simp only [Array.getD, Array.size_setIfInBounds]
          split
          · rename_i hx
            show (L.setIfInBounds i true)[x]'_ = L[x]'_
            rw [Array.getElem_setIfInBounds (by simpa using hx), if_neg e']
          · rfl
        rw [h1]
        have h2 : (i ∈ x :: l) ↔ i ∈ l := by simp [Ne.symm e]
        simp only [h2]; omega
  unfold cnt
  rw [key _ List.nodup_range, if_pos (by simpa using hi)]
theorem cnt_full {n : Nat} {L : Array Bool} (h : ∀ i, i < n → L.getD i false = true) : cnt n L = n := by
  unfold cnt
  rw [List.countP_eq_length.2 (by intro i hi; exact h i (by simpa using hi)), List.length_range]
theorem cnt_lt {n : Nat} {L : Array Bool} {i : Nat} (hi : i < n) (h : L.getD i false = false) : cnt n L < n := by
  unfold cnt
  have h1 := List.countP_le_length (p := fun i => L.getD i false) (l := List.range n)
  have h2 : ¬ (List.range n).countP (fun i => L.getD i false) = (List.range n).length := fun e => by
    have := List.countP_eq_length.1 e i (by simpa using hi)
    simp [h] at this
  rw [List.length_range] at h1 h2
  omega

theorem regionOk_after {ops : Array Oper} (h : regionOk ops = true) {i : Nat} {o : Oper} (hi : ops[i]? = some o) : ∀ e ∈ o.after, e.on < i := by
  unfold regionOk at h
  rw [Bool.and_eq_true, List.all_eq_true] at h
  have hlt := (Array.getElem?_eq_some_iff.1 hi).1
  have := h.2 i (by simpa using hlt)
  rw [hi] at this
  simp only [Option.map_some, Option.getD_some, Array.all_eq_true'] at this
  intro e he
  simpa using this e he

structure RInv (ops : Array Oper) (Rl : World → World → Prop) (Ps : List (Value → World → Prop)) (J : Nat → World → Prop) (a : Act) (L : Array Bool) (b : Act) (w : World) (xs : List Value) : Prop where
  size : L.size = ops.size
  len : xs.length = ops.size
  act : b = fill a (ops.toList.map (·.dst)) xs
  j : J (cnt ops.size L) w
  facts : ∀ i v, L.getD i false = true → xs[i]? = some v → At Ps i v w
  old : ∀ i, i < ops.size → L.getD i false = false → xs[i]? = (origs a (ops.toList.map (·.dst)))[i]?
  closed : ∀ i o, ops[i]? = some o → L.getD i false = true → ∀ e ∈ o.after, Region.binds .any e = true → L.getD e.on false = true

theorem getD_ft {L : Array Bool} {i : Nat} (h : L.getD i true = false) : L.getD i false = false := by
  simp only [Array.getD] at h ⊢
  split at h
  · rename_i h2; rw [dif_pos h2]; exact h
  · cases h
theorem getD_tf {L : Array Bool} {i : Nat} (hi : i < L.size) (h : L.getD i false = false) : L.getD i true = false := by
  simp only [Array.getD] at h ⊢
  rw [dif_pos hi] at h ⊢; exact h
theorem getD_put {L : Array Bool} {i j : Nat} (hi : i < L.size) : (L.setIfInBounds i true).getD j false = (decide (j = i) || L.getD j false) := by
  simp only [Array.getD, Array.size_setIfInBounds]
  by_cases e : j = i
  · subst e; rw [dif_pos hi]; simp
  · have e' : ¬ i = j := fun h => e h.symm
    split
    · rename_i hx
      show (L.setIfInBounds i true)[j]'_ = _
      rw [Array.getElem_setIfInBounds (by simpa using hx), if_neg e']
      simp [e]
    · simp [e]

theorem wp_region_types {P : Program} {ops : Array Oper} {Q : Exit → Act → World → Prop} {id : Nat} {a : Act} {w : World} (hm : P.follows .mixedOrders = true) (hok : regionOk ops = true)
    (Rl : World → World → Prop) (Ps : List (Value → World → Prop)) (hst : ∀ p ∈ Ps, ∀ v w w', Rl w w' → p v w → p v w') (J : Nat → World → Prop)
    (hJ : J 0 { w with drawn := w.drawn + 1 })
    (step : ∀ i o, ops[i]? = some o → StepOk P ops Rl Ps J a i o)
    (done : ∀ (xs : List Value) (w' : World), xs.length = ops.size → (∀ i v, xs[i]? = some v → At Ps i v w') → J ops.size w' → Q .normal (fill a (ops.toList.map (·.dst)) xs) w') :
    (Code.region id ops true).wp P Q a w := by
  refine wp_region_any hm ?_
  have hd : apartDsts (ops.toList.map (·.dst)) = true := by unfold regionOk at hok; rw [Bool.and_eq_true] at hok; exact hok.1
  have hlist : ∀ (L : Array Bool), L.size = ops.size → Region.ready .any ops L = [] → ∀ i, i < ops.size → L.getD i false = true := by
    intro L hL hr i
    induction i using Nat.strongRecOn with
    | ind i ih =>
      intro hi
      cases hb : L.getD i false with
      | true => rfl
      | false =>
        exfalso
        have hm : i ∈ Region.ready .any ops L := by
          rw [mem_ready]
          exact ⟨getD_tf (by omega) hb, ops[i], Array.getElem?_eq_getElem hi, fun e he _ => by
            have hlt := regionOk_after hok (Array.getElem?_eq_getElem hi) e he
            exact ih e.on hlt (by omega)⟩
        rw [hr] at hm
        cases hm
  have main : ∀ (fuel : Nat) (L : Array Bool) (b : Act) (w' : World) (xs : List Value), fuel + cnt ops.size L = ops.size → RInv ops Rl Ps J a L b w' xs → wpAny P .any ops Q fuel L b w' := by
    intro fuel
    induction fuel with
    | zero =>
      intro L b w' xs hf I
      have hall : ∀ i, i < ops.size → L.getD i false = true := fun i hi => by
        cases hb : L.getD i false with
        | true => rfl
        | false => have := cnt_lt hi hb; omega
      refine ⟨?_, ?_⟩
      · cases hr : Region.ready .any ops L with
        | nil => rfl
        | cons i r =>
          have hi : i ∈ Region.ready .any ops L := by rw [hr]; simp
          rw [mem_ready] at hi
          obtain ⟨h0, o, ho, _⟩ := hi
          have := hall i (Array.getElem?_eq_some_iff.1 ho).1
          rw [getD_ft h0] at this
          cases this
      · rw [I.act]
        refine done xs w' I.len (fun i v hv => I.facts i v (hall i ?_) hv) (by have := I.j; rwa [cnt_full hall] at this)
        have := (List.getElem?_eq_some_iff.1 hv).1
        rw [I.len] at this; exact this
    | succ fuel ih =>
      intro L b w' xs hf I
      refine ⟨fun hr => ?_, fun i hi => ?_⟩
      · have hall := hlist L I.size hr
        rw [I.act]
        refine done xs w' I.len (fun i v hv => I.facts i v (hall i ?_) hv) (by have := I.j; rwa [cnt_full hall] at this)
        have := (List.getElem?_eq_some_iff.1 hv).1
        rw [I.len] at this; exact this
      · obtain ⟨h0, o, ho, hafter⟩ := mem_ready.1 hi
        have hlt := (Array.getElem?_eq_some_iff.1 ho).1
        refine sw_op ho ?_
        rw [I.act]
        refine step i o ho xs w' (cnt ops.size L) I.len (by have := cnt_lt hlt (getD_ft h0); exact this) I.j (fun hcov => ?_) (fun e he hb v hv => I.facts e.on v (hafter e he hb) hv) (fun j o' ho' hj => ?_) _ (fun v w'' h1 h2 h3 => ?_)
        · rw [← cnt_set hlt I.size h0]
          refine cnt_full fun j hj => ?_
          rw [getD_put (by rw [I.size]; exact hlt)]
          unfold covers at hcov
          rw [List.all_eq_true] at hcov
          have := hcov j (by simpa using hj)
          rw [Bool.or_eq_true, beq_iff_eq] at this
          rcases this with e | e
          · subst e; simp
          · rw [Array.any_eq_true'] at e
            obtain ⟨d, hd1, hd2⟩ := e
            rw [Bool.and_eq_true, beq_iff_eq] at hd2
            rw [← hd2.2, hafter d hd1 hd2.1, Bool.or_true]
        · refine I.old j (Array.getElem?_eq_some_iff.1 ho').1 ?_
          rcases hj with rfl | ⟨e, he, hb, hon⟩
          · exact getD_ft h0
          · cases hL : L.getD j false with
            | false => rfl
            | true =>
              have := I.closed j o' ho' hL e he hb
              rw [hon, getD_ft h0] at this
              cases this
        · have hds : (ops.toList.map (·.dst))[i]? = some o.dst := by simp [ho]
          rw [fill_put _ hd _ _ i _ _ (by simpa using I.len) hds]
          have hset : cnt ops.size (L.setIfInBounds i true) = cnt ops.size L + 1 := cnt_set hlt I.size h0
          refine ih _ _ _ (xs.set i v) (by omega) ⟨by simpa using I.size, by simpa using I.len, rfl, by rw [hset]; exact h3, ?_, ?_, ?_⟩
          · intro j u hj hu
            rw [getD_put (by rw [I.size]; exact hlt)] at hj
            rw [List.getElem?_set] at hu
            by_cases e : i = j
            · subst e
              rw [if_pos rfl, if_pos (by rw [I.len]; exact hlt)] at hu
              cases hu
              exact h1
            · rw [if_neg e] at hu
              have hj' : L.getD j false = true := by
                rw [Bool.or_eq_true, decide_eq_true_eq] at hj
                exact hj.resolve_left fun h => e h.symm
              intro p hp
              exact hst p (List.mem_of_getElem? hp) _ _ _ h2 (I.facts j u hj' hu p hp)
          · intro j hj hL
            rw [getD_put (by rw [I.size]; exact hlt), Bool.or_eq_false_iff, decide_eq_false_iff_not] at hL
            rw [List.getElem?_set, if_neg (fun h => hL.1 h.symm)]
            exact I.old j hj hL.2
          · intro j o' ho' hL e he hb
            rw [getD_put (by rw [I.size]; exact hlt), Bool.or_eq_true] at hL ⊢
            rcases hL with hL | hL
            · have : j = i := by simpa using hL
              subst this
              rw [ho] at ho'
              cases ho'
              exact .inr (hafter e he hb)
            · exact .inr (I.closed j o' ho' hL e he hb)
  refine main ops.size _ _ _ (origs a (ops.toList.map (·.dst))) ?_ ⟨by simp, by simp [origs], (fill_self _ a).symm, ?_, ?_, fun i _ _ => rfl, ?_⟩
  all_goals
    have hz : ∀ i, (Array.replicate ops.size false).getD i false = false := by intro i; simp [Array.getD]
    have hc : cnt ops.size (Array.replicate ops.size false) = 0 := by
      unfold cnt
      rw [List.countP_eq_zero]
      intro i _; simp only [hz i]; simp
  · rw [hc]; omega
  · rw [hc]; exact hJ
  · intro i v h; rw [hz i] at h; cases h
  · intro i o _ h; rw [hz i] at h; cases h

end Go.Proofs.Ytkamfppefmpacaa
