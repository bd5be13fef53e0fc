/- Texts that the proof of U stands on, in one file. -/
import Derived.Test.YtbkmapaieillmaaZU2
import Derived.Test.YtbkmapaieillmaaZU9
import Derived.Test.YtbkmapaieillmaaZU7
import Derived.Test.YtbkmapaieillmaaZU8
import Derived.Deep.Cut
import Derived.Deep.CutRange
import Derived.Test.YtbkmapaieillmaaZU5
import Derived.Test.YtbkmapaieillmaaShelf
import Derived.Test.YtbkmapaieillmaaZU1
import Derived.Lib.FrozenHead2
import Derived.Lib.OthersKept
import Derived.Lib.Builder
import Derived.Laws.Externs
import Derived.Lib.Join
import Derived.Deep.RegionHeld3
import Derived.Test.YtbkmapaieillmaaZU4
set_option linter.unusedVariables false
set_option linter.unusedSimpArgs false
/- A region that draws its order, walked by an invariant over what is done; and one in which all only reads but a literal, an append of it, and the store of the result. Over any program. -/
namespace Go.Proofs.Ytbkmapaieillmaa
open Go.RowKit

/-- Whatever comes up, the invariant holds. -/
theorem wp_region_inv {P : Program} {ops : Array Oper} {Q : Exit → Act → World → Prop} {id : Nat} {a : Act} {w : World} (hm : P.follows .mixedOrders = true) (hok : regionOk ops = true)
    (J : Array Bool → List Value → World → Prop)
    (hJ : J (Array.replicate ops.size false) (origs a (ops.toList.map (·.dst))) { w with drawn := w.drawn + 1 })
    (step : ∀ (i : Nat) (o : Oper), ops[i]? = some o → ∀ (L : Array Bool) (xs : List Value) (w' : World), L.size = ops.size → xs.length = ops.size → L.getD i false = false →
      (∀ e ∈ o.after, Region.binds .any e = true → L.getD e.on false = true) → J L xs w' →
      ∀ K : Act → World → Prop, (∀ v w'', J (L.setIfInBounds i true) (xs.set i v) w'' → K ((fill a (ops.toList.map (·.dst)) xs).put o.dst v) w'') → wpList P ops (Sw K) [o] (fill a (ops.toList.map (·.dst)) xs) w')
    (done : ∀ (L : Array Bool) (xs : List Value) (w' : World), xs.length = ops.size → (∀ i, i < ops.size → L.getD i false = true) → J L xs w' → Q .normal (fill a (ops.toList.map (·.dst)) xs) w') :
    (Code.region id ops true).wp P Q a w := by
  refine wp_region_any hm ?_
  have hd : apartDsts (ops.toList.map (·.dst)) = true := by unfold regionOk at hok; rw [Bool.and_eq_true] at hok; exact hok.1
  have hlist : ∀ (L : Array Bool), L.size = ops.size → Region.ready .any ops L = [] → ∀ i, i < ops.size → L.getD i false = true := by
    intro L hL hr i
    induction i using Nat.strongRecOn with
    | ind i ih =>
      intro hi
      cases hb : L.getD i false with
      | true => rfl
      | false =>
        exfalso
        have hm : i ∈ Region.ready .any ops L := by
          rw [mem_ready]
          exact ⟨getD_tf (by omega) hb, ops[i], Array.getElem?_eq_getElem hi, fun e he _ => by
            have hlt := regionOk_after hok (Array.getElem?_eq_getElem hi) e he
            exact ih e.on hlt (by omega)⟩
        rw [hr] at hm
        cases hm
  have main : ∀ (fuel : Nat) (L : Array Bool) (b : Act) (w' : World) (xs : List Value), fuel + cnt ops.size L = ops.size → L.size = ops.size → xs.length = ops.size → b = fill a (ops.toList.map (·.dst)) xs → J L xs w' → wpAny P .any ops Q fuel L b w' := by
    intro fuel
    induction fuel with
    | zero =>
      intro L b w' xs hf hs hx hb hI
      have hall : ∀ i, i < ops.size → L.getD i false = true := fun i hi => by
        cases hb : L.getD i false with
        | true => rfl
        | false => have := cnt_lt hi hb; omega
      refine ⟨?_, ?_⟩
      · cases hr : Region.ready .any ops L with
        | nil => rfl
        | cons i r =>
          have hi : i ∈ Region.ready .any ops L := by rw [hr]; simp
          rw [mem_ready] at hi
          obtain ⟨h0, o, ho, _⟩ := hi
          have := hall i (Array.getElem?_eq_some_iff.1 ho).1
          rw [getD_ft h0] at this
          cases this
      · rw [hb]; exact done L xs w' hx hall hI
    | succ fuel ih =>
      intro L b w' xs hf hs hx hb hI
      refine ⟨fun hr => ?_, fun i hi => ?_⟩
      · rw [hb]; exact done L xs w' hx (hlist L hs hr) hI
      · obtain ⟨h0, o, ho, hafter⟩ := mem_ready.1 hi
        have hlt := (Array.getElem?_eq_some_iff.1 ho).1
        refine sw_op ho ?_
        rw [hb]
        refine step i o ho L xs w' hs hx (getD_ft h0) hafter hI _ (fun v w'' h1 => ?_)
        have hds : (ops.toList.map (·.dst))[i]? = some o.dst := by simp [ho]
        rw [fill_put _ hd _ _ i _ _ (by simpa using hx) hds]
        have hset : cnt ops.size (L.setIfInBounds i true) = cnt ops.size L + 1 := cnt_set hlt hs h0
        exact ih _ _ _ (xs.set i v) (by omega) (by simpa using hs) (by simpa using hx) rfl h1
  refine main ops.size _ _ _ (origs a (ops.toList.map (·.dst))) ?_ (by simp) (by simp [origs]) (fill_self _ a).symm hJ
  have hz : ∀ i, (Array.replicate ops.size false).getD i false = false := by intro i; simp [Array.getD]
  have hc : cnt ops.size (Array.replicate ops.size false) = 0 := by
    unfold cnt
    rw [List.countP_eq_zero]
    intro i _; simp only [hz i]; simp
  rw [hc]; omega

/-- What is known while such a region runs. -/
structure AppJ (n ia ib ic : Nat) (vals : List (Option Value)) (va : Value) (og : List Value) (w0 w1 : World) (App Fin : Value → World → Prop) (L : Array Bool) (xs : List Value) (w : World) : Prop where
  con : ∀ i, i < n → i ≠ ia → i ≠ ib → i ≠ ic → L.getD i false = true → ∀ u, vals[i]? = some (some u) → xs[i]? = some u
  a : L.getD ia false = true → xs[ia]? = some va
  ab : L.getD ib false = true → L.getD ia false = true
  bc : L.getD ic false = true → L.getD ib false = true
  s0 : L.getD ia false = false → w = w0
  s1 : L.getD ia false = true → L.getD ib false = false → w = w1
  s2 : L.getD ib false = true → L.getD ic false = false → ∃ v, xs[ib]? = some v ∧ App v w
  s3 : L.getD ic false = true → ∃ v, xs[ib]? = some v ∧ Fin v w
  old : ∀ i, i < n → L.getD i false = false → xs[i]? = og[i]?
  fin : L.getD ic false = true → ∀ i, i < n → L.getD i false = true

/-- An operation whose guard does not hold. -/
theorem sw_skip {P : Program} {ops : Array Oper} {K : Act → World → Prop} {o : Oper} {a : Act} {w : World} (hw : Region.wanted o (yielded ops a.tmps) = false) (h : K (a.put o.dst undef) w) : wpList P ops (Sw K) [o] a w := by
  unfold wpList
  rw [if_neg (by simp [hw])]
  exact h
/-- An operation that only reads: what it finds, what it owes. -/
def ConOk (P : Program) (ops : Array Oper) (a : Act) (vals : List (Option Value)) (Base : World → Prop) (ia ib ic i : Nat) (o : Oper) : Prop :=
  ∀ (xs : List Value) (w' : World), xs.length = ops.size → xs[i]? = (origs a (ops.toList.map (·.dst)))[i]? → (∀ e ∈ o.after, Region.binds .any e = true → e.on ≠ ia → e.on ≠ ib → e.on ≠ ic → ∀ u, vals[e.on]? = some (some u) → xs[e.on]? = some u) → Base w' →
    ∀ K : Act → World → Prop, (∀ v, (∀ u, vals[i]? = some (some u) → v = u) → K ((fill a (ops.toList.map (·.dst)) xs).put o.dst v) w') → wpList P ops (Sw K) [o] (fill a (ops.toList.map (·.dst)) xs) w'
def ConsFrom (P : Program) (ops : Array Oper) (a : Act) (vals : List (Option Value)) (Base : World → Prop) (ia ib ic : Nat) : Nat → List Oper → Prop
  | _, [] => True
  | k, o :: os => (k = ia ∨ k = ib ∨ k = ic ∨ ConOk P ops a vals Base ia ib ic k o) ∧ ConsFrom P ops a vals Base ia ib ic (k + 1) os
theorem cons_of {P : Program} {ops : Array Oper} {a : Act} {vals : List (Option Value)} {Base : World → Prop} {ia ib ic : Nat} : ∀ (l : List Oper) (k : Nat), (∀ j, l[j]? = ops[k + j]?) → ConsFrom P ops a vals Base ia ib ic k l → ∀ i o, k ≤ i → ops[i]? = some o → i = ia ∨ i = ib ∨ i = ic ∨ ConOk P ops a vals Base ia ib ic i o := by
  intro l
  induction l with
  | nil =>
    intro k h _ i o hk hi
    have := h (i - k)
    rw [show k + (i - k) = i by omega, hi] at this
    simp at this
  | cons x l ih =>
    intro k h hs i o hk hi
    by_cases e : i = k
    · subst e
      have h0 := h 0
      rw [Nat.add_zero, hi] at h0
      simp only [List.getElem?_cons_zero, Option.some.injEq] at h0
      subst h0
      exact hs.1
    · exact ih (k + 1) (fun j => by have := h (j + 1); rw [List.getElem?_cons_succ] at this; rw [this]; congr 1; omega) hs.2 i o (by omega) hi
theorem cons_all {P : Program} {ops : Array Oper} {a : Act} {vals : List (Option Value)} {Base : World → Prop} {ia ib ic : Nat} (h : ConsFrom P ops a vals Base ia ib ic 0 ops.toList) :
    ∀ i o, ops[i]? = some o → i = ia ∨ i = ib ∨ i = ic ∨ ConOk P ops a vals Base ia ib ic i o := fun i o hi => cons_of ops.toList 0 (fun j => by simp) h i o (Nat.zero_le _) hi

theorem wp_region_app {P : Program} {ops : Array Oper} {Q : Exit → Act → World → Prop} {id : Nat} {a : Act} {w : World} (hm : P.follows .mixedOrders = true) (hok : regionOk ops = true)
    (ia ib ic : Nat) (hab : ((ops[ib]?).map fun o => o.after.any fun e => Region.binds .any e && e.on == ia) = some true) (hcov : ((ops[ic]?).map fun o => covers o ic ops.size) = some true)
    (hne : ia ≠ ib ∧ ib ≠ ic ∧ ia ≠ ic) (hlt : ia < ops.size ∧ ib < ops.size ∧ ic < ops.size) {oA oB oC : Oper} (hA : ops[ia]? = some oA) (hB : ops[ib]? = some oB) (hC : ops[ic]? = some oC)
    (vals : List (Option Value)) (va : Value) (w1 : World) (App Fin : Value → World → Prop) (Base : World → Prop)
    (hb0 : Base { w with drawn := w.drawn + 1 }) (hb1 : Base w1) (hb2 : ∀ v w2, App v w2 → Base w2)
    (con : ∀ (i : Nat) (o : Oper), ops[i]? = some o → i = ia ∨ i = ib ∨ i = ic ∨ ConOk P ops a vals Base ia ib ic i o)
    (stA : ∀ xs : List Value, xs.length = ops.size → (∀ e ∈ oA.after, Region.binds .any e = true → e.on ≠ ia → e.on ≠ ib → e.on ≠ ic → ∀ u, vals[e.on]? = some (some u) → xs[e.on]? = some u) →
      ∀ K : Act → World → Prop, K ((fill a (ops.toList.map (·.dst)) xs).put oA.dst va) w1 → wpList P ops (Sw K) [oA] (fill a (ops.toList.map (·.dst)) xs) { w with drawn := w.drawn + 1 })
    (stB : ∀ xs : List Value, xs.length = ops.size → (∀ e ∈ oB.after, Region.binds .any e = true → e.on ≠ ia → e.on ≠ ib → e.on ≠ ic → ∀ u, vals[e.on]? = some (some u) → xs[e.on]? = some u) → xs[ia]? = some va →
      ∀ K : Act → World → Prop, (∀ v w2, App v w2 → K ((fill a (ops.toList.map (·.dst)) xs).put oB.dst v) w2) → wpList P ops (Sw K) [oB] (fill a (ops.toList.map (·.dst)) xs) w1)
    (stC : ∀ (xs : List Value) (v : Value) (w2 : World), xs.length = ops.size → (∀ e ∈ oC.after, Region.binds .any e = true → e.on ≠ ia → e.on ≠ ib → e.on ≠ ic → ∀ u, vals[e.on]? = some (some u) → xs[e.on]? = some u) → xs[ib]? = some v → App v w2 →
      ∀ K : Act → World → Prop, (∀ u w3, Fin v w3 → K ((fill a (ops.toList.map (·.dst)) xs).put oC.dst u) w3) → wpList P ops (Sw K) [oC] (fill a (ops.toList.map (·.dst)) xs) w2)
    (done : ∀ (xs : List Value) (v : Value) (w' : World), xs.length = ops.size → (∀ i, i < ops.size → i ≠ ia → i ≠ ib → i ≠ ic → ∀ u, vals[i]? = some (some u) → xs[i]? = some u) → xs[ia]? = some va → xs[ib]? = some v → Fin v w' → Q .normal (fill a (ops.toList.map (·.dst)) xs) w') :
    (Code.region id ops true).wp P Q a w := by
  obtain ⟨n1, n2, n3⟩ := hne
  obtain ⟨l1, l2, l3⟩ := hlt
  refine wp_region_inv hm hok (AppJ ops.size ia ib ic vals va (origs a (ops.toList.map (·.dst))) { w with drawn := w.drawn + 1 } w1 App Fin) ?_ ?_ ?_
  · have hz : ∀ i, (Array.replicate ops.size false).getD i false = false := by intro i; simp [Array.getD]
    have hf : ∀ i, (Array.replicate ops.size false).getD i false = true → False := fun i h => by rw [hz] at h; cases h
    exact ⟨fun i _ _ _ _ h => (hf i h).elim, fun h => (hf _ h).elim, fun h => (hf _ h).elim, fun h => (hf _ h).elim, fun _ => rfl, fun h _ => (hf _ h).elim, fun h _ => (hf _ h).elim, fun h => (hf _ h).elim, fun _ _ _ => rfl, fun h => (hf _ h).elim⟩
  · intro i o ho L xs w' hs hx hL hafter hJ K hK
    have hi := (Array.getElem?_eq_some_iff.1 ho).1
    have hdep : ∀ e ∈ o.after, Region.binds .any e = true → e.on ≠ ia → e.on ≠ ib → e.on ≠ ic → ∀ u, vals[e.on]? = some (some u) → xs[e.on]? = some u := fun e he hb h1 h2 h3 => by
      have hdone := hafter e he hb
      have hsz : e.on < ops.size := by
        have := regionOk_after hok ho e he
        omega
      exact hJ.con e.on hsz h1 h2 h3 hdone
    have hp : ∀ j, (L.setIfInBounds i true).getD j false = (decide (j = i) || L.getD j false) := fun j => getD_put (by rw [hs]; exact hi)
    have hxs : ∀ (v : Value) (j : Nat), j ≠ i → (xs.set i v)[j]? = xs[j]? := fun v j hj => List.getElem?_set_ne (fun h => hj h.symm)
    have hxi : ∀ (v : Value), (xs.set i v)[i]? = some v := fun v => List.getElem?_set_self (by omega)
    have hold : ∀ (v : Value) (j : Nat), j < ops.size → (L.setIfInBounds i true).getD j false = false → (xs.set i v)[j]? = (origs a (ops.toList.map (·.dst)))[j]? := fun v j hj hf => by
      rw [hp, Bool.or_eq_false_iff, decide_eq_false_iff_not] at hf
      rw [hxs v j hf.1]
      exact hJ.old j hj hf.2
    by_cases ea : i = ia
    · subst ea
      have hA' := hA
      have hbf : L.getD ib false = false := by
        cases h : L.getD ib false
        · rfl
        · rw [hJ.ab h] at hL; cases hL
      have hcf : L.getD ic false = false := by
        cases h : L.getD ic false
        · rfl
        · rw [hJ.bc h] at hbf; cases hbf
      obtain rfl := hJ.s0 hL
      rw [hA] at ho; cases ho
      refine stA xs hx hdep K (hK va w1 ⟨?_, fun _ => hxi va, fun _ => by rw [hp]; simp, fun h => ?_, fun h => ?_, fun _ _ => rfl, fun h => ?_, fun h => ?_, hold va, fun h => ?_⟩)
      · intro j hj h1 h2 h3 hd u hu
        rw [hp, Bool.or_eq_true, decide_eq_true_eq] at hd
        rw [hxs _ _ h1]
        exact hJ.con j hj h1 h2 h3 (hd.resolve_left h1) u hu
      · rw [hp, hcf] at h; simp at h; exact absurd h.symm n3
      · rw [hp] at h; simp at h
      · rw [hp, hbf] at h; simp at h; exact absurd h.symm n1
      · rw [hp, hcf] at h; simp at h; exact absurd h.symm n3
      · rw [hp, hcf] at h; simp at h; exact absurd h.symm n3
    · by_cases eb : i = ib
      · subst eb
        obtain ⟨e, he, hbd, hon⟩ : ∃ e ∈ o.after, Region.binds .any e = true ∧ e.on = ia := by
          rw [ho, Option.map_some, Option.some.injEq, Array.any_eq_true'] at hab
          obtain ⟨e, h1, h2⟩ := hab
          rw [Bool.and_eq_true, beq_iff_eq] at h2
          exact ⟨e, h1, h2.1, h2.2⟩
        have hat : L.getD ia false = true := hon ▸ hafter e he hbd
        have hcf : L.getD ic false = false := by
          cases h : L.getD ic false
          · rfl
          · rw [hJ.bc h] at hL; cases hL
        obtain rfl := hJ.s1 hat hL
        rw [hB] at ho; cases ho
        refine stB xs hx hdep (hJ.a hat) K (fun v w2 hApp => hK v w2 ⟨?_, fun _ => ?_, fun _ => ?_, fun h => ?_, fun h => ?_, fun _ h => ?_, fun _ _ => ⟨v, hxi v, hApp⟩, fun h => ?_, hold v, fun h => ?_⟩)
        · intro j hj h1 h2 h3 hd u hu
          rw [hp, Bool.or_eq_true, decide_eq_true_eq] at hd
          rw [hxs _ _ h2]
          exact hJ.con j hj h1 h2 h3 (hd.resolve_left h2) u hu
        · rw [hxs _ _ n1]; exact hJ.a hat
        · rw [hp, hat]; simp
        · rw [hp, hcf] at h; simp at h; exact absurd h.symm n2
        · rw [hp, hat] at h; simp at h
        · rw [hp] at h; simp at h
        · rw [hp, hcf] at h; simp at h; exact absurd h.symm n2
        · rw [hp, hcf] at h; simp at h; exact absurd h.symm n2
      · by_cases ec : i = ic
        · subst ec
          have hall : ∀ j, j < ops.size → j ≠ i → L.getD j false = true := fun j hj hji => by
            have hc := hcov
            rw [ho, Option.map_some, Option.some.injEq] at hc
            unfold covers at hc
            rw [List.all_eq_true] at hc
            have := hc j (by simpa using hj)
            rw [Bool.or_eq_true, beq_iff_eq] at this
            rcases this with h | h
            · exact absurd h hji
            · rw [Array.any_eq_true'] at h
              obtain ⟨d, hd1, hd2⟩ := h
              rw [Bool.and_eq_true, beq_iff_eq] at hd2
              rw [← hd2.2]; exact hafter d hd1 hd2.1
          have hbt : L.getD ib false = true := hall ib l2 n2
          have hat := hJ.ab hbt
          obtain ⟨v, hv, hApp⟩ := hJ.s2 hbt hL
          rw [hC] at ho; cases ho
          refine stC xs v w' hx hdep hv hApp K (fun u w3 hF => hK u w3 ⟨?_, fun _ => ?_, fun _ => ?_, fun _ => ?_, fun h => ?_, fun _ h => ?_, fun _ h => ?_, fun _ => ⟨v, ?_, hF⟩, hold u, fun _ j hj => ?_⟩)
          · intro j hj h1 h2 h3 hd u hu
            rw [hp, Bool.or_eq_true, decide_eq_true_eq] at hd
            rw [hxs _ _ h3]
            exact hJ.con j hj h1 h2 h3 (hd.resolve_left h3) u hu
          · rw [hxs _ _ n3]; exact hJ.a hat
          · rw [hp, hat]; simp
          · rw [hp, hbt]; simp
          · rw [hp, hat] at h; simp at h
          · rw [hp, hbt] at h; simp at h
          · rw [hp] at h; simp at h
          · rw [hxs _ _ n2]; exact hv
          · rw [hp, Bool.or_eq_true, decide_eq_true_eq]
            by_cases e : j = i
            · exact .inl e
            · exact .inr (hall j hj e)
        · have hbase : Base w' := by
            cases hA : L.getD ia false
            · rw [hJ.s0 hA]; exact hb0
            · cases hB : L.getD ib false
              · rw [hJ.s1 hA hB]; exact hb1
              · cases hC : L.getD ic false
                · obtain ⟨v, _, h⟩ := hJ.s2 hB hC; exact hb2 v _ h
                · rw [hJ.fin hC i hi] at hL; cases hL
          have hpa : (L.setIfInBounds i true).getD ia false = L.getD ia false := by rw [hp, decide_eq_false (fun h => ea h.symm), Bool.false_or]
          have hpb : (L.setIfInBounds i true).getD ib false = L.getD ib false := by rw [hp, decide_eq_false (fun h => eb h.symm), Bool.false_or]
          have hpc : (L.setIfInBounds i true).getD ic false = L.getD ic false := by rw [hp, decide_eq_false (fun h => ec h.symm), Bool.false_or]
          refine ((((con i o ho).resolve_left ea).resolve_left eb).resolve_left ec) xs w' hx (hJ.old i hi hL) hdep hbase K (fun v hv => hK v w' ⟨?_, fun h => ?_, fun h => ?_, fun h => ?_, fun h => ?_, fun h1 h2 => ?_, fun h1 h2 => ?_, fun h => ?_, hold v, fun h => ?_⟩)
          · intro j hj h1 h2 h3 hd u hu
            by_cases ej : j = i
            · subst ej; rw [hxi, hv u hu]
            · rw [hp, Bool.or_eq_true, decide_eq_true_eq] at hd
              rw [hxs _ _ ej]
              exact hJ.con j hj h1 h2 h3 (hd.resolve_left ej) u hu
          · rw [hpa] at h; rw [hxs _ _ (fun h => ea h.symm)]; exact hJ.a h
          · rw [hpb] at h; rw [hpa]; exact hJ.ab h
          · rw [hpc] at h; rw [hpb]; exact hJ.bc h
          · rw [hpa] at h; exact hJ.s0 h
          · rw [hpa] at h1; rw [hpb] at h2; exact hJ.s1 h1 h2
          · rw [hpb] at h1; rw [hpc] at h2; rw [hxs _ _ (fun h => eb h.symm)]; exact hJ.s2 h1 h2
          · rw [hpc] at h; rw [hxs _ _ (fun h => eb h.symm)]; exact hJ.s3 h
          · rw [hpc] at h; rw [hJ.fin h i hi] at hL; cases hL
  · intro L xs w' hx hall hJ
    obtain ⟨v, hv, hF⟩ := hJ.s3 (hall ic l3)
    exact done xs v w' hx (fun i hi h1 h2 h3 => hJ.con i hi h1 h2 h3 (hall i hi)) (hJ.a (hall ia l1)) hv hF

end Go.Proofs.Ytbkmapaieillmaa

/- MacroOf of the model. (Made by gen_mac10.py.) -/
namespace Go.Proofs.Ytbkmapaieillmaa
open Go.RowKit

/-! ### The model's theorem, way by way -/
theorem of_no {l : List Tok} (h : toksOk l = false) : macOf l = (zeroMac, false) := by unfold macOf; rw [dif_neg (fun x => by rw [h] at x; exact absurd x.1 (by simp))]
theorem of_nil {l : List Tok} (h : ¬ 0 < l.length) : macOf l = (zeroMac, false) := by unfold macOf; rw [dif_neg (fun x => h x.2)]
theorem of_plain {l : List Tok} (h : toksOk l = true) (h0 : 0 < l.length) (ho : opens2 l = false) : macOf l = macChk ⟨l[0].text, false, [], bodyFrom l 1⟩ := by unfold macOf; rw [dif_pos ⟨h, h0⟩, if_neg (by simp [ho])]
theorem of_pno {l : List Tok} (h : toksOk l = true) (h0 : 0 < l.length) (ho : opens2 l = true) (hp : parsOf l = none) : macOf l = (zeroMac, false) := by unfold macOf; rw [dif_pos ⟨h, h0⟩, if_pos ho, hp]
theorem of_pars {l : List Tok} (h : toksOk l = true) (h0 : 0 < l.length) (ho : opens2 l = true) {p : List ByteArray × Nat} (hp : parsOf l = some p) : macOf l = macChk ⟨l[0].text, true, p.1, bodyFrom l p.2⟩ := by unfold macOf; rw [dif_pos ⟨h, h0⟩, if_pos ho, hp]
theorem chk_no {m : DMacro} (h : macOk m = false) : macChk m = (zeroMac, false) := by unfold macChk; rw [if_neg (by simp [h])]
theorem chk_yes {m : DMacro} (h : macOk m = true) : macChk m = (m, true) := by unfold macChk; rw [if_pos h]
theorem pat_le (l : List Tok) (k : Nat) : ∀ p, parsAt l k = some p → p.2 ≤ l.length := by
  induction k using parsAt.induct (l := l) with
  | case1 k h h1 h2 => intro p hp; rw [pa_close h h1 h2] at hp; cases hp; show k + 2 ≤ _; omega
  | case2 k h h1 h2 h3 ih =>
    intro p hp
    rw [pa_comma h h1 h2 h3, Option.map_eq_some_iff] at hp
    obtain ⟨q, hq, rfl⟩ := hp
    exact ih q hq
  | case3 k h h1 h2 h3 => intro p hp; rw [pa_other h h1 h2 h3] at hp; cases hp
  | case4 k h h1 => intro p hp; rw [pa_kind h h1] at hp; cases hp
  | case5 k h => intro p hp; rw [pa_end h] at hp; cases hp
theorem pars_le {l : List Tok} {p : List ByteArray × Nat} (h : parsOf l = some p) : p.2 ≤ l.length := by
  unfold parsOf at h
  split at h
  · split at h
    · cases h; show 3 ≤ _; omega
    · exact pat_le l 2 p h
  · cases h
theorem op_short {l : List Tok} (h : ¬ 1 < l.length) : opens2 l = false := by unfold opens2; rw [dif_neg h]
theorem op_other {l : List Tok} (h : 1 < l.length) (h1 : l[1].text ≠ openB) : opens2 l = false := by unfold opens2; rw [dif_pos h, decide_eq_false h1]; rfl
theorem op_spaced {l : List Tok} (h : 1 < l.length) (h1 : l[1].spaced = true) : opens2 l = false := by unfold opens2; rw [dif_pos h, h1]; simp
theorem op_yes {l : List Tok} (h : 1 < l.length) (h1 : l[1].text = openB) (h2 : l[1].spaced = false) : opens2 l = true := by unfold opens2; rw [dif_pos h, decide_eq_true h1, h2]; rfl
theorem body_take {l : List Tok} {n k : Nat} (h1 : n ≤ k) (h2 : k < l.length) : (bodyFrom l n).take (k + 1 - n) = (bodyFrom l n).take (k - n) ++ [⟨l[k].kind, l[k].text, l[k].spaced && decide (n < k), []⟩] := by
  have hl : (bodyFrom l n).length = l.length - n := bodyFrom_len l n
  have hk : k - n < (bodyFrom l n).length := by omega
  rw [show k + 1 - n = k - n + 1 by omega, List.take_succ_eq_append_getElem hk, bodyFrom_get]
  have e : n + (k - n) = k := by omega
  simp only [e]
  have e2 : decide (0 < k - n) = decide (n < k) := decide_eq_decide.2 (by omega)
  rw [e2]

/-- A macro that is read out of tokens. -/
def MOf (l : List Tok) (w : World) (e : Ending) (w' : World) : Prop :=
  ∃ (cs : List Value) (fp : List Nat), e = .returned (.tuple #[.agg cs.toArray, .bool (macOf l).2]) ∧ sMacro.R w' cs (macOf l).1 fp ∧ Own w' w.heap.size fp ∧ Below w.heap.size w w'
theorem mof_no {l : List Tok} {w w' : World} (h : macOf l = (zeroMac, false)) (hb : Below w.heap.size w w') : MOf l w (.returned (.tuple #[.agg #[.string ⟨#[]⟩, .bool false, .slice none 0 0, .slice none 0 0], .bool false])) w' :=
  ⟨[.string ⟨#[]⟩, .bool false, .slice none 0 0, .slice none 0 0], [], by rw [h], by rw [h]; exact ⟨_, _, [], [], rfl, by show (0 : Nat) ≤ _; simp [maxLen], slice_empty sStr _ _ _ (by simp), slice_empty sTok _ _ _ (by simp), rfl⟩, Own.nil _ _, hb⟩
theorem mof_yes {l : List Tok} {m : DMacro} {w w' : World} {cs : List Value} {fp : List Nat} (h : macOf l = (m, true)) (hR : sMacro.R w' cs m fp) (ho : Own w' w.heap.size fp) (hb : Below w.heap.size w w') : MOf l w (.returned (.tuple #[.agg cs.toArray, .bool true])) w' :=
  ⟨cs, fp, by rw [h], by rw [h]; exact hR, ho, hb⟩
/-- Rows whose elements have nothing behind them: the blocks that a row's slice reads are the row's. -/
theorem rowE_own {α : Type} {S : Shape α} {base : Nat} {e : TypeId} {v : Value} {L : List (Elem α)} {w : World} (h : RowE S base e v L w) (hf : ∀ x ∈ L, x.fp = []) : ∃ fp, (sSlice S).R w [v] (L.map (·.d)) fp ∧ Own w base fp := by
  obtain ⟨fp, h1, _, h3⟩ := slice_of_row h.row fun x hx => ⟨h.len x hx, h.el x hx⟩
  have e0 : L.flatMap (·.fp) = [] := by rw [List.flatMap_eq_nil_iff]; exact hf
  rw [e0] at h3
  exact ⟨fp, h1, h3 (Own.nil _ _) (by simp)⟩

end Go.Proofs.Ytbkmapaieillmaa

/- strings.Builder at this program, walked here: what its writers leave. (The library's own contracts don't fit this translation: a builder's copy check ends otherwise.) -/
namespace Go.Proofs.Ytbkmapaieillmaa
open Go.RowKit
theorem byte_info : ∃ i, Try.prog.info? 5 = some i ∧ i.zero = some (.int .u8 0) ∧ i.size = 1 ∧ i.bytes = 1 := by
  have h : (Try.prog.info? 5).map (fun i => (i.zero, i.size, i.bytes)) = some (some (.int .u8 0), 1, 1) := by kernel_rfl
  obtain ⟨i, h1, h2⟩ := Option.map_eq_some_iff.1 h
  simp only [Prod.mk.injEq] at h2
  exact ⟨i, h1, h2.1, h2.2.1, h2.2.2⟩

end Go.Proofs.Ytbkmapaieillmaa

/- PrintTokens: the program. -/
namespace Go.Proofs.Ytbkmapaieillmaa
open Go.RowKit
theorem strCells_snoc (s : ByteArray) : Lib.strCells s ++ [.int .u8 32] = Lib.strCells (s ++ ⟨#[32]⟩) := by
  unfold Lib.strCells; rw [ByteArray.data_append, Array.toList_append, List.map_append]; rfl
theorem strCells_app (s t : ByteArray) : Lib.strCells s ++ Lib.strCells t = Lib.strCells (s ++ t) := by
  unfold Lib.strCells; rw [ByteArray.data_append, Array.toList_append, List.map_append]
theorem kept_cell {b g : Nat} {arr : Array Value} {ty : TypeId} {fr : Nat × Nat} {w w' : World} (hk : Lib.OthersKept 5 (some b) w w') (h : w.heap[g]? = some (.cells arr ty fr)) (hg : g ≠ b) (hty : ty ≠ 5) : w'.heap[g]? = some (.cells arr ty fr) :=
  hk g _ h (fun e => hg (Option.some.inj e)) (fun c fz e => hty (by simp only [Obj.cells.injEq] at e; exact e.2.1))

end Go.Proofs.Ytbkmapaieillmaa

/- MacroText of both. (Made by gen_mac7.py.) -/
namespace Go.Proofs.Ytbkmapaieillmaa
open Go.RowKit

/-! ### The head's bytes -/
def parL (m : DMacro) : List (List UInt8) := m.params.map (·.data.toList)
theorem hd_list (m : DMacro) : ∀ k, k ≤ m.params.length → (hdTo m k).data.toList = m.name.data.toList ++ [40] ++ Lib.join ((parL m).take k) [44]
  | 0, _ => by
    show (m.name ++ openB).data.toList = _
    rw [ByteArray.data_append, Array.toList_append, List.take_zero, Lib.join_nil, List.append_nil]; rfl
  | k + 1, hk => by
    have ih := hd_list m k (by omega)
    have hk' : k < m.params.length := by omega
    have hx : (parL m)[k]? = some m.params[k].data.toList := by unfold parL; rw [List.getElem?_map, List.getElem?_eq_getElem hk']; rfl
    rw [hdTo, dif_pos hk', ByteArray.data_append, Array.toList_append]
    by_cases h0 : 0 < k
    · rw [if_pos h0, ByteArray.data_append, Array.toList_append, ih]
      obtain ⟨j, rfl⟩ : ∃ j, k = j + 1 := ⟨k - 1, by omega⟩
      cases hp : parL m with
      | nil => rw [hp] at hx; simp at hx
      | cons p r =>
        rw [hp] at hx
        rw [List.take_succ_cons, List.take_succ_cons, Lib.join_cons, Lib.join_cons, Lib.joinTail_take_succ [44] r j _ (by simpa using hx)]
        have : commaB.data.toList = [44] := rfl
        rw [this]
        simp [List.append_assoc]
    · have hz : k = 0 := by omega
      subst hz
      rw [if_neg (by omega), ih]
      cases hp : parL m with
      | nil => rw [hp] at hx; simp at hx
      | cons p r =>
        rw [hp] at hx
        have hpe : p = m.params[0].data.toList := by simpa using hx
        simp [Lib.join_nil, Lib.join_one, hpe]
def joinB (m : DMacro) : ByteArray := ⟨(Lib.join (parL m) [44]).toArray⟩
theorem hd_join (m : DMacro) : hdTo m m.params.length = m.name ++ openB ++ joinB m := by
  have h := hd_list m m.params.length (Nat.le_refl _)
  rw [List.take_of_length_le (by unfold parL; simp)] at h
  apply ByteArray.ext
  apply Array.toList_inj.1
  rw [h, ByteArray.data_append, Array.toList_append, ByteArray.data_append, Array.toList_append]
  show _ = _ ++ (Lib.join (parL m) [44]).toArray.toList
  rw [List.toList_toArray]
  rfl
theorem joinB_nil {m : DMacro} (h : m.params.length = 0) : joinB m = ⟨#[]⟩ := by
  unfold joinB parL
  rw [List.length_eq_zero_iff.1 h]; rfl
theorem name_size {s : ByteArray} (h : oneTok s 1 = true) : s.size ≤ 12 := (name_facts h).2.1
theorem hdTo_size {m : DMacro} (h : macOk m = true) : ∀ k, k ≤ m.params.length → (hdTo m k).size ≤ 13 + 13 * k
  | 0, _ => by
    have := name_size (macOk_facts h).1.1
    show (m.name ++ openB).size ≤ _
    rw [ByteArray.size_append]
    have : openB.size = 1 := rfl
    omega
  | k + 1, hk => by
    have ih := hdTo_size h k (by omega)
    have hk' : k < m.params.length := by omega
    have := name_size ((macOk_facts h).2.1 k hk')
    have : commaB.size = 1 := rfl
    rw [hdTo, dif_pos hk', ByteArray.size_append]
    split
    · rw [ByteArray.size_append]; omega
    · omega
theorem hd_size {m : DMacro} (h : macOk m = true) : (hdTo m m.params.length).size ≤ 65 := by
  have := hdTo_size h _ (Nat.le_refl _)
  have := (macOk_facts h).1.2.2.1
  omega
theorem headOf_size {m : DMacro} (h : macOk m = true) : (headOf m).size ≤ 66 := by
  have := hd_size h
  have := name_size (macOk_facts h).1.1
  unfold headOf
  split
  · rw [ByteArray.size_append]; have : closeB.size = 1 := rfl; omega
  · omega
theorem join_size {m : DMacro} (h : macOk m = true) : (joinB m).size ≤ 65 := by
  have := hd_size h
  rw [hd_join, ByteArray.size_append] at this
  omega
theorem join_len {m : DMacro} (h : macOk m = true) : (Lib.join (m.params.map (·.data.toList)) [44]).length ≤ 65 := by
  have := join_size h
  unfold joinB at this
  have e : (⟨(Lib.join (parL m) [44]).toArray⟩ : ByteArray).size = (Lib.join (parL m) [44]).length := by show (Lib.join (parL m) [44]).toArray.size = _; simp
  rw [e] at this
  exact this
theorem printRes_size (l : List Tok) : (printRes l).1.size ≤ 200 := by
  unfold printRes
  split
  · split
    · show (0 : Nat) ≤ 200; omega
    · rename_i h; show (prTo l l.length).size ≤ 200; omega
  · show (0 : Nat) ≤ 200; omega
theorem printRes_nil {l : List Tok} (h : ¬ 0 < l.length) : printRes l = (⟨#[]⟩, true) := by
  have : l = [] := List.length_eq_zero_iff.1 (by omega)
  subst this; rfl
theorem mt_no {m : DMacro} (h : macOk m = false) : macText m = (⟨#[]⟩, false) := by unfold macText; rw [if_neg (by simp [h])]
theorem mt_pr {m : DMacro} (h : macOk m = true) (h2 : (printRes m.body).2 = false) : macText m = (⟨#[]⟩, false) := by unfold macText; rw [if_pos h, if_pos (.inl h2)]
theorem mt_long {m : DMacro} (h : macOk m = true) (h2 : 200 < (macOut m).size) : macText m = (⟨#[]⟩, false) := by unfold macText; rw [if_pos h, if_pos (.inr h2)]
theorem mt_yes {m : DMacro} (h : macOk m = true) (h2 : (printRes m.body).2 = true) (h3 : ¬ 200 < (macOut m).size) : macText m = (macOut m, true) := by
  unfold macText; rw [if_pos h, if_neg (by rintro (h | h); · rw [h2] at h; simp at h
                                           · exact h3 h)]
theorem out_body {m : DMacro} (h : 0 < m.body.length) : macOut m = headOf m ++ ⟨#[32]⟩ ++ (printRes m.body).1 := by unfold macOut; rw [if_pos h]
theorem out_bare {m : DMacro} (h : ¬ 0 < m.body.length) : macOut m = headOf m := by unfold macOut; rw [if_neg h]
theorem head_no {m : DMacro} (h : m.function = false) : headOf m = m.name := by unfold headOf; rw [if_neg (by simp [h])]
theorem head_yes {m : DMacro} (h : m.function = true) : headOf m = hdTo m m.params.length ++ closeB := by unfold headOf; rw [if_pos h]

/-- What MacroText hands back. -/
def MText (m : DMacro) (w : World) (e : Ending) (w' : World) : Prop := e = .returned (.tuple #[.string (macText m).1, .bool (macText m).2]) ∧ Below w.heap.size w w'
theorem mtext_ret {m : DMacro} {s : ByteArray} {b : Bool} {w w' : World} (h : macText m = (s, b)) (hb : Below w.heap.size w w') : MText m w (.returned (.tuple #[.string s, .bool b])) w' := ⟨by rw [h], hb⟩

/-- A sum of texts under a name of its own. -/
theorem add_name (a b : ByteArray) (h : a.size + b.size ≤ 1000000) : ∃ c : ByteArray, Hid (c = a ++ b) ∧ (∀ W : World, (Op.stringOp .add a b).run Try.prog W = .ok (.string c) W) ∧ c.size = a.size + b.size :=
  ⟨a ++ b, rfl, fun W => run_string_add_sum (P := Try.prog) W a b (by omega), ByteArray.size_append⟩
theorem one_size (c : UInt8) : (⟨#[c]⟩ : ByteArray).size = 1 := rfl

end Go.Proofs.Ytbkmapaieillmaa

/- Four cells stored into one block; an operation of a drawn region taken first; two structs as results. Over any program. -/
namespace Go.Proofs.Ytbkmapaieillmaa
open Go.RowKit

def set4 (w : World) (g : Nat) (v0 v1 v2 v3 : Value) : World := (((w.setCell ⟨g, 0, none⟩ v0).setCell ⟨g, 1, none⟩ v1).setCell ⟨g, 2, none⟩ v2).setCell ⟨g, 3, none⟩ v3
section
variable {P : Program} {ops : Array Oper} {Q : Exit → Act → World → Prop} {md : Region.Mode} {S : World → Prop}
/-- An operation of a drawn region is taken first; its slot is written out. -/
theorem takeH2 (i d : Nat) {oi : Oper} {v : Value} {fuel : Nat} {listed : Array Bool} {a : Act} {w : World} (hi : ops[i]? = some oi) (hd : oi.dst = some d)
    (hs : Region.noSelect ops = true) (hf : Region.free md ops listed i = true) (hr : (Region.ready md ops listed).contains i = true)
    (hQ : ∀ c a w, Q (.panic c) (a.put (some d) v) w → Q (.panic c) a w) (hw : Region.wanted oi (yielded ops a.tmps) = true) (hS : S w)
    (hy : ∀ w, S w → (execOp a.eval oi).run P w = .ok (.value v) w)
    (h : wpAnyH P md ops Q S fuel (listed.setIfInBounds i true) (a.put (some d) v) w) : wpAnyH P md ops Q S (fuel + 1) listed a w :=
  wpAnyH_take hi hs hf hr (by rw [hd]; exact hQ) (.inl ⟨hw, hy⟩) hS (by rw [hd]; exact h)
end
theorem results_two {P : Program} {fn : Func} {p q : Tmp} {ty : TypeId} (h : fn.results = #[.cell p ty, .cell q ty]) (tmps : Array Value) (w : World) (g1 g2 : Nat) (t1 t2 : TypeId) (cs1 cs2 : Array Value) (fr1 fr2 : Nat × Nat) (d : TypeDesc)
    (hp : tmps.getD p undef = .pointer (some ⟨g1, 0, none⟩)) (hq : tmps.getD q undef = .pointer (some ⟨g2, 0, none⟩)) (hg1 : w.heap[g1]? = some (.cells cs1 t1 fr1)) (hg2 : w.heap[g2]? = some (.cells cs2 t2 fr2))
    (hu : P.underlying ty = some d) (hd : (match d with | .struct _ | .array _ _ => true | _ => false) = true) (hi1 : (P.info? ty).map (·.size) = some cs1.size) (hi2 : (P.info? ty).map (·.size) = some cs2.size) :
    (results fn tmps).run P w = .ok (.tuple #[.agg cs1, .agg cs2]) w := by
  have hp' : tmps[p]?.getD undef = .pointer (some ⟨g1, 0, none⟩) := by simpa using hp
  have hq' : tmps[q]?.getD undef = .pointer (some ⟨g2, 0, none⟩) := by simpa using hq
  simp [results, h, hp', hq', asAddr, run_loadVar_row w g1 t1 ty cs1 fr1 d hg1 hu hd hi1, run_loadVar_row w g2 t2 ty cs2 fr2 d hg2 hu hd hi2]
theorem set4_at {w : World} {g : Nat} {z0 z1 z2 z3 : Value} {ty : TypeId} (h : w.heap[g]? = some (.cells #[z0, z1, z2, z3] ty (0, 0))) (v0 v1 v2 v3 : Value) :
    (set4 w g v0 v1 v2 v3).heap[g]? = some (.cells #[v0, v1, v2, v3] ty (0, 0)) := blk_set (blk_set (blk_set (blk_set h 0 _) 1 _) 2 _) 3 _
theorem set4_far {w : World} {g b : Nat} (h : b ≠ g) (v0 v1 v2 v3 : Value) : (set4 w g v0 v1 v2 v3).heap[b]? = w.heap[b]? := by
  unfold set4
  rw [Below.heap_setCell _ _ _ _ h, Below.heap_setCell _ _ _ _ h, Below.heap_setCell _ _ _ _ h, Below.heap_setCell _ _ _ _ h]
theorem set4_size (w : World) (g : Nat) (v0 v1 v2 v3 : Value) : (set4 w g v0 v1 v2 v3).heap.size = w.heap.size := by
  unfold set4
  simp
theorem set4_below {B : Nat} {w0 w : World} (hB : Below B w0 w) {g : Nat} (hg : B ≤ g) (v0 v1 v2 v3 : Value) : Below B w0 (set4 w g v0 v1 v2 v3) :=
  ((((hB).setCell (p := ⟨g, 0, none⟩) hg v0).setCell (p := ⟨g, 1, none⟩) hg v1).setCell (p := ⟨g, 2, none⟩) hg v2).setCell (p := ⟨g, 3, none⟩) hg v3
theorem Shape.set4R {α : Type} (S : Shape α) {w : World} {g : Nat} {cs : List Value} {d : α} {fp : List Nat} (h : S.R w cs d fp) (hn : g ∉ fp) (v0 v1 v2 v3 : Value) : S.R (set4 w g v0 v1 v2 v3) cs d fp :=
  S.frame (fun b hb => set4_far (fun e : b = g => hn (by rw [← e]; exact hb)) _ _ _ _) h
theorem set4_cell {w : World} {g b : Nat} (h : b ≠ g) (j : Nat) (v0 v1 v2 v3 : Value) : (set4 w g v0 v1 v2 v3).cell? ⟨b, j, none⟩ = w.cell? ⟨b, j, none⟩ :=
  World.cell?_of_block (set4_far h v0 v1 v2 v3)
theorem chain_cell {w : World} {g b : Nat} (h : b ≠ g) (j : Nat) (v0 v1 v2 v3 : Value) : ((((w.setCell ⟨g, 0, none⟩ v0).setCell ⟨g, 1, none⟩ v1).setCell ⟨g, 2, none⟩ v2).setCell ⟨g, 3, none⟩ v3).cell? ⟨b, j, none⟩ = w.cell? ⟨b, j, none⟩ := set4_cell h j v0 v1 v2 v3
theorem Own.set4 {w : World} {lo g : Nat} {fp : List Nat} (h : Own w lo fp) (v0 v1 v2 v3 : Value) : Own (set4 w g v0 v1 v2 v3) lo fp :=
  (((h.setCell ⟨g, 0, none⟩ v0).setCell ⟨g, 1, none⟩ v1).setCell ⟨g, 2, none⟩ v2).setCell ⟨g, 3, none⟩ v3

/-- A struct that was made is stored into its own box. -/
theorem box_done {α : Type} {S : Shape α} {w0 w : World} {g : Nat} {z0 z1 z2 z3 : Value} {T : TypeId} {cs : List Value} {d : α} {fp : List Nat} (HX : w.heap[g]? = some (.cells #[z0, z1, z2, z3] T (0, 0))) (hg : w0.heap.size ≤ g)
    (R : S.R w cs d fp) (O : Own w w0.heap.size fp) (hn : g ∉ fp) (hb : Below w0.heap.size w0 w) (v0 v1 v2 v3 : Value) :
    (set4 w g v0 v1 v2 v3).heap[g]? = some (.cells #[v0, v1, v2, v3] T (0, 0)) ∧ w0.heap.size ≤ g ∧ g < (set4 w g v0 v1 v2 v3).heap.size ∧ S.R (set4 w g v0 v1 v2 v3) cs d fp ∧ Own (set4 w g v0 v1 v2 v3) w0.heap.size fp ∧ Below w0.heap.size w0 (set4 w g v0 v1 v2 v3) :=
  ⟨set4_at HX _ _ _ _, hg, by rw [set4_size]; exact (Array.getElem?_eq_some_iff.1 HX).1, S.set4R R hn _ _ _ _, O.set4 _ _ _ _, set4_below hb hg _ _ _ _⟩

/-- Two structs are stored into two boxes, in either order. -/
def TwoIn {α : Type} (S : Shape α) (w W : World) (g2 g3 : Nat) (T : TypeId) (v0 v1 v2 v3 u0 u1 u2 u3 : Value) (cs cs' : List Value) (d d' : α) (fp fp' : List Nat) : Prop :=
  W.heap[g2]? = some (.cells #[v0, v1, v2, v3] T (0, 0)) ∧ W.heap[g3]? = some (.cells #[u0, u1, u2, u3] T (0, 0)) ∧ S.R W cs d fp ∧ S.R W cs' d' fp' ∧ Below w.heap.size w W
section
variable {α : Type} {S : Shape α} {w w7 : World} {g2 g3 : Nat} {T : TypeId} {z0 z1 z2 z3 y0 y1 y2 y3 : Value} {cs cs' : List Value} {d d' : α} {fp fp' : List Nat}
theorem two_abS (hz2 : w7.heap[g2]? = some (.cells #[z0, z1, z2, z3] T (0, 0))) (hz3 : w7.heap[g3]? = some (.cells #[y0, y1, y2, y3] T (0, 0))) (hne : g2 ≠ g3) (R : S.R w7 cs d fp) (R' : S.R w7 cs' d' fp')
    (hn : g2 ∉ fp ∧ g3 ∉ fp ∧ g2 ∉ fp' ∧ g3 ∉ fp') (hB : Below w.heap.size w w7) (hg : w.heap.size ≤ g2 ∧ w.heap.size ≤ g3) (v0 v1 v2 v3 u0 u1 u2 u3 : Value) :
    TwoIn S w (set4 (set4 w7 g2 v0 v1 v2 v3) g3 u0 u1 u2 u3) g2 g3 T v0 v1 v2 v3 u0 u1 u2 u3 cs cs' d d' fp fp' :=
  ⟨(set4_far hne _ _ _ _).trans (set4_at hz2 _ _ _ _), set4_at ((set4_far (Ne.symm hne) _ _ _ _).trans hz3) _ _ _ _, S.set4R (S.set4R R hn.1 _ _ _ _) hn.2.1 _ _ _ _, S.set4R (S.set4R R' hn.2.2.1 _ _ _ _) hn.2.2.2 _ _ _ _, set4_below (set4_below hB hg.1 _ _ _ _) hg.2 _ _ _ _⟩
theorem two_baS (hz2 : w7.heap[g2]? = some (.cells #[z0, z1, z2, z3] T (0, 0))) (hz3 : w7.heap[g3]? = some (.cells #[y0, y1, y2, y3] T (0, 0))) (hne : g2 ≠ g3) (R : S.R w7 cs d fp) (R' : S.R w7 cs' d' fp')
    (hn : g2 ∉ fp ∧ g3 ∉ fp ∧ g2 ∉ fp' ∧ g3 ∉ fp') (hB : Below w.heap.size w w7) (hg : w.heap.size ≤ g2 ∧ w.heap.size ≤ g3) (v0 v1 v2 v3 u0 u1 u2 u3 : Value) :
    TwoIn S w (set4 (set4 w7 g3 u0 u1 u2 u3) g2 v0 v1 v2 v3) g2 g3 T v0 v1 v2 v3 u0 u1 u2 u3 cs cs' d d' fp fp' :=
  ⟨set4_at ((set4_far hne _ _ _ _).trans hz2) _ _ _ _, (set4_far (Ne.symm hne) _ _ _ _).trans (set4_at hz3 _ _ _ _), S.set4R (S.set4R R hn.2.1 _ _ _ _) hn.1 _ _ _ _, S.set4R (S.set4R R' hn.2.2.2 _ _ _ _) hn.2.2.1 _ _ _ _, set4_below (set4_below hB hg.2 _ _ _ _) hg.1 _ _ _ _⟩
end

end Go.Proofs.Ytbkmapaieillmaa

/- Macros are drawn. (Made by gen_drawmac.py.) -/
namespace Go.Proofs.Ytbkmapaieillmaa
open Go.RowKit

/-- A drawn macro: small. -/
def okMac (m : DMacro) : Prop := m.name.size ≤ 1000 ∧ m.params.length ≤ 100 ∧ m.body.length ≤ 100 ∧ ∀ t ∈ m.body, t.hidden.length ≤ 3
/-- What is read out of tokens is small, and hides nothing. -/
theorem of_small (l : List Tok) : (macOf l).1.name.size ≤ 12 ∧ (macOf l).1.params.length ≤ 4 ∧ (macOf l).1.body.length ≤ 20 ∧ ∀ t ∈ (macOf l).1.body, t.hidden = [] := by
  rcases h : macOf l with ⟨m, ok⟩
  cases ok
  · have := macOf_no h
    subst this
    exact ⟨by show (0 : Nat) ≤ 12; omega, by show (0 : Nat) ≤ 4; omega, by show (0 : Nat) ≤ 20; omega, fun t ht => by simp [zeroMac] at ht⟩
  · obtain ⟨⟨h1, h2, h3, h4, h5⟩, h6, h7⟩ := macOk_facts (macOf_ok h)
    refine ⟨name_size h1, h3, h5, fun t ht => ?_⟩
    obtain ⟨k, hk, rfl⟩ := List.getElem_of_mem ht
    exact (bodOk_facts hk (h7 k hk)).2.1
/-- A macro is drawn, by at most n picks. -/
def DrawnMac (rb p n : Nat) (w : World) (e : Ending) (w' : World) : Prop :=
  ∃ (nm : ByteArray) (f : Bool) (a2 a3 : Option Addr) (n2 c2 n3 c3 : Nat) (ps : List ByteArray) (bd : List Tok) (fp : List Nat) (q : Nat), e = .returned (.agg #[.string nm, .bool f, .slice a2 n2 c2, .slice a3 n3 c3]) ∧
    sMacro.R w' [.string nm, .bool f, .slice a2 n2 c2, .slice a3 n3 c3] ⟨nm, f, ps, bd⟩ fp ∧ okMac ⟨nm, f, ps, bd⟩ ∧ (∀ b ∈ fp, w.heap.size ≤ b) ∧ q ≤ p + n ∧ Rd w' rb q ∧ Kept [rb] w w'

theorem dm_ret {rb p n q : Nat} {w wF : World} {nm : ByteArray} {f : Bool} {a2 a3 : Option Addr} {n2 c2 n3 c3 : Nat} {ps : List ByteArray} {bd : List Tok} {fp : List Nat} (hR : sMacro.R wF [.string nm, .bool f, .slice a2 n2 c2, .slice a3 n3 c3] ⟨nm, f, ps, bd⟩ fp) (ho : okMac ⟨nm, f, ps, bd⟩) (hlo : ∀ b ∈ fp, w.heap.size ≤ b) (hq : q ≤ p + n) (hRd : Rd wF rb q) (hK : Kept [rb] w wF) :
    DrawnMac rb p n w (.returned (.agg #[.string nm, .bool f, .slice a2 n2 c2, .slice a3 n3 c3])) wF := ⟨nm, f, a2, a3, n2, c2, n3, c3, ps, bd, fp, q, rfl, hR, ho, hlo, hq, hRd, hK⟩

/-- append of any tokens that can be read, and hide nothing, behind a row of the call's own. -/
theorem wp_append_toksR {w : World} {ops : Array Oper} {rest : List Oper} {o : Oper} {a : Act} {Q : Exit → Act → World → Prop} (hg : o.guard = none) (s y : Operand)
    (ho : o.op = .call { callee := .builtin .append, args := #[s, y], argTypes := #[31, 31] })
    (base : Nat) (v u : Value) (L : List (Elem Tok)) (M : List Tok) (fp : List Nat) (hs : a.eval s = v) (hown : RowE sTok base 25 v L w) (hy : a.eval y = u) (HM : (sSlice sTok).R w [u] M fp) (hh : ∀ t ∈ M, t.hidden = [])
    (h63 : L.length + M.length ≤ 2000000) (hbase : base ≤ w.heap.size)
    (h : ∀ v' X w', X.map (·.d) = M → (∀ x ∈ X, x.fp = []) → RowE sTok base 25 v' (L ++ X) w' → w.grownBy w' v.ownBlock → wpList Try.prog ops Q rest (a.put o.dst v') w') : wpList Try.prog ops Q (o :: rest) a w := by
  obtain ⟨i, hi, hz0, hz1, hz2⟩ := info_parts ti_tok.2
  obtain ⟨ad, cap, rfl, hc, hm, hrow⟩ := open_rows HM
  by_cases h0 : 0 < M.length
  · obtain ⟨b, off, fps, rfl, hb, -, he⟩ := hrow h0
    have hex : ∀ k, (hk : k < M.length) → ∃ hh : Value, ElemAt w b off 4 k [.int .i64 M[k].kind, .string M[k].text, .bool M[k].spaced, hh] ∧ sTok.R w [.int .i64 M[k].kind, .string M[k].text, .bool M[k].spaced, hh] M[k] [] ∧ hh.oneCell' = true := fun k hk => by
      obtain ⟨es, hE, hR⟩ := he k hk
      have hk0 := hh _ (List.getElem_mem hk)
      obtain ⟨hv, rfl, k1, k2, hK⟩ := hR
      obtain ⟨ao, co, rfl, hc1, hm1, -⟩ := open_rows hK
      exact ⟨_, hE, ⟨_, rfl, k1, k2, by rw [hk0]; exact slice_empty sStr w ao co hm1⟩, rfl⟩
    let X : List (Elem Tok) := List.ofFn fun (k : Fin M.length) => (⟨[.int .i64 M[k.1].kind, .string M[k.1].text, .bool M[k.1].spaced, (hex k.1 k.2).choose], M[k.1], []⟩ : Elem Tok)
    have hXl : X.length = M.length := by simp [X]
    have hXg : ∀ k, (hk : k < X.length) → X[k] = ⟨[.int .i64 (M[k]'(by omega)).kind, .string (M[k]'(by omega)).text, .bool (M[k]'(by omega)).spaced, (hex k (by omega)).choose], M[k]'(by omega), []⟩ := fun k hk => by simp [X]
    have hXm : ∀ x ∈ X, ∃ k, ∃ hk : k < M.length, x = ⟨[.int .i64 M[k].kind, .string M[k].text, .bool M[k].spaced, (hex k hk).choose], M[k], []⟩ := fun x hx => by
      obtain ⟨k, hk, rfl⟩ := List.getElem_of_mem hx
      exact ⟨k, by omega, hXg k hk⟩
    have hXd : X.map (·.d) = M := List.ext_getElem (by simpa using hXl) fun k h1 h2 => by rw [List.getElem_map, hXg k (by simpa using h1)]
    have hX4 : ∀ x ∈ X, x.cells.length = 4 := fun x hx => by obtain ⟨k, hk, rfl⟩ := hXm x hx; rfl
    have hX1 : ∀ x ∈ X, ∀ u ∈ x.cells, u.oneCell' = true := fun x hx u hu => by
      obtain ⟨k, hk, rfl⟩ := hXm x hx
      have := (hex k hk).choose_spec.2.2
      simp only [List.mem_cons, List.not_mem_nil, or_false] at hu
      rcases hu with rfl | rfl | rfl | rfl
      · rfl
      · rfl
      · rfl
      · exact this
    refine wpList_append_own _ hg s y _ ho base _ i _ 4 _ ti_tok.1 hi hz0 hz1 hz2 rfl (by decide) v L.length _ hs hown.row ⟨b, off, none⟩ M.length cap (X.flatMap (·.cells)) hy (by rw [flatMap_len hX4, hXl]) ?_ ?_ (by unfold maxLen; omega) (by omega) hbase fun v' w' h1 h2 _ => h v' X w' hXd (fun x hx => by obtain ⟨k, hk, rfl⟩ := hXm x hx; rfl) (hown.appended (X := X) (by rw [List.length_append, hXl, List.flatMap_append]; exact h1) h2 hX4 (fun x hx => by obtain ⟨k, hk, rfl⟩ := hXm x hx; exact (hex k hk).choose_spec.2.1) (fun x hx b hb => by obtain ⟨k, hk, rfl⟩ := hXm x hx; simp at hb) (fun x hx b hb => by obtain ⟨k, hk, rfl⟩ := hXm x hx; simp at hb)) h2
    · intro j u hj
      have hjl : j < X.length * 4 := by have := (List.getElem?_eq_some_iff.1 hj).1; rwa [flatMap_len hX4] at this
      have hdm : j = j / 4 * 4 + j % 4 := by omega
      have hk : j / 4 < X.length := by omega
      rw [hdm, flatMap_at (f := Elem.cells) hX4 hk (by omega), hXg _ hk] at hj
      have hE := (hex (j / 4) (by omega)).choose_spec.1
      have := hE.2 (j % 4) (by omega)
      rw [Addr.add_lit, show off + j = off + j / 4 * 4 + j % 4 by omega, this]
      exact hj
    · intro u hu
      obtain ⟨x, hx, hu⟩ := List.mem_flatMap.1 hu
      exact hX1 x hx u hu
  · have hM : M = [] := List.length_eq_zero_iff.1 (by omega)
    subst hM
    cases ad with
    | none =>
      have hrun := run_append_nil (P := Try.prog) (w := w) base _ o.type _ i 4 cap ti_tok.1 hi v L.length _ hown.row
      have hK := h v [] w rfl (by simp) (by simpa using hown) ⟨rfl, rfl, rfl, Nat.le_refl _, fun _ _ _ => rfl⟩
      refine wpList_plain hg fun K hK' => ?_
      unfold Oper.wp
      simp only [List.length_nil] at hy
      simp [execOp, ho, resolve, invoke, builtin, hs, hy, hrun, Result.andThen]
      exact hK' _ _ hK
    | some ad =>
      refine wpList_append_own _ hg s y _ ho base _ i _ 4 _ ti_tok.1 hi hz0 hz1 hz2 rfl (by decide) v L.length _ hs hown.row ad 0 cap [] hy rfl (by simp) (by simp) (by unfold maxLen; omega) (by omega) hbase fun v' w' h1 h2 _ => h v' [] w' rfl (by simp) ?_ h2
      exact hown.appended (X := []) (by have h1' := h1; simp only [Nat.add_zero, List.append_nil] at h1' ⊢; exact h1') h2 (by simp) (by simp) (by simp) (by simp)

def mac_texts : List ByteArray := [⟨#[97, 32, 49]⟩, ⟨#[98, 32, 97, 32, 43, 32, 50]⟩, ⟨#[65, 66, 32, 97, 32, 98]⟩, ⟨#[102, 40, 120, 41, 32, 120, 32, 43, 32, 120]⟩, ⟨#[103, 40, 120, 44, 121, 41, 32, 120, 32, 35, 35, 32, 121]⟩, ⟨#[104, 40, 120, 41, 32, 35, 32, 120]⟩, ⟨#[101, 40, 41, 32, 55]⟩, ⟨#[97, 32, 102]⟩, ⟨#[114, 32, 114, 32, 43, 32, 49]⟩, ⟨#[112, 40, 120, 41, 32, 102, 40, 120, 41]⟩, ⟨#[113, 40, 120, 44, 121, 44, 122, 41, 32, 122, 32, 121, 32, 120]⟩, ⟨#[110]⟩, ⟨#[102, 40, 120, 41, 32, 120, 32, 35, 35, 32, 49]⟩, ⟨#[109, 40, 120, 41, 32, 40, 120, 41, 32, 42, 32, 40, 120, 41]⟩, ⟨#[98, 32, 98]⟩, ⟨#[103, 40, 120, 44, 121, 41, 32, 102, 40, 120, 41, 32, 121]⟩, ⟨#[97, 32, 40, 32, 50, 32, 41]⟩, ⟨#[120, 32, 102, 32, 40, 32, 51]⟩, ⟨#[99, 40, 120, 41, 32, 120, 32, 120]⟩, ⟨#[100, 32, 53, 32, 35, 35, 32, 54]⟩]
theorem mac_texts_size : ∀ s ∈ mac_texts, s.size ≤ 14 := by decide
def mac_names : List ByteArray := [⟨#[]⟩, ⟨#[49]⟩, ⟨#[100, 101, 102, 105, 110, 101, 100]⟩, ⟨#[97, 32, 98]⟩]
theorem mac_names_size : ∀ s ∈ mac_names, s.size ≤ 7 := by decide
def mac_pars : List ByteArray := [⟨#[120]⟩, ⟨#[49]⟩, ⟨#[]⟩]
theorem mac_pars_size : ∀ s ∈ mac_pars, s.size ≤ 1 := by decide

end Go.Proofs.Ytbkmapaieillmaa

/- Tables are drawn. -/
namespace Go.Proofs.Ytbkmapaieillmaa
open Go.RowKit

theorem okMac_sm {m : DMacro} (h : okMac m) : MacSm m := ⟨by have := h.2.1; omega, by have := h.2.2.1; omega, fun k hk => by have := h.2.2.2 _ (List.getElem_mem hk); omega⟩
theorem defM_mem {l : List DMacro} {m : DMacro} : ∀ x ∈ (defM l m).1, x ∈ l ∨ x = m := by
  intro x hx
  unfold defM at hx
  split at hx
  · split at hx
    · split at hx
      · exact .inl hx
      · split at hx
        · exact .inl hx
        · unfold putAt at hx
          simp only [List.mem_append, List.mem_singleton] at hx
          rcases hx with (h | h) | h
          · exact .inl (List.mem_of_mem_take h)
          · exact .inr h
          · exact .inl (List.mem_of_mem_drop h)
    · exact .inl hx
  · simp at hx
theorem defM_len (l : List DMacro) (m : DMacro) : (defM l m).1.length ≤ l.length + 1 := by
  unfold defM
  split
  · split
    · split
      · simp
      · split
        · simp
        · unfold putAt
          simp only [List.length_append, List.length_take, List.length_drop, List.length_singleton]
          omega
    · simp
  · simp
/-- A drawn table. -/
def DrawnTab (rb p n : Nat) (w : World) (e : Ending) (w' : World) : Prop :=
  ∃ (v : Value) (l : List DMacro) (fp : List Nat) (q : Nat), e = .returned v ∧ (sSlice sMacro).R w' [v] l fp ∧ (∀ b ∈ fp, w.heap.size ≤ b) ∧ (∀ m ∈ l, okMac m) ∧ l.length ≤ 9 ∧ q ≤ p + n ∧ Rd w' rb q ∧ Kept [rb] w w'
/-- append behind a row: what can be read then. -/
theorem wp_append_read {α : Type} {S : Shape α} {P : Program} {t e : TypeId} {z : Value} {bytes : Nat} (ti : TI P t e z S.m bytes) (hzs : z.cells.size = S.m) (h0 : 0 < S.m) (w : World) {L X : List (Elem α)} {ops : Array Oper} {rest : List Oper} {o : Oper} {a : Act} {Q : Exit → Act → World → Prop}
    (hg : o.guard = none) (s y : Operand) (ho : o.op = .call { callee := .builtin .append, args := #[s, y], argTypes := #[t, t] })
    (base : Nat) (v : Value) (hs : a.eval s = v) (hown : RowG S base e v L w) (g off m c : Nat) (hy : a.eval y = .slice (some ⟨g, off, none⟩) m c) (hm : X.length = m)
    (hX : ∀ x ∈ X, x.cells.length = S.m ∧ S.R w x.cells x.d x.fp ∧ ∀ b ∈ x.fp, v.ownBlock ≠ some b) (h1 : ∀ x ∈ X, ∀ u ∈ x.cells, u.oneCell' = true) (hcell : ∀ j u, (X.flatMap (·.cells))[j]? = some u → w.cell? ⟨g, off + j, none⟩ = some u)
    (h63 : L.length + m ≤ maxLen) (hbytes : (L.length + m) * bytes ≤ 140737488355328) (hbase : base ≤ w.heap.size)
    (h : ∀ v' fp w', (sSlice S).R w' [v'] ((L ++ X).map (·.d)) fp → (∀ b ∈ fp, base ≤ b ∨ ∃ x ∈ L ++ X, b ∈ x.fp) → w.grownBy w' v.ownBlock → wpList P ops Q rest (a.put o.dst v') w') : wpList P ops Q (o :: rest) a w := by
  obtain ⟨i, hi, hz0, hz1, hz2⟩ := info_parts ti.2
  subst hm
  refine wpList_append_own _ hg s y t ho base e i z S.m bytes ti.1 hi hz0 hz1 hz2 hzs h0 v L.length _ hs hown.row ⟨g, off, none⟩ X.length c (X.flatMap (·.cells)) hy (flatMap_len (f := Elem.cells) fun x hx => (hX x hx).1) ?_ ?_ h63 hbytes hbase fun v' w' r1 r2 _ => ?_
  · intro j u hj
    rw [Addr.add_lit]
    exact hcell j u hj
  · intro u hu
    obtain ⟨x, hx, hu⟩ := List.mem_flatMap.1 hu
    exact h1 x hx u hu
  · have hall : ∀ x ∈ L ++ X, x.cells.length = S.m ∧ S.R w' x.cells x.d x.fp := fun x hx => by
      have hb : x.cells.length = S.m ∧ S.R w x.cells x.d x.fp ∧ ∀ b ∈ x.fp, v.ownBlock ≠ some b := by
        rcases List.mem_append.1 hx with hx | hx
        · exact ⟨hown.len x hx, hown.el x hx, hown.ap x hx⟩
        · exact hX x hx
      exact ⟨hb.1, S.frame (fun b hb' => r2.block b (S.lt hb.2.1 b hb') fun e => hb.2.2 b hb' e.symm) hb.2.1⟩
    have hrow : w'.ownsRow base e S.m v' (L ++ X).length ((L ++ X).flatMap (·.cells)) := by
      rw [List.length_append, List.flatMap_append]; exact r1
    obtain ⟨fp, q1, q2, _⟩ := slice_of_row hrow hall
    refine h v' fp w' q1 (fun b hb => ?_) r2
    rcases q2 b hb with h0 | h0
    · exact .inl (hrow.lt b h0).1
    · obtain ⟨x, hx, hb'⟩ := List.mem_flatMap.1 h0
      exact .inr ⟨x, hx, hb'⟩

end Go.Proofs.Ytbkmapaieillmaa
