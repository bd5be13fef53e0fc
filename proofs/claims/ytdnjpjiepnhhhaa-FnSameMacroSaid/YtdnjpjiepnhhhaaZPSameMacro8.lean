/- Texts that the proof of PSameMacro stands on, in one file. -/
import Derived.Test.YtdnjpjiepnhhhaaZPSameMacro7
import Derived.Test.YtdnjpjiepnhhhaaZPSameMacro5
import Derived.Test.YtdnjpjiepnhhhaaZPSameMacro6
import Derived.Deep.Cut
import Derived.Deep.CutRange
import Derived.Laws.ResultCell
import Derived.Test.YtdnjpjiepnhhhaaShelf
import Derived.Test.YtdnjpjiepnhhhaaZPSameMacro1
import Derived.Lib.FrozenHead2
import Derived.Lib.OthersKept
import Derived.Lib.Builder
import Derived.Laws.Externs
import Derived.Lib.Join
set_option linter.unusedVariables false
set_option linter.unusedSimpArgs false
/- MacroValid of both; the laws' helpers over macros by value. -/
namespace Go.Proofs.Ytdnjpjiepnhhhaa
open Go.RowKit

theorem spec_MacroValid (cs : List Value) (m : DMacro) (fp : List Nat) (w : World) (H : sMacro.R w cs m fp) : Calls Try.prog 36 #[.agg cs.toArray] w (Says (macOk m) w) := by
  obtain ⟨h2, h3, fp2, fp3, rfl, k0, K2, K3, rfl⟩ := H
  cases hf : m.function
  · have := spec_MacroValid_no m h2 h3 fp2 fp3 w k0 K2 K3 hf
    rw [hf] at this
    exact this
  · have := spec_MacroValid_yes m h2 h3 fp2 fp3 w k0 K2 K3 hf
    rw [hf] at this
    exact this

theorem mi_name {m : DMacro} (h : oneTok m.name 1 = false) : macOk m = false := by rw [mac_impl, h]; rfl
theorem mi_def {m : DMacro} (h : m.name = definedB) : macOk m = false := by rw [mac_impl, decide_eq_true h]; simp
theorem mi_no {m : DMacro} (h1 : oneTok m.name 1 = true) (h2 : m.name ≠ definedB) (hf : m.function = false) : macOk m = (decide (m.params.length = 0) && bodyOkI m.body) := by rw [mac_impl, h1, decide_eq_false h2, hf]; rfl
theorem mi_yes {m : DMacro} (h1 : oneTok m.name 1 = true) (h2 : m.name ≠ definedB) (hf : m.function = true) : macOk m = (parsOk m.params && bodyOkI m.body && signsOk m) := by rw [mac_impl, h1, decide_eq_false h2, hf]; rfl
theorem mi_big {m : DMacro} (h : bodyOkI m.body = true) : m.body.length ≤ 20 := by unfold bodyOkI at h; rw [Bool.and_eq_true, Bool.and_eq_true] at h; simpa using h.1.1

set_option maxHeartbeats 8000000 in
set_option maxRecDepth 100000 in
theorem impl_MacroValid (cs : List Value) (m : DMacro) (fp : List Nat) (w : World) (H : sMacro.R w cs m fp) : Calls Try.prog 30 #[.agg cs.toArray] w (Says (macOk m) w) := by
  obtain ⟨h2, h3, fp2, fp3, rfl, k0, K2, K3, rfl⟩ := H
  obtain ⟨a2, cap2, rfl, -⟩ := open_strs K2
  obtain ⟨a3, cap3, rfl, -⟩ := open_rows K3
  have HN := Lib.hid (fun W => impl_isOneToken m.name 1 W k0)
  have HP := Lib.hid (fun W (hW : Below w.heap.size w W) => impl_paramsValid _ _ _ W ((sSlice sStr).below K2 hW))
  have HB := Lib.hid (fun W (hW : Below w.heap.size w W) => impl_bodyValid _ _ _ W ((sSlice sTok).below K3 hW))
  have HS := Lib.hid (fun W (hl : m.body.length ≤ 1000) (hW : Below w.heap.size w W) => impl_numberSignsFit m _ _ _ _ W ((sSlice sStr).below K2 hW) ((sSlice sTok).below K3 hW) hl)
  have hb0 := alloc_below' w (.cells #[.string m.name, .bool m.function, .slice a2 m.params.length cap2, .slice a3 m.body.length cap3] 27)
  have HX := Lib.hid (heap_alloc_new w (.cells #[.string m.name, .bool m.function, .slice a2 m.params.length cap2, .slice a3 m.body.length cap3] 27))
  clear K2 K3
  cases h1 : oneTok m.name 1
  · rw [h1] at HN
    have HF := Lib.hid (mi_name h1)
    clear h1
    go_enter Try.func30, Try.ntmps30
    go_wp2_with (go_at_call 64; refine (HN.out _).mono ?_; rintro e w1 ⟨rfl, hb1⟩)
    go_ret
    exact ⟨ret_bool HF.out.symm, hb0.trans (hb1.mono hb0.size)⟩
  rw [h1] at HN
  go_enter Try.func30, Try.ntmps30
  go_wp2_with fail
  refine (HN.out _).mono ?_
  rintro e w1 ⟨rfl, hb1⟩
  have hB1 := hb0.trans (hb1.mono hb0.size)
  replace HX := Lib.hid ((hb1.block _ (Array.getElem?_eq_some_iff.1 HX.out).1).trans HX.out)
  have q0 : w1.cell? ⟨w.heap.size, 0, none⟩ = some (.string m.name) := cell_of_row _ _ 0 _ _ _ HX.out
  by_cases hd : m.name = definedB
  · have e2 := txt_t (l := [100, 101, 102, 105, 110, 101, 100]) hd
    have HF := Lib.hid (mi_def hd)
    clear h1 hd
    go_wp2
    go_ret
    exact ⟨ret_bool HF.out.symm, hB1⟩
  have e2 := txt_f (l := [100, 101, 102, 105, 110, 101, 100]) hd
  have q1 : w1.cell? ⟨w.heap.size, 1, none⟩ = some (.bool m.function) := cell_of_row _ _ 1 _ _ _ HX.out
  have q2 : w1.cell? ⟨w.heap.size, 2, none⟩ = some (.slice a2 m.params.length cap2) := cell_of_row _ _ 2 _ _ _ HX.out
  have q3 : w1.cell? ⟨w.heap.size, 3, none⟩ = some (.slice a3 m.body.length cap3) := cell_of_row _ _ 3 _ _ _ HX.out
  cases hf : m.function
  · have HM := Lib.hid (mi_no h1 hd hf)
    rw [hf] at q1
    clear h1 hd hf
    by_cases hz : m.params.length = 0
    · have hz1 : ((m.params.length : Int) == 0) = true := by rw [hz]; rfl
      rw [decide_eq_true hz, Bool.true_and] at HM
      clear hz
      go_wp2_with fail
      refine (HB.out _ hB1).mono ?_
      rintro e w2 ⟨rfl, hb2⟩
      go_wp2
      go_ret
      exact ⟨ret_bool HM.out.symm, hB1.trans (hb2.mono hB1.size)⟩
    · have hz1 : ((m.params.length : Int) == 0) = false := by simp; intro h; exact hz (by simp [h])
      rw [decide_eq_false hz, Bool.false_and] at HM
      clear hz
      go_wp2
      go_ret
      exact ⟨ret_bool HM.out.symm, hB1⟩
  · have HM := Lib.hid (mi_yes h1 hd hf)
    have HF := Lib.hid hf
    rw [hf] at q1
    clear h1 hd hf
    go_wp2_with fail
    refine (HP.out _ hB1).mono ?_
    rintro e w2 ⟨rfl, hb2⟩
    have hB2 := hB1.trans (hb2.mono hB1.size)
    cases hp : parsOk m.params
    · rw [hp, Bool.false_and, Bool.false_and] at HM
      clear hp q0 q1 q2 q3
      go_wp2
      go_ret
      exact ⟨ret_bool HM.out.symm, hB2⟩
    · rw [hp, Bool.true_and] at HM
      replace HX := Lib.hid ((hb2.block _ (Array.getElem?_eq_some_iff.1 HX.out).1).trans HX.out)
      clear hp q0 q1 q2 q3
      have q3 : w2.cell? ⟨w.heap.size, 3, none⟩ = some (.slice a3 m.body.length cap3) := cell_of_row _ _ 3 _ _ _ HX.out
      go_wp2_with fail
      refine (HB.out _ hB2).mono ?_
      rintro e w3 ⟨rfl, hb3⟩
      have hB3 := hB2.trans (hb3.mono hB2.size)
      cases hb : bodyOkI m.body
      · rw [hb, Bool.false_and] at HM
        clear hb q3
        go_wp2
        go_ret
        exact ⟨ret_bool HM.out.symm, hB3⟩
      · have hl := mi_big hb
        rw [hb, Bool.true_and] at HM
        replace HX := Lib.hid ((hb3.block _ (Array.getElem?_eq_some_iff.1 HX.out).1).trans HX.out)
        clear hb q3
        have q0 : w3.cell? ⟨w.heap.size, 0, none⟩ = some (.string m.name) := cell_of_row _ _ 0 _ _ _ HX.out
        have q1 : w3.cell? ⟨w.heap.size, 1, none⟩ = some (.bool m.function) := cell_of_row _ _ 1 _ _ _ HX.out
        have q2 : w3.cell? ⟨w.heap.size, 2, none⟩ = some (.slice a2 m.params.length cap2) := cell_of_row _ _ 2 _ _ _ HX.out
        have q3 : w3.cell? ⟨w.heap.size, 3, none⟩ = some (.slice a3 m.body.length cap3) := cell_of_row _ _ 3 _ _ _ HX.out
        have HS' := Lib.hid (fun W hW => HS.out W (by omega) hW)
        clear hl
        go_wp2_with fail
        refine (HS'.out _ hB3).mono ?_
        rintro e w4 ⟨rfl, hb4⟩
        go_wp2
        go_ret
        exact ⟨ret_bool HM.out.symm, hB3.trans (hb4.mono hB3.size)⟩

/-- Marks in what a macro by value leads to. -/
def MarkedC {α : Type} (S : Shape α) (cs : List Value) (d : α) (fp : List Nat) (lo : Nat) (r : Int) (w : World) (e : Ending) (w' : World) : Prop :=
  e = .returned (.int .i64 r) ∧ S.R w' cs d fp ∧ Own w' lo fp ∧ Kept fp w w'
set_option maxHeartbeats 4000000 in
set_option maxRecDepth 100000 in
theorem markMacro (cs : List Value) (x : DMacro) (fp : List Nat) (lo : Nat) (k : Int) (w : World) (h0 : 0 ≤ k) (h1 : k + cntVMacro x ≤ 2305843009213693952) (H : sMacro.R w cs x fp) (O : Own w lo fp) :
    Calls Try.prog 15 #[.agg cs.toArray, .int .i64 k] w (MarkedC sMacro cs (mkVMacro k x) fp lo (k + cntVMacro x) w) := by
  obtain ⟨h2, h3, fp2, fp3, rfl, k0, K2, K3, rfl⟩ := H
  unfold cntVMacro at h1 ⊢
  have K2' := K2
  have K3' := K3
  obtain ⟨a2, cap2, rfl, -⟩ := open_strs K2'
  obtain ⟨a3, cap3, rfl, -⟩ := open_rows K3'
  clear K2' K3'
  obtain ⟨O2, O3, hd⟩ := Own.split O
  have hn2 : ∀ b ∈ fp2, b < w.heap.size := (sSlice sStr).lt K2
  have hn3 : ∀ b ∈ fp3, b < w.heap.size := (sSlice sTok).lt K3
  have hb0 := alloc_below' w (.cells #[.string x.name, .bool x.function, .slice a2 x.params.length cap2, .slice a3 x.body.length cap3] 27)
  have HX := Lib.hid (heap_alloc_new w (.cells #[.string x.name, .bool x.function, .slice a2 x.params.length cap2, .slice a3 x.body.length cap3] 27))
  go_enter Try.func15, Try.ntmps15
  go_wp2_with fail
  refine (markStringS _ _ _ lo _ _ h0 (by omega) ((sSlice sStr).below K2 hb0) (O2.grow hb0)).mono ?_
  rintro e w1 ⟨rfl, R2, P2, hk2⟩
  have hx1 : w.heap.size ∉ fp2 := fun h => by have := hn2 _ h; omega
  have hX1 := (hk2.block _ (Array.getElem?_eq_some_iff.1 HX.out).1 hx1).trans HX.out
  have R3 := (sSlice sTok).kept ((sSlice sTok).below K3 hb0) (fun b h1 h2 => hd b h2 h1) hk2
  have P3 := (O3.grow hb0).kept (fun b h1 h2 => hd b h2 h1) hk2
  have q3 : w1.cell? ⟨w.heap.size, 3, none⟩ = some (.slice a3 x.body.length cap3) := cell_of_row _ _ 3 _ _ _ hX1
  clear K2 K3 O2 O3 HX hX1
  go_wp2_with fail
  refine (markTokenS _ _ _ lo _ _ (by omega) (by omega) R3 P3).mono ?_
  rintro e w2 ⟨rfl, R4, P4, hk3⟩
  have R5 := (sSlice sStr).kept R2 hd hk3
  have P5 := P2.kept hd hk3
  have hk : Kept (fp2 ++ fp3) w w2 := ((Kept.of_below hb0).trans (hk2.mono fun x hx => by simp [hx])).trans (hk3.mono fun x hx => by simp [hx])
  clear R2 R3 P2 P3 hk2 hk3 q3
  go_wp2
  go_ret
  exact ⟨ret_int (by omega), ⟨_, _, fp2, fp3, rfl, k0, R5, R4, rfl⟩, Own.app P5 P4 hd, hk⟩

set_option maxHeartbeats 4000000 in
set_option maxRecDepth 100000 in
theorem heldMacro (cs : List Value) (x : DMacro) (fp : List Nat) (k : Int) (w : World) (h0 : 0 ≤ k) (h1 : k + cntVMacro x ≤ 2305843009213693952) (H : sMacro.R w cs (mkVMacro k x) fp) :
    Calls Try.prog 16 #[.agg cs.toArray, .int .i64 k] w fun e w' => e = .returned (.int .i64 (k + cntVMacro x)) ∧ Below w.heap.size w w' := by
  obtain ⟨h2, h3, fp2, fp3, rfl, k0, K2, K3, rfl⟩ := H
  unfold cntVMacro at h1 ⊢
  have L2 : (marks mtext k x.params.length).length = x.params.length := marks_len _ _ _
  have hb0 := alloc_below' w (.cells #[.string x.name, .bool x.function, h2, h3] 27)
  have HX := Lib.hid (heap_alloc_new w (.cells #[.string x.name, .bool x.function, h2, h3] 27))
  have K2' : (sSlice sStr).R w [h2] (marks mtext k x.params.length) fp2 := K2
  have K3' : (sSlice sTok).R w [h3] (mkTokenS (k + (x.params.length : Int)) x.body) fp3 := K3
  clear K2 K3
  go_enter Try.func16, Try.ntmps16
  go_wp2_with fail
  refine (heldStringS _ _ _ _ _ h0 (by omega) ((sSlice sStr).below K2' hb0)).mono ?_
  rintro e w1 ⟨rfl, hb1⟩
  have hX1 := (hb1.block _ (Array.getElem?_eq_some_iff.1 HX.out).1).trans HX.out
  have hB1 := hb0.trans (hb1.mono hb0.size)
  have q3 : w1.cell? ⟨w.heap.size, 3, none⟩ = some h3 := cell_of_row _ _ 3 _ _ _ hX1
  have HC := Lib.hid (heldTokenS _ _ _ _ w1 (by omega) (by omega) ((sSlice sTok).below K3' hB1))
  clear hX1 HX K2' K3'
  go_wp2_with fail
  refine HC.out.mono ?_
  rintro e w2 ⟨rfl, hb2⟩
  go_wp2
  go_ret
  exact ⟨ret_int (by omega), hB1.trans (hb2.mono hB1.size)⟩

end Go.Proofs.Ytdnjpjiepnhhhaa

/- A region that draws its order, walked by an invariant over what is done; and one in which all only reads but a literal, an append of it, and the store of the result. Over any program. -/
namespace Go.Proofs.Ytdnjpjiepnhhhaa
open Go.RowKit

/-- Whatever comes up, the invariant holds. -/
theorem wp_region_inv {P : Program} {ops : Array Oper} {Q : Exit → Act → World → Prop} {id : Nat} {a : Act} {w : World} (hm : P.follows .mixedOrders = true) (hok : regionOk ops = true)
    (J : Array Bool → List Value → World → Prop)
    (hJ : J (Array.replicate ops.size false) (origs a (ops.toList.map (·.dst))) { w with drawn := w.drawn + 1 })
    (step : ∀ (i : Nat) (o : Oper), ops[i]? = some o → ∀ (L : Array Bool) (xs : List Value) (w' : World), L.size = ops.size → xs.length = ops.size → L.getD i false = false →
      (∀ e ∈ o.after, Region.binds .any e = true → L.getD e.on false = true) → J L xs w' →
      ∀ K : Act → World → Prop, (∀ v w'', J (L.setIfInBounds i true) (xs.set i v) w'' → K ((fill a (ops.toList.map (·.dst)) xs).put o.dst v) w'') → wpList P ops (Sw K) [o] (fill a (ops.toList.map (·.dst)) xs) w')
    (done : ∀ (L : Array Bool) (xs : List Value) (w' : World), xs.length = ops.size → (∀ i, i < ops.size → L.getD i false = true) → J L xs w' → Q .normal (fill a (ops.toList.map (·.dst)) xs) w') :
    (Code.region id ops true).wp P Q a w := by
  refine wp_region_any hm ?_
  have hd : apartDsts (ops.toList.map (·.dst)) = true := by unfold regionOk at hok; rw [Bool.and_eq_true] at hok; exact hok.1
  have hlist : ∀ (L : Array Bool), L.size = ops.size → Region.ready .any ops L = [] → ∀ i, i < ops.size → L.getD i false = true := by
    intro L hL hr i
    induction i using Nat.strongRecOn with
    | ind i ih =>
      intro hi
      cases hb : L.getD i false with
      | true => rfl
      | false =>
        exfalso
        have hm : i ∈ Region.ready .any ops L := by
          rw [mem_ready]
          exact ⟨getD_tf (by omega) hb, ops[i], Array.getElem?_eq_getElem hi, fun e he _ => by
            have hlt := regionOk_after hok (Array.getElem?_eq_getElem hi) e he
            exact ih e.on hlt (by omega)⟩
        rw [hr] at hm
        cases hm
  have main : ∀ (fuel : Nat) (L : Array Bool) (b : Act) (w' : World) (xs : List Value), fuel + cnt ops.size L = ops.size → L.size = ops.size → xs.length = ops.size → b = fill a (ops.toList.map (·.dst)) xs → J L xs w' → wpAny P .any ops Q fuel L b w' := by
    intro fuel
    induction fuel with
    | zero =>
      intro L b w' xs hf hs hx hb hI
      have hall : ∀ i, i < ops.size → L.getD i false = true := fun i hi => by
        cases hb : L.getD i false with
        | true => rfl
        | false => have := cnt_lt hi hb; omega
      refine ⟨?_, ?_⟩
      · cases hr : Region.ready .any ops L with
        | nil => rfl
        | cons i r =>
          have hi : i ∈ Region.ready .any ops L := by rw [hr]; simp
          rw [mem_ready] at hi
          obtain ⟨h0, o, ho, _⟩ := hi
          have := hall i (Array.getElem?_eq_some_iff.1 ho).1
          rw [getD_ft h0] at this
          cases this
      · rw [hb]; exact done L xs w' hx hall hI
    | succ fuel ih =>
      intro L b w' xs hf hs hx hb hI
      refine ⟨fun hr => ?_, fun i hi => ?_⟩
      · rw [hb]; exact done L xs w' hx (hlist L hs hr) hI
      · obtain ⟨h0, o, ho, hafter⟩ := mem_ready.1 hi
        have hlt := (Array.getElem?_eq_some_iff.1 ho).1
        refine sw_op ho ?_
        rw [hb]
        refine step i o ho L xs w' hs hx (getD_ft h0) hafter hI _ (fun v w'' h1 => ?_)
        have hds : (ops.toList.map (·.dst))[i]? = some o.dst := by simp [ho]
        rw [fill_put _ hd _ _ i _ _ (by simpa using hx) hds]
        have hset : cnt ops.size (L.setIfInBounds i true) = cnt ops.size L + 1 := cnt_set hlt hs h0
        exact ih _ _ _ (xs.set i v) (by omega) (by simpa using hs) (by simpa using hx) rfl h1
  refine main ops.size _ _ _ (origs a (ops.toList.map (·.dst))) ?_ (by simp) (by simp [origs]) (fill_self _ a).symm hJ
  have hz : ∀ i, (Array.replicate ops.size false).getD i false = false := by intro i; simp [Array.getD]
  have hc : cnt ops.size (Array.replicate ops.size false) = 0 := by
    unfold cnt
    rw [List.countP_eq_zero]
    intro i _; simp only [hz i]; simp
  rw [hc]; omega

/-- What is known while such a region runs. -/
structure AppJ (n ia ib ic : Nat) (vals : List (Option Value)) (va : Value) (og : List Value) (w0 w1 : World) (App Fin : Value → World → Prop) (L : Array Bool) (xs : List Value) (w : World) : Prop where
  con : ∀ i, i < n → i ≠ ia → i ≠ ib → i ≠ ic → L.getD i false = true → ∀ u, vals[i]? = some (some u) → xs[i]? = some u
  a : L.getD ia false = true → xs[ia]? = some va
  ab : L.getD ib false = true → L.getD ia false = true
  bc : L.getD ic false = true → L.getD ib false = true
  s0 : L.getD ia false = false → w = w0
  s1 : L.getD ia false = true → L.getD ib false = false → w = w1
  s2 : L.getD ib false = true → L.getD ic false = false → ∃ v, xs[ib]? = some v ∧ App v w
  s3 : L.getD ic false = true → ∃ v, xs[ib]? = some v ∧ Fin v w
  old : ∀ i, i < n → L.getD i false = false → xs[i]? = og[i]?
  fin : L.getD ic false = true → ∀ i, i < n → L.getD i false = true

/-- An operation whose guard does not hold. -/
theorem sw_skip {P : Program} {ops : Array Oper} {K : Act → World → Prop} {o : Oper} {a : Act} {w : World} (hw : Region.wanted o (yielded ops a.tmps) = false) (h : K (a.put o.dst undef) w) : wpList P ops (Sw K) [o] a w := by
  unfold wpList
  rw [if_neg (by simp [hw])]
  exact h
/-- An operation that only reads: what it finds, what it owes. -/
def ConOk (P : Program) (ops : Array Oper) (a : Act) (vals : List (Option Value)) (Base : World → Prop) (ia ib ic i : Nat) (o : Oper) : Prop :=
  ∀ (xs : List Value) (w' : World), xs.length = ops.size → xs[i]? = (origs a (ops.toList.map (·.dst)))[i]? → (∀ e ∈ o.after, Region.binds .any e = true → e.on ≠ ia → e.on ≠ ib → e.on ≠ ic → ∀ u, vals[e.on]? = some (some u) → xs[e.on]? = some u) → Base w' →
    ∀ K : Act → World → Prop, (∀ v, (∀ u, vals[i]? = some (some u) → v = u) → K ((fill a (ops.toList.map (·.dst)) xs).put o.dst v) w') → wpList P ops (Sw K) [o] (fill a (ops.toList.map (·.dst)) xs) w'
def ConsFrom (P : Program) (ops : Array Oper) (a : Act) (vals : List (Option Value)) (Base : World → Prop) (ia ib ic : Nat) : Nat → List Oper → Prop
  | _, [] => True
  | k, o :: os => (k = ia ∨ k = ib ∨ k = ic ∨ ConOk P ops a vals Base ia ib ic k o) ∧ ConsFrom P ops a vals Base ia ib ic (k + 1) os
theorem cons_of {P : Program} {ops : Array Oper} {a : Act} {vals : List (Option Value)} {Base : World → Prop} {ia ib ic : Nat} : ∀ (l : List Oper) (k : Nat), (∀ j, l[j]? = ops[k + j]?) → ConsFrom P ops a vals Base ia ib ic k l → ∀ i o, k ≤ i → ops[i]? = some o → i = ia ∨ i = ib ∨ i = ic ∨ ConOk P ops a vals Base ia ib ic i o := by
  intro l
  induction l with
  | nil =>
    intro k h _ i o hk hi
    have := h (i - k)
    rw [show k + (i - k) = i by omega, hi] at this
    simp at this
  | cons x l ih =>
    intro k h hs i o hk hi
    by_cases e : i = k
    · subst e
      have h0 := h 0
      rw [Nat.add_zero, hi] at h0
      simp only [List.getElem?_cons_zero, Option.some.injEq] at h0
      subst h0
      exact hs.1
    · exact ih (k + 1) (fun j => by have := h (j + 1); rw [List.getElem?_cons_succ] at this; rw [this]; congr 1; omega) hs.2 i o (by omega) hi
theorem cons_all {P : Program} {ops : Array Oper} {a : Act} {vals : List (Option Value)} {Base : World → Prop} {ia ib ic : Nat} (h : ConsFrom P ops a vals Base ia ib ic 0 ops.toList) :
    ∀ i o, ops[i]? = some o → i = ia ∨ i = ib ∨ i = ic ∨ ConOk P ops a vals Base ia ib ic i o := fun i o hi => cons_of ops.toList 0 (fun j => by simp) h i o (Nat.zero_le _) hi

theorem wp_region_app {P : Program} {ops : Array Oper} {Q : Exit → Act → World → Prop} {id : Nat} {a : Act} {w : World} (hm : P.follows .mixedOrders = true) (hok : regionOk ops = true)
    (ia ib ic : Nat) (hab : ((ops[ib]?).map fun o => o.after.any fun e => Region.binds .any e && e.on == ia) = some true) (hcov : ((ops[ic]?).map fun o => covers o ic ops.size) = some true)
    (hne : ia ≠ ib ∧ ib ≠ ic ∧ ia ≠ ic) (hlt : ia < ops.size ∧ ib < ops.size ∧ ic < ops.size) {oA oB oC : Oper} (hA : ops[ia]? = some oA) (hB : ops[ib]? = some oB) (hC : ops[ic]? = some oC)
    (vals : List (Option Value)) (va : Value) (w1 : World) (App Fin : Value → World → Prop) (Base : World → Prop)
    (hb0 : Base { w with drawn := w.drawn + 1 }) (hb1 : Base w1) (hb2 : ∀ v w2, App v w2 → Base w2)
    (con : ∀ (i : Nat) (o : Oper), ops[i]? = some o → i = ia ∨ i = ib ∨ i = ic ∨ ConOk P ops a vals Base ia ib ic i o)
    (stA : ∀ xs : List Value, xs.length = ops.size → (∀ e ∈ oA.after, Region.binds .any e = true → e.on ≠ ia → e.on ≠ ib → e.on ≠ ic → ∀ u, vals[e.on]? = some (some u) → xs[e.on]? = some u) →
      ∀ K : Act → World → Prop, K ((fill a (ops.toList.map (·.dst)) xs).put oA.dst va) w1 → wpList P ops (Sw K) [oA] (fill a (ops.toList.map (·.dst)) xs) { w with drawn := w.drawn + 1 })
    (stB : ∀ xs : List Value, xs.length = ops.size → (∀ e ∈ oB.after, Region.binds .any e = true → e.on ≠ ia → e.on ≠ ib → e.on ≠ ic → ∀ u, vals[e.on]? = some (some u) → xs[e.on]? = some u) → xs[ia]? = some va →
      ∀ K : Act → World → Prop, (∀ v w2, App v w2 → K ((fill a (ops.toList.map (·.dst)) xs).put oB.dst v) w2) → wpList P ops (Sw K) [oB] (fill a (ops.toList.map (·.dst)) xs) w1)
    (stC : ∀ (xs : List Value) (v : Value) (w2 : World), xs.length = ops.size → (∀ e ∈ oC.after, Region.binds .any e = true → e.on ≠ ia → e.on ≠ ib → e.on ≠ ic → ∀ u, vals[e.on]? = some (some u) → xs[e.on]? = some u) → xs[ib]? = some v → App v w2 →
      ∀ K : Act → World → Prop, (∀ u w3, Fin v w3 → K ((fill a (ops.toList.map (·.dst)) xs).put oC.dst u) w3) → wpList P ops (Sw K) [oC] (fill a (ops.toList.map (·.dst)) xs) w2)
    (done : ∀ (xs : List Value) (v : Value) (w' : World), xs.length = ops.size → (∀ i, i < ops.size → i ≠ ia → i ≠ ib → i ≠ ic → ∀ u, vals[i]? = some (some u) → xs[i]? = some u) → xs[ia]? = some va → xs[ib]? = some v → Fin v w' → Q .normal (fill a (ops.toList.map (·.dst)) xs) w') :
    (Code.region id ops true).wp P Q a w := by
  obtain ⟨n1, n2, n3⟩ := hne
  obtain ⟨l1, l2, l3⟩ := hlt
  refine wp_region_inv hm hok (AppJ ops.size ia ib ic vals va (origs a (ops.toList.map (·.dst))) { w with drawn := w.drawn + 1 } w1 App Fin) ?_ ?_ ?_
  · have hz : ∀ i, (Array.replicate ops.size false).getD i false = false := by intro i; simp [Array.getD]
    have hf : ∀ i, (Array.replicate ops.size false).getD i false = true → False := fun i h => by rw [hz] at h; cases h
    exact ⟨fun i _ _ _ _ h => (hf i h).elim, fun h => (hf _ h).elim, fun h => (hf _ h).elim, fun h => (hf _ h).elim, fun _ => rfl, fun h _ => (hf _ h).elim, fun h _ => (hf _ h).elim, fun h => (hf _ h).elim, fun _ _ _ => rfl, fun h => (hf _ h).elim⟩
  · intro i o ho L xs w' hs hx hL hafter hJ K hK
    have hi := (Array.getElem?_eq_some_iff.1 ho).1
    have hdep : ∀ e ∈ o.after, Region.binds .any e = true → e.on ≠ ia → e.on ≠ ib → e.on ≠ ic → ∀ u, vals[e.on]? = some (some u) → xs[e.on]? = some u := fun e he hb h1 h2 h3 => by
      have hdone := hafter e he hb
      have hsz : e.on < ops.size := by
        have := regionOk_after hok ho e he
        omega
      exact hJ.con e.on hsz h1 h2 h3 hdone
    have hp : ∀ j, (L.setIfInBounds i true).getD j false = (decide (j = i) || L.getD j false) := fun j => getD_put (by rw [hs]; exact hi)
    have hxs : ∀ (v : Value) (j : Nat), j ≠ i → (xs.set i v)[j]? = xs[j]? := fun v j hj => List.getElem?_set_ne (fun h => hj h.symm)
    have hxi : ∀ (v : Value), (xs.set i v)[i]? = some v := fun v => List.getElem?_set_self (by omega)
    have hold : ∀ (v : Value) (j : Nat), j < ops.size → (L.setIfInBounds i true).getD j false = false → (xs.set i v)[j]? = (origs a (ops.toList.map (·.dst)))[j]? := fun v j hj hf => by
      rw [hp, Bool.or_eq_false_iff, decide_eq_false_iff_not] at hf
      rw [hxs v j hf.1]
      exact hJ.old j hj hf.2
    by_cases ea : i = ia
    · subst ea
      have hA' := hA
      have hbf : L.getD ib false = false := by
        cases h : L.getD ib false
        · rfl
        · rw [hJ.ab h] at hL; cases hL
      have hcf : L.getD ic false = false := by
        cases h : L.getD ic false
        · rfl
        · rw [hJ.bc h] at hbf; cases hbf
      obtain rfl := hJ.s0 hL
      rw [hA] at ho; cases ho
      refine stA xs hx hdep K (hK va w1 ⟨?_, fun _ => hxi va, fun _ => by rw [hp]; simp, fun h => ?_, fun h => ?_, fun _ _ => rfl, fun h => ?_, fun h => ?_, hold va, fun h => ?_⟩)
      · intro j hj h1 h2 h3 hd u hu
        rw [hp, Bool.or_eq_true, decide_eq_true_eq] at hd
        rw [hxs _ _ h1]
        exact hJ.con j hj h1 h2 h3 (hd.resolve_left h1) u hu
      · rw [hp, hcf] at h; simp at h; exact absurd h.symm n3
      · rw [hp] at h; simp at h
      · rw [hp, hbf] at h; simp at h; exact absurd h.symm n1
      · rw [hp, hcf] at h; simp at h; exact absurd h.symm n3
      · rw [hp, hcf] at h; simp at h; exact absurd h.symm n3
    · by_cases eb : i = ib
      · subst eb
        obtain ⟨e, he, hbd, hon⟩ : ∃ e ∈ o.after, Region.binds .any e = true ∧ e.on = ia := by
          rw [ho, Option.map_some, Option.some.injEq, Array.any_eq_true'] at hab
          obtain ⟨e, h1, h2⟩ := hab
          rw [Bool.and_eq_true, beq_iff_eq] at h2
          exact ⟨e, h1, h2.1, h2.2⟩
        have hat : L.getD ia false = true := hon ▸ hafter e he hbd
        have hcf : L.getD ic false = false := by
          cases h : L.getD ic false
          · rfl
          · rw [hJ.bc h] at hL; cases hL
        obtain rfl := hJ.s1 hat hL
        rw [hB] at ho; cases ho
        refine stB xs hx hdep (hJ.a hat) K (fun v w2 hApp => hK v w2 ⟨?_, fun _ => ?_, fun _ => ?_, fun h => ?_, fun h => ?_, fun _ h => ?_, fun _ _ => ⟨v, hxi v, hApp⟩, fun h => ?_, hold v, fun h => ?_⟩)
        · intro j hj h1 h2 h3 hd u hu
          rw [hp, Bool.or_eq_true, decide_eq_true_eq] at hd
          rw [hxs _ _ h2]
          exact hJ.con j hj h1 h2 h3 (hd.resolve_left h2) u hu
        · rw [hxs _ _ n1]; exact hJ.a hat
        · rw [hp, hat]; simp
        · rw [hp, hcf] at h; simp at h; exact absurd h.symm n2
        · rw [hp, hat] at h; simp at h
        · rw [hp] at h; simp at h
        · rw [hp, hcf] at h; simp at h; exact absurd h.symm n2
        · rw [hp, hcf] at h; simp at h; exact absurd h.symm n2
      · by_cases ec : i = ic
        · subst ec
          have hall : ∀ j, j < ops.size → j ≠ i → L.getD j false = true := fun j hj hji => by
            have hc := hcov
            rw [ho, Option.map_some, Option.some.injEq] at hc
            unfold covers at hc
            rw [List.all_eq_true] at hc
            have := hc j (by simpa using hj)
            rw [Bool.or_eq_true, beq_iff_eq] at this
            rcases this with h | h
            · exact absurd h hji
            · rw [Array.any_eq_true'] at h
              obtain ⟨d, hd1, hd2⟩ := h
              rw [Bool.and_eq_true, beq_iff_eq] at hd2
              rw [← hd2.2]; exact hafter d hd1 hd2.1
          have hbt : L.getD ib false = true := hall ib l2 n2
          have hat := hJ.ab hbt
          obtain ⟨v, hv, hApp⟩ := hJ.s2 hbt hL
          rw [hC] at ho; cases ho
          refine stC xs v w' hx hdep hv hApp K (fun u w3 hF => hK u w3 ⟨?_, fun _ => ?_, fun _ => ?_, fun _ => ?_, fun h => ?_, fun _ h => ?_, fun _ h => ?_, fun _ => ⟨v, ?_, hF⟩, hold u, fun _ j hj => ?_⟩)
          · intro j hj h1 h2 h3 hd u hu
            rw [hp, Bool.or_eq_true, decide_eq_true_eq] at hd
            rw [hxs _ _ h3]
            exact hJ.con j hj h1 h2 h3 (hd.resolve_left h3) u hu
          · rw [hxs _ _ n3]; exact hJ.a hat
          · rw [hp, hat]; simp
          · rw [hp, hbt]; simp
          · rw [hp, hat] at h; simp at h
          · rw [hp, hbt] at h; simp at h
          · rw [hp] at h; simp at h
          · rw [hxs _ _ n2]; exact hv
          · rw [hp, Bool.or_eq_true, decide_eq_true_eq]
            by_cases e : j = i
            · exact .inl e
            · exact .inr (hall j hj e)
        · have hbase : Base w' := by
            cases hA : L.getD ia false
            · rw [hJ.s0 hA]; exact hb0
            · cases hB : L.getD ib false
              · rw [hJ.s1 hA hB]; exact hb1
              · cases hC : L.getD ic false
                · obtain ⟨v, _, h⟩ := hJ.s2 hB hC; exact hb2 v _ h
                · rw [hJ.fin hC i hi] at hL; cases hL
          have hpa : (L.setIfInBounds i true).getD ia false = L.getD ia false := by rw [hp, decide_eq_false (fun h => ea h.symm), Bool.false_or]
          have hpb : (L.setIfInBounds i true).getD ib false = L.getD ib false := by rw [hp, decide_eq_false (fun h => eb h.symm), Bool.false_or]
          have hpc : (L.setIfInBounds i true).getD ic false = L.getD ic false := by rw [hp, decide_eq_false (fun h => ec h.symm), Bool.false_or]
          refine ((((con i o ho).resolve_left ea).resolve_left eb).resolve_left ec) xs w' hx (hJ.old i hi hL) hdep hbase K (fun v hv => hK v w' ⟨?_, fun h => ?_, fun h => ?_, fun h => ?_, fun h => ?_, fun h1 h2 => ?_, fun h1 h2 => ?_, fun h => ?_, hold v, fun h => ?_⟩)
          · intro j hj h1 h2 h3 hd u hu
            by_cases ej : j = i
            · subst ej; rw [hxi, hv u hu]
            · rw [hp, Bool.or_eq_true, decide_eq_true_eq] at hd
              rw [hxs _ _ ej]
              exact hJ.con j hj h1 h2 h3 (hd.resolve_left ej) u hu
          · rw [hpa] at h; rw [hxs _ _ (fun h => ea h.symm)]; exact hJ.a h
          · rw [hpb] at h; rw [hpa]; exact hJ.ab h
          · rw [hpc] at h; rw [hpb]; exact hJ.bc h
          · rw [hpa] at h; exact hJ.s0 h
          · rw [hpa] at h1; rw [hpb] at h2; exact hJ.s1 h1 h2
          · rw [hpb] at h1; rw [hpc] at h2; rw [hxs _ _ (fun h => eb h.symm)]; exact hJ.s2 h1 h2
          · rw [hpc] at h; rw [hxs _ _ (fun h => eb h.symm)]; exact hJ.s3 h
          · rw [hpc] at h; rw [hJ.fin h i hi] at hL; cases hL
  · intro L xs w' hx hall hJ
    obtain ⟨v, hv, hF⟩ := hJ.s3 (hall ic l3)
    exact done xs v w' hx (fun i hi h1 h2 h3 => hJ.con i hi h1 h2 h3 (hall i hi)) (hJ.a (hall ia l1)) hv hF

end Go.Proofs.Ytdnjpjiepnhhhaa

/- MacroOf of the model. (Made by gen_mac10.py.) -/
namespace Go.Proofs.Ytdnjpjiepnhhhaa
open Go.RowKit

/-! ### The model's theorem, way by way -/
theorem of_no {l : List Tok} (h : toksOk l = false) : macOf l = (zeroMac, false) := by unfold macOf; rw [dif_neg (fun x => by rw [h] at x; exact absurd x.1 (by simp))]
theorem of_nil {l : List Tok} (h : ¬ 0 < l.length) : macOf l = (zeroMac, false) := by unfold macOf; rw [dif_neg (fun x => h x.2)]
theorem of_plain {l : List Tok} (h : toksOk l = true) (h0 : 0 < l.length) (ho : opens2 l = false) : macOf l = macChk ⟨l[0].text, false, [], bodyFrom l 1⟩ := by unfold macOf; rw [dif_pos ⟨h, h0⟩, if_neg (by simp [ho])]
theorem of_pno {l : List Tok} (h : toksOk l = true) (h0 : 0 < l.length) (ho : opens2 l = true) (hp : parsOf l = none) : macOf l = (zeroMac, false) := by unfold macOf; rw [dif_pos ⟨h, h0⟩, if_pos ho, hp]
theorem of_pars {l : List Tok} (h : toksOk l = true) (h0 : 0 < l.length) (ho : opens2 l = true) {p : List ByteArray × Nat} (hp : parsOf l = some p) : macOf l = macChk ⟨l[0].text, true, p.1, bodyFrom l p.2⟩ := by unfold macOf; rw [dif_pos ⟨h, h0⟩, if_pos ho, hp]
theorem chk_no {m : DMacro} (h : macOk m = false) : macChk m = (zeroMac, false) := by unfold macChk; rw [if_neg (by simp [h])]
theorem chk_yes {m : DMacro} (h : macOk m = true) : macChk m = (m, true) := by unfold macChk; rw [if_pos h]
theorem pat_le (l : List Tok) (k : Nat) : ∀ p, parsAt l k = some p → p.2 ≤ l.length := by
  induction k using parsAt.induct (l := l) with
  | case1 k h h1 h2 => intro p hp; rw [pa_close h h1 h2] at hp; cases hp; show k + 2 ≤ _; omega
  | case2 k h h1 h2 h3 ih =>
    intro p hp
    rw [pa_comma h h1 h2 h3, Option.map_eq_some_iff] at hp
    obtain ⟨q, hq, rfl⟩ := hp
    exact ih q hq
  | case3 k h h1 h2 h3 => intro p hp; rw [pa_other h h1 h2 h3] at hp; cases hp
  | case4 k h h1 => intro p hp; rw [pa_kind h h1] at hp; cases hp
  | case5 k h => intro p hp; rw [pa_end h] at hp; cases hp
theorem pars_le {l : List Tok} {p : List ByteArray × Nat} (h : parsOf l = some p) : p.2 ≤ l.length := by
  unfold parsOf at h
  split at h
  · split at h
    · cases h; show 3 ≤ _; omega
    · exact pat_le l 2 p h
  · cases h
theorem op_short {l : List Tok} (h : ¬ 1 < l.length) : opens2 l = false := by unfold opens2; rw [dif_neg h]
theorem op_other {l : List Tok} (h : 1 < l.length) (h1 : l[1].text ≠ openB) : opens2 l = false := by unfold opens2; rw [dif_pos h, decide_eq_false h1]; rfl
theorem op_spaced {l : List Tok} (h : 1 < l.length) (h1 : l[1].spaced = true) : opens2 l = false := by unfold opens2; rw [dif_pos h, h1]; simp
theorem op_yes {l : List Tok} (h : 1 < l.length) (h1 : l[1].text = openB) (h2 : l[1].spaced = false) : opens2 l = true := by unfold opens2; rw [dif_pos h, decide_eq_true h1, h2]; rfl
theorem body_take {l : List Tok} {n k : Nat} (h1 : n ≤ k) (h2 : k < l.length) : (bodyFrom l n).take (k + 1 - n) = (bodyFrom l n).take (k - n) ++ [⟨l[k].kind, l[k].text, l[k].spaced && decide (n < k), []⟩] := by
  have hl : (bodyFrom l n).length = l.length - n := bodyFrom_len l n
  have hk : k - n < (bodyFrom l n).length := by omega
  rw [show k + 1 - n = k - n + 1 by omega, List.take_succ_eq_append_getElem hk, bodyFrom_get]
  have e : n + (k - n) = k := by omega
  simp only [e]
  have e2 : decide (0 < k - n) = decide (n < k) := decide_eq_decide.2 (by omega)
  rw [e2]

theorem results_cell2 {P : Program} {fn : Func} {p u : Tmp} {ty : TypeId} (h : fn.results = #[.cell p ty, .tmp u]) (tmps : Array Value) (w : World) (g : Nat) (t : TypeId) (cs : Array Value) (fr : Nat × Nat) (d : TypeDesc)
    (hp : tmps.getD p undef = .pointer (some ⟨g, 0, none⟩)) (hg : w.heap[g]? = some (.cells cs t fr))
    (hu : P.underlying ty = some d) (hd : (match d with | .struct _ | .array _ _ => true | _ => false) = true) (hi : (P.info? ty).map (·.size) = some cs.size) :
    (results fn tmps).run P w = .ok (.tuple #[.agg cs, tmps.getD u undef]) w := by
  have hp' : tmps[p]?.getD undef = .pointer (some ⟨g, 0, none⟩) := by simpa using hp
  rw [results_cell_tmp h]
  simp [hp', asAddr, run_loadVar_row w g t ty cs fr d hg hu hd hi, Result.andThen]

/-- A macro that is read out of tokens. -/
def MOf (l : List Tok) (w : World) (e : Ending) (w' : World) : Prop :=
  ∃ (cs : List Value) (fp : List Nat), e = .returned (.tuple #[.agg cs.toArray, .bool (macOf l).2]) ∧ sMacro.R w' cs (macOf l).1 fp ∧ Own w' w.heap.size fp ∧ Below w.heap.size w w'
theorem mof_no {l : List Tok} {w w' : World} (h : macOf l = (zeroMac, false)) (hb : Below w.heap.size w w') : MOf l w (.returned (.tuple #[.agg #[.string ⟨#[]⟩, .bool false, .slice none 0 0, .slice none 0 0], .bool false])) w' :=
  ⟨[.string ⟨#[]⟩, .bool false, .slice none 0 0, .slice none 0 0], [], by rw [h], by rw [h]; exact ⟨_, _, [], [], rfl, by show (0 : Nat) ≤ _; simp [maxLen], slice_empty sStr _ _ _ (by simp), slice_empty sTok _ _ _ (by simp), rfl⟩, Own.nil _ _, hb⟩
theorem mof_yes {l : List Tok} {m : DMacro} {w w' : World} {cs : List Value} {fp : List Nat} (h : macOf l = (m, true)) (hR : sMacro.R w' cs m fp) (ho : Own w' w.heap.size fp) (hb : Below w.heap.size w w') : MOf l w (.returned (.tuple #[.agg cs.toArray, .bool true])) w' :=
  ⟨cs, fp, by rw [h], by rw [h]; exact hR, ho, hb⟩
theorem mbox {w : World} {g : Nat} {arr : Array Value} {ty : TypeId} (h : w.heap[g]? = some (.cells arr ty (0, 0))) {w' : World} (hb : Below w.heap.size w w') : w'.heap[g]? = some (.cells arr ty (0, 0)) :=
  (hb.block g (Array.getElem?_eq_some_iff.1 h).1).trans h
theorem mlt {w : World} {g : Nat} {o : Obj} (h : w.heap[g]? = some o) : g < w.heap.size := (Array.getElem?_eq_some_iff.1 h).1
/-- Rows whose elements have nothing behind them: the blocks that a row's slice reads are the row's. -/
theorem rowE_own {α : Type} {S : Shape α} {base : Nat} {e : TypeId} {v : Value} {L : List (Elem α)} {w : World} (h : RowE S base e v L w) (hf : ∀ x ∈ L, x.fp = []) : ∃ fp, (sSlice S).R w [v] (L.map (·.d)) fp ∧ Own w base fp := by
  obtain ⟨fp, h1, _, h3⟩ := slice_of_row h.row fun x hx => ⟨h.len x hx, h.el x hx⟩
  have e0 : L.flatMap (·.fp) = [] := by rw [List.flatMap_eq_nil_iff]; exact hf
  rw [e0] at h3
  exact ⟨fp, h1, h3 (Own.nil _ _) (by simp)⟩

set_option maxHeartbeats 32000000 in
set_option maxRecDepth 100000 in
theorem spec_MacroOf (v : Value) (l : List Tok) (fp : List Nat) (w : World) (hl : l.length ≤ 1048576) (hx : ∀ k, (hk : k < l.length) → l[k].hidden.length ≤ 2000000) (H : (sSlice sTok).R w [v] l fp) :
    Calls Try.prog 9 #[v] w (MOf l w) := by
  have hz0 := alloc_below' w (.cells #[.string ⟨#[]⟩, .bool false, .slice none 0 0, .slice none 0 0] 27)
  have HZ := Lib.hid (heap_alloc_new w (.cells #[.string ⟨#[]⟩, .bool false, .slice none 0 0, .slice none 0 0] 27))
  have HCP := Lib.hid (spec_l1OwnTokenList v l fp _ hl hx ((sSlice sTok).below H hz0))
  clear H hx
  go_enter Try.func9, Try.ntmps9
  go_wp2_with fail
  refine HCP.out.mono ?_
  rintro e w1 ⟨v1, fp1, rfl, HL, hb1⟩
  have hB1 := hz0.trans (hb1.mono hz0.size)
  replace HZ := Lib.hid (mbox HZ.out hb1)
  clear hb1 hz0 HCP
  have HV := Lib.hid (spec_TokensValid v1 l fp1 w1 HL)
  obtain ⟨a, cap, rfl, hc, hm, hrow⟩ := open_rows HL
  unfold maxLen at hm
  go_wp2_with fail
  refine HV.out.mono ?_
  rintro e w2 ⟨rfl, hb2⟩
  have hB2 := hB1.trans (hb2.mono hB1.size)
  replace HZ := Lib.hid (mbox HZ.out hb2)
  have HLL := Lib.hid ((sSlice sTok).below HL hb2)
  clear HL HV
  cases hv : toksOk l
  · have HF := Lib.hid (of_no hv)
    clear hv
    have z0 : w2.cell? ⟨w.heap.size, 0, none⟩ = some (.string ⟨#[]⟩) := cell_of_row _ _ 0 _ _ _ HZ.out
    have zf0 : w2.frozen? ⟨w.heap.size, 0, none⟩ = false := frozen_of_row _ _ 0 _ _ HZ.out
    have z1 : w2.cell? ⟨w.heap.size, 1, none⟩ = some (.bool false) := cell_of_row _ _ 1 _ _ _ HZ.out
    have zf1 : w2.frozen? ⟨w.heap.size, 1, none⟩ = false := frozen_of_row _ _ 1 _ _ HZ.out
    have z2 : w2.cell? ⟨w.heap.size, 2, none⟩ = some (.slice none 0 0) := cell_of_row _ _ 2 _ _ _ HZ.out
    have zf2 : w2.frozen? ⟨w.heap.size, 2, none⟩ = false := frozen_of_row _ _ 2 _ _ HZ.out
    have z3 : w2.cell? ⟨w.heap.size, 3, none⟩ = some (.slice none 0 0) := cell_of_row _ _ 3 _ _ _ HZ.out
    have zf3 : w2.frozen? ⟨w.heap.size, 3, none⟩ = false := frozen_of_row _ _ 3 _ _ HZ.out
    have HS := Lib.hid (blk_set (blk_set (blk_set (blk_set HZ.out 0 (.string ⟨#[]⟩)) 1 (.bool false)) 2 (.slice none 0 0)) 3 (.slice none 0 0))
    have HBF := Lib.hid ((((hB2.setCell (p := ⟨w.heap.size, 0, none⟩) (Nat.le_refl _) (.string ⟨#[]⟩)).setCell (p := ⟨w.heap.size, 1, none⟩) (Nat.le_refl _) (.bool false)).setCell (p := ⟨w.heap.size, 2, none⟩) (Nat.le_refl _) (.slice none 0 0)).setCell (p := ⟨w.heap.size, 3, none⟩) (Nat.le_refl _) (.slice none 0 0))
    go_wp2
    refine bodyPost_ret (results_cell2 rfl _ _ w.heap.size _ _ _ _ rfl HS.out Try.underlying27 rfl (by kernel_rfl)) rfl ?_
    exact mof_no HF.out HBF.out
  by_cases h0 : 0 < l.length
  rotate_left
  · have HF := Lib.hid (of_nil h0)
    have hz : l.length = 0 := by omega
    have hz1 : ((l.length : Int) == 0) = true := by simp [List.length_eq_zero_iff.1 hz]
    clear hv
    have z0 : w2.cell? ⟨w.heap.size, 0, none⟩ = some (.string ⟨#[]⟩) := cell_of_row _ _ 0 _ _ _ HZ.out
    have zf0 : w2.frozen? ⟨w.heap.size, 0, none⟩ = false := frozen_of_row _ _ 0 _ _ HZ.out
    have z1 : w2.cell? ⟨w.heap.size, 1, none⟩ = some (.bool false) := cell_of_row _ _ 1 _ _ _ HZ.out
    have zf1 : w2.frozen? ⟨w.heap.size, 1, none⟩ = false := frozen_of_row _ _ 1 _ _ HZ.out
    have z2 : w2.cell? ⟨w.heap.size, 2, none⟩ = some (.slice none 0 0) := cell_of_row _ _ 2 _ _ _ HZ.out
    have zf2 : w2.frozen? ⟨w.heap.size, 2, none⟩ = false := frozen_of_row _ _ 2 _ _ HZ.out
    have z3 : w2.cell? ⟨w.heap.size, 3, none⟩ = some (.slice none 0 0) := cell_of_row _ _ 3 _ _ _ HZ.out
    have zf3 : w2.frozen? ⟨w.heap.size, 3, none⟩ = false := frozen_of_row _ _ 3 _ _ HZ.out
    have HS := Lib.hid (blk_set (blk_set (blk_set (blk_set HZ.out 0 (.string ⟨#[]⟩)) 1 (.bool false)) 2 (.slice none 0 0)) 3 (.slice none 0 0))
    have HBF := Lib.hid ((((hB2.setCell (p := ⟨w.heap.size, 0, none⟩) (Nat.le_refl _) (.string ⟨#[]⟩)).setCell (p := ⟨w.heap.size, 1, none⟩) (Nat.le_refl _) (.bool false)).setCell (p := ⟨w.heap.size, 2, none⟩) (Nat.le_refl _) (.slice none 0 0)).setCell (p := ⟨w.heap.size, 3, none⟩) (Nat.le_refl _) (.slice none 0 0))
    go_wp2
    refine bodyPost_ret (results_cell2 rfl _ _ w.heap.size _ _ _ _ rfl HS.out Try.underlying27 rfl (by kernel_rfl)) rfl ?_
    exact mof_no HF.out HBF.out
  have hl60 := (toksOk_facts hv).1
  have hz1 : ((l.length : Int) == 0) = false := by simp; intro h; rw [h] at h0; exact absurd h0 (by simp)
  have hz2 : (0 : Int) < (l.length : Int) := by omega
  obtain ⟨b1, off1, fps1, rfl, hb1w, -, he1⟩ := hrow h0
  obtain ⟨nm, HNM⟩ : ∃ s : ByteArray, Hid (s = (l[0]'h0).text) := ⟨_, rfl⟩
  have HEL : Hid (∀ i, (hi : i < l.length) → ∃ hh, ElemAt w2 b1 off1 4 i [.int .i64 l[i].kind, .string l[i].text, .bool l[i].spaced, hh] ∧ okInt l[i].kind ∧ okStr l[i].text) := fun i hi => by
    obtain ⟨es, hE, hR⟩ := he1 i hi
    obtain ⟨hh, rfl, k1, k2, -⟩ := hR
    exact ⟨hh, hE.frame (hb2.block b1 hb1w), k1, k2⟩
  have hb1s : b1 < w2.heap.size := Nat.lt_of_lt_of_le hb1w hb2.size
  have hb1l : w1.heap.size ≤ w2.heap.size := hb2.size
  have okn : okStr nm := by rw [HNM.out]; obtain ⟨_, _, _, h⟩ := HEL.out 0 h0; exact h
  clear hrow he1 hb2
  have c01 : w2.cell? ⟨b1, off1 + 1, none⟩ = some (.string nm) := by
    rw [HNM.out]
    obtain ⟨hh, hE, _, _⟩ := HEL.out 0 h0
    have := elem_cell (i := 0) (j := 1) hE (by decide) rfl
    simpa using this
  have hbx := alloc_below' w2 (.cells #[.string nm, .bool false, .slice none 0 0, .slice none 0 0] 27)
  have HMX := Lib.hid (heap_alloc_new w2 (.cells #[.string nm, .bool false, .slice none 0 0, .slice none 0 0] 27))
  have hs2 : (w2.alloc (.cells #[.string nm, .bool false, .slice none 0 0, .slice none 0 0] 27)).heap.size = w2.heap.size + 1 := Array.size_push _
  have HS2 := Lib.hid hs2
  have hBX := hB2.trans (hbx.mono hB2.size)
  have HZX := Lib.hid (mbox HZ.out hbx)
  have hg0 := mlt HZ.out
  have HLX := Lib.hid ((sSlice sTok).below HLL.out hbx)
  have HVD := Lib.hid hv
  have HX1 : 1 < l.length → ((w2.alloc (.cells #[.string nm, .bool false, .slice none 0 0, .slice none 0 0] 27)).cell? ⟨b1, off1 + 4 + 1, none⟩ = some (.string (l[1]?.getD (⟨0, ⟨#[]⟩, false, []⟩ : Tok)).text) ∧ (w2.alloc (.cells #[.string nm, .bool false, .slice none 0 0, .slice none 0 0] 27)).cell? ⟨b1, off1 + 4 + 2, none⟩ = some (.bool (l[1]?.getD (⟨0, ⟨#[]⟩, false, []⟩ : Tok)).spaced)) := fun h1 => by
    obtain ⟨hh, hE, _, _⟩ := HEL.out 1 h1
    have hE' := hE.frame (hbx.block b1 hb1s)
    rw [List.getElem?_eq_getElem h1]
    exact ⟨by have := elem_cell (i := 1) (j := 1) hE' (by decide) rfl; simpa using this, by have := elem_cell (i := 1) (j := 2) hE' (by decide) rfl; simpa using this⟩
  replace HX1 := Lib.hid HX1
  clear hv hs2
  go_upto_region 6 with fail
  go_cut [41] from 25 to 41 (fun c wx => c = .bool (opens2 l) ∧ wx = (w2.alloc (.cells #[.string nm, .bool false, .slice none 0 0, .slice none 0 0] 27)))
  case first =>
    by_cases h1 : 1 < l.length
    · have h11 : (1 : Int) < (l.length : Int) := by omega
      obtain ⟨c11, c12⟩ := HX1.out h1
      rw [List.getElem?_eq_getElem h1] at c11 c12
      simp only [Option.getD_some] at c11 c12
      by_cases h2 : l[1].text = openB
      · have e2 := txt_t (l := [40]) h2
        cases h3 : l[1].spaced
        · rw [h3] at c12
          have HO := Lib.hid (op_yes h1 h2 h3)
          clear h2 h3
          go_wp2
          go_meet
          case rel => exact ⟨by rw [HO.out], rfl⟩
        · rw [h3] at c12
          have HO := Lib.hid (op_spaced h1 h3)
          clear h2 h3
          go_wp2
          go_meet
          case rel => exact ⟨by rw [HO.out], rfl⟩
      · have e2 := txt_f (l := [40]) h2
        have HO := Lib.hid (op_other h1 h2)
        clear h2
        go_wp2
        go_meet
        case rel => exact ⟨by rw [HO.out], rfl⟩
    · have h11 : ¬ (1 : Int) < (l.length : Int) := by omega
      have HO := Lib.hid (op_short h1)
      go_wp2
      go_meet
      case rel => exact ⟨by rw [HO.out], rfl⟩
  case rest =>
    obtain ⟨rfl, rfl⟩ := hcut
    go_upto_if 41 with fail
    go_cut [5] from 6 to 54 (fun c wx => ∃ (n : Nat) (fn : Bool) (ap : Option Addr) (cp : Nat) (ps : List ByteArray) (fpp : List Nat), c = .int .i64 n ∧ n ≤ l.length ∧ Hid (macOf l = macChk ⟨nm, fn, ps, bodyFrom l n⟩) ∧ Hid (wx.heap[w2.heap.size]? = some (.cells #[.string nm, .bool fn, .slice ap ps.length cp, .slice none 0 0] 27 (0, 0))) ∧ Hid ((sSlice sStr).R wx [.slice ap ps.length cp] ps fpp) ∧ Hid (Own wx (w2.heap.size + 1) fpp) ∧ Hid (Kept [w2.heap.size] (w2.alloc (.cells #[.string nm, .bool false, .slice none 0 0, .slice none 0 0] 27)) wx))
    case first =>
      have HPP := Lib.hid (spec_l5Params _ l _ _ hl60 HLX.out)
      cases ho : opens2 l
      · have HF := Lib.hid (of_plain HVD.out h0 ho)
        rw [← HNM.out] at HF
        clear ho
        go_wp2
        go_meet
        case rel => exact ⟨1, false, none, 0, [], [], rfl, by omega, HF, HMX.out, slice_empty sStr _ _ _ (by simp), Own.nil _ _, Kept.refl _ _⟩
      · have HOP := Lib.hid ho
        clear ho
        cases hp : parsOf l with
        | none =>
          unfold PMade at HPP
          rw [parRes_none hp] at HPP
          have HF := Lib.hid (of_pno HVD.out h0 HOP.out hp)
          clear hp
          go_wp2_with fail
          refine HPP.out.mono ?_
          rintro e w3 ⟨pv, fpp, rfl, -, -, hb3⟩
          have hB3 := hBX.trans (hb3.mono hBX.size)
          have HZ3 := Lib.hid (mbox HZX.out hb3)
          clear hb3
          have z0 : w3.cell? ⟨w.heap.size, 0, none⟩ = some (.string ⟨#[]⟩) := cell_of_row _ _ 0 _ _ _ HZ3.out
          have zf0 : w3.frozen? ⟨w.heap.size, 0, none⟩ = false := frozen_of_row _ _ 0 _ _ HZ3.out
          have z1 : w3.cell? ⟨w.heap.size, 1, none⟩ = some (.bool false) := cell_of_row _ _ 1 _ _ _ HZ3.out
          have zf1 : w3.frozen? ⟨w.heap.size, 1, none⟩ = false := frozen_of_row _ _ 1 _ _ HZ3.out
          have z2 : w3.cell? ⟨w.heap.size, 2, none⟩ = some (.slice none 0 0) := cell_of_row _ _ 2 _ _ _ HZ3.out
          have zf2 : w3.frozen? ⟨w.heap.size, 2, none⟩ = false := frozen_of_row _ _ 2 _ _ HZ3.out
          have z3 : w3.cell? ⟨w.heap.size, 3, none⟩ = some (.slice none 0 0) := cell_of_row _ _ 3 _ _ _ HZ3.out
          have zf3 : w3.frozen? ⟨w.heap.size, 3, none⟩ = false := frozen_of_row _ _ 3 _ _ HZ3.out
          have HS := Lib.hid (blk_set (blk_set (blk_set (blk_set HZ3.out 0 (.string ⟨#[]⟩)) 1 (.bool false)) 2 (.slice none 0 0)) 3 (.slice none 0 0))
          have HBF := Lib.hid ((((hB3.setCell (p := ⟨w.heap.size, 0, none⟩) (Nat.le_refl _) (.string ⟨#[]⟩)).setCell (p := ⟨w.heap.size, 1, none⟩) (Nat.le_refl _) (.bool false)).setCell (p := ⟨w.heap.size, 2, none⟩) (Nat.le_refl _) (.slice none 0 0)).setCell (p := ⟨w.heap.size, 3, none⟩) (Nat.le_refl _) (.slice none 0 0))
          go_wp2
          refine bodyPost_ret (results_cell2 rfl _ _ w.heap.size _ _ _ _ rfl HS.out Try.underlying27 rfl (by kernel_rfl)) rfl ?_
          exact mof_no HF.out HBF.out
        | some p =>
          obtain ⟨ps, n⟩ := p
          have hnl : n ≤ l.length := pars_le hp
          unfold PMade at HPP
          rw [parRes_some hp] at HPP
          have HF := Lib.hid (of_pars HVD.out h0 HOP.out hp)
          rw [← HNM.out] at HF
          clear hp
          go_wp2_with fail
          refine HPP.out.mono ?_
          rintro e w3 ⟨pv, fpp, rfl, hPR, hPO, hb3⟩
          rw [HS2.out] at hPO
          have HM3 := mbox HMX.out hb3
          obtain ⟨ap, cp, rfl, -⟩ := open_strs hPR
          have hn1 : w2.heap.size ∉ fpp := fun hx => by have := (hPO.2 _ hx).1; omega
          have c31 : w3.cell? ⟨w2.heap.size, 1, none⟩ = some (.bool false) := cell_of_row _ _ 1 _ _ _ HM3
          have c32 : w3.cell? ⟨w2.heap.size, 2, none⟩ = some (.slice none 0 0) := cell_of_row _ _ 2 _ _ _ HM3
          have f31 : w3.frozen? ⟨w2.heap.size, 1, none⟩ = false := frozen_of_row _ _ 1 _ _ HM3
          have f32 : w3.frozen? ⟨w2.heap.size, 2, none⟩ = false := frozen_of_row _ _ 2 _ _ HM3
          have HMF := Lib.hid (blk_set (blk_set HM3 1 (.bool true)) 2 (.slice ap ps.length cp))
          have HPF := Lib.hid ((sSlice sStr).setB ((sSlice sStr).setB hPR hn1 1 (.bool true)) hn1 2 (.slice ap ps.length cp))
          have HOF := Lib.hid ((hPO.setCell ⟨w2.heap.size, 1, none⟩ (.bool true)).setCell ⟨w2.heap.size, 2, none⟩ (.slice ap ps.length cp))
          have HKF := Lib.hid (((Kept.of_below (fp := [w2.heap.size]) hb3).setCell (p := ⟨w2.heap.size, 1, none⟩) (by simp) (.bool true)).setCell (p := ⟨w2.heap.size, 2, none⟩) (by simp) (.slice ap ps.length cp))
          have hneg : ¬ (n : Int) < 0 := by omega
          clear hPR hPO HM3 hb3 hn1
          go_wp2
          go_meet
          case rel => exact ⟨n, true, ap, cp, ps, fpp, rfl, hnl, HF, HMF.out, HPF, HOF, HKF⟩
    case rest =>
      obtain ⟨n, fn, ap, cp, ps, fpp, rfl, hn, HF, HM, HP, HO, HK⟩ := hcut
      have hsz := HK.out.size
      rw [HS2.out] at hsz
      have HBc := Lib.hid (hBX.trans (HK.out.below (lo := w.heap.size) (by intro b hb; have e : b = w2.heap.size := (by simpa using hb); omega) (by rw [HS2.out]; omega)))
      have HZc := Lib.hid ((HK.out.block w.heap.size (by rw [HS2.out]; omega) (by simp; omega)).trans HZX.out)
      have HEc : Hid (∀ i, (hi : i < l.length) → ∃ hh, ElemAt wc b1 off1 4 i [.int .i64 l[i].kind, .string l[i].text, .bool l[i].spaced, hh] ∧ okInt l[i].kind ∧ okStr l[i].text) := fun i hi => by
        obtain ⟨hh, hE, k1, k2⟩ := HEL.out i hi
        exact ⟨hh, (hE.frame (hbx.block b1 hb1s)).frame (HK.out.block b1 (by rw [HS2.out]; omega) (by simp; omega)), k1, k2⟩
      have HE0 := Lib.hid (RowE.nil sTok wc.heap.size 59 wc)
      have HPlt : Hid (∀ b ∈ fpp, b < wc.heap.size) := (sSlice sStr).lt HP.out
      have HPn : Hid (w2.heap.size ∉ fpp) := fun hx => by have := (HO.out.2 _ hx).1; omega
      clear HEL HLX HMX HZX HX1 HLL HZ hbx hBX hB1 hB2 c01 HK HVD
      go_wp2_with fail
      go_loopw [8] (fun i wr => ∃ (k : Nat) (vb : Value) (L : List (Elem Tok)), n ≤ k ∧ k ≤ l.length ∧ i = .int .i64 k ∧ Hid (L.length = k - n) ∧ Hid (wr.heap[w2.heap.size]? = some (.cells #[.string nm, .bool fn, .slice ap ps.length cp, vb] 27 (0, 0))) ∧ Hid (RowE sTok wc.heap.size 59 vb L wr) ∧ Hid (L.map (·.d) = (bodyFrom l n).take (k - n)) ∧ Hid (∀ x ∈ L, x.fp = []) ∧ Hid (Kept [w2.heap.size] wc wr)) (fun i _ => l.length - (intOf i).toNat)
      case atStart => exact ⟨n, _, [], by omega, hn, rfl, by show _ = _; simp, HM, HE0, by show _ = _; simp, by intro x hx; simp at hx, Kept.refl _ _⟩
      case round =>
        obtain ⟨k, vb, L, hnk, hkl, rfl, HLn, HMr, HE, HD, HFP, HKr⟩ := hrel
        obtain ⟨ab, cb, rfl, -⟩ := HE.out.val
        have hszr := HKr.out.size
        by_cases hlt : k < l.length
        · obtain ⟨hh, hE, ki, ks⟩ := HEc.out k hlt
          have hEr := hE.frame (HKr.out.block b1 (by omega) (by simp; omega))
          have q3 : wr.cell? ⟨w2.heap.size, 3, none⟩ = some (.slice ab L.length cb) := cell_of_row _ _ 3 _ _ _ HMr.out
          have e0 : wr.cell? ⟨b1, off1 + k * 4, none⟩ = some (.int .i64 l[k].kind) := elem_cell0 hEr (by decide) rfl
          have e1 : wr.cell? ⟨b1, off1 + k * 4 + 1, none⟩ = some (.string l[k].text) := elem_cell (j := 1) hEr (by decide) rfl
          have e2 : wr.cell? ⟨b1, off1 + k * 4 + 2, none⟩ = some (.bool l[k].spaced) := elem_cell (j := 2) hEr (by decide) rfl
          have HKI := Lib.hid (And.intro ki ks)
          have HT := Lib.hid (body_take hnk hlt)
          have HEd : Hid (RowE sTok wc.heap.size 59 (.slice ab L.length cb) L ({ wr with drawn := wr.drawn + 1 } : World)) := HE.out.same fun _ _ _ => rfl
          have hown : ∀ b, (Value.slice ab L.length cb).ownBlock = some b → wc.heap.size ≤ b := HE.out.mine
          clear hE hEr hh ki ks
          cases hsp : l[k].spaced
          · rw [hsp] at e2 HT
            clear hsp
            go_wp2
            refine wp_region_app (P := Try.prog) (by kernel_rfl) (by kernel_rfl) 23 24 26 (by kernel_rfl) (by kernel_rfl) (by decide) (by decide) rfl rfl rfl [some (.pointer (some ⟨w2.heap.size, 3, none⟩)), some (.slice ab L.length cb), some (.slice (some ⟨b1, off1, none⟩) l.length cap), some (.int .i64 (k : Int)), some (.pointer (some ⟨b1, off1 + k * 4, none⟩)), some (.pointer (some ⟨b1, off1 + k * 4, none⟩)), some (.int .i64 l[k].kind), some (.slice (some ⟨b1, off1, none⟩) l.length cap), some (.int .i64 (k : Int)), some (.pointer (some ⟨b1, off1 + k * 4, none⟩)), some (.pointer (some ⟨b1, off1 + k * 4 + 1, none⟩)), some (.string l[k].text), some (.slice (some ⟨b1, off1, none⟩) l.length cap), some (.int .i64 (k : Int)), some (.pointer (some ⟨b1, off1 + k * 4, none⟩)), some (.pointer (some ⟨b1, off1 + k * 4 + 2, none⟩)), some (.bool false), some (.bool false), none, none, none, some (.bool false), some (.agg #[.int .i64 l[k].kind, .string l[k].text, .bool false, .slice none 0 0]), none, none, some (.pointer (some ⟨w2.heap.size, 3, none⟩)), none] (.slice (some ⟨wr.heap.size, 0, none⟩) 1 1) ((({ wr with drawn := wr.drawn + 1 } : World).alloc (.cells #[.int .i64 l[k].kind, .string l[k].text, .bool false, .slice none 0 0] 59))) (fun v u => RowE sTok wc.heap.size 59 v (L ++ [(⟨[.int .i64 l[k].kind, .string l[k].text, .bool false, .slice none 0 0], ⟨l[k].kind, l[k].text, false, []⟩, []⟩ : Elem Tok)]) u ∧ ({ wr with drawn := wr.drawn + 1 } : World).grownBy u (Value.slice ab L.length cb).ownBlock) (fun v u => ∃ u2, (RowE sTok wc.heap.size 59 v (L ++ [(⟨[.int .i64 l[k].kind, .string l[k].text, .bool false, .slice none 0 0], ⟨l[k].kind, l[k].text, false, []⟩, []⟩ : Elem Tok)]) u2 ∧ ({ wr with drawn := wr.drawn + 1 } : World).grownBy u2 (Value.slice ab L.length cb).ownBlock) ∧ u = u2.setCell ⟨w2.heap.size, 3, none⟩ v) (fun u => u.cell? ⟨w2.heap.size, 3, none⟩ = some (.slice ab L.length cb) ∧ u.cell? ⟨b1, off1 + k * 4, none⟩ = some (.int .i64 l[k].kind) ∧ u.cell? ⟨b1, off1 + k * 4 + 1, none⟩ = some (.string l[k].text) ∧ u.cell? ⟨b1, off1 + k * 4 + 2, none⟩ = some (.bool false)) ?b0 ?b1 ?b2 (cons_all ⟨.inr (.inr (.inr ?s0)), .inr (.inr (.inr ?s1)), .inr (.inr (.inr ?s2)), .inr (.inr (.inr ?s3)), .inr (.inr (.inr ?s4)), .inr (.inr (.inr ?s5)), .inr (.inr (.inr ?s6)), .inr (.inr (.inr ?s7)), .inr (.inr (.inr ?s8)), .inr (.inr (.inr ?s9)), .inr (.inr (.inr ?s10)), .inr (.inr (.inr ?s11)), .inr (.inr (.inr ?s12)), .inr (.inr (.inr ?s13)), .inr (.inr (.inr ?s14)), .inr (.inr (.inr ?s15)), .inr (.inr (.inr ?s16)), .inr (.inr (.inr ?s17)), .inr (.inr (.inr ?s18)), .inr (.inr (.inr ?s19)), .inr (.inr (.inr ?s20)), .inr (.inr (.inr ?s21)), .inr (.inr (.inr ?s22)), .inl rfl, .inr (.inl rfl), .inr (.inr (.inr ?s25)), .inr (.inr (.inl rfl)), trivial⟩) ?sA ?sB ?sC ?done
            case b0 =>
              exact ⟨q3, e0, e1, e2⟩
            case b1 =>
              have hbb := alloc_below' ({ wr with drawn := wr.drawn + 1 } : World) (.cells #[.int .i64 l[k].kind, .string l[k].text, .bool false, .slice none 0 0] 59)
              exact ⟨(hbb.cell (p := ⟨w2.heap.size, 3, none⟩) (show w2.heap.size < wr.heap.size by omega)).trans q3, (hbb.cell (p := ⟨b1, off1 + k * 4, none⟩) (show b1 < wr.heap.size by omega)).trans e0, (hbb.cell (p := ⟨b1, off1 + k * 4 + 1, none⟩) (show b1 < wr.heap.size by omega)).trans e1, (hbb.cell (p := ⟨b1, off1 + k * 4 + 2, none⟩) (show b1 < wr.heap.size by omega)).trans e2⟩
            case b2 =>
              rintro v u ⟨-, hg⟩
              have kb : ∀ b, b < wc.heap.size → u.heap[b]? = wr.heap[b]? := fun b hb => hg.block b (show b < wr.heap.size by omega) (fun he => by have := hown b he.symm; omega)
              exact ⟨(World.cell?_of_block (a := ⟨w2.heap.size, 3, none⟩) (kb w2.heap.size (by omega))).trans q3, (World.cell?_of_block (a := ⟨b1, off1 + k * 4, none⟩) (kb b1 (by omega))).trans e0, (World.cell?_of_block (a := ⟨b1, off1 + k * 4 + 1, none⟩) (kb b1 (by omega))).trans e1, (World.cell?_of_block (a := ⟨b1, off1 + k * 4 + 2, none⟩) (kb b1 (by omega))).trans e2⟩
            case s0 =>
              intro xs w' hl _ hd hB K hK
              obtain ⟨x0, x1, x2, x3, x4, x5, x6, x7, x8, x9, x10, x11, x12, x13, x14, x15, x16, x17, x18, x19, x20, x21, x22, x23, x24, x25, x26, rfl⟩ := len27 hl
              obtain ⟨q3, e0, e1, e2⟩ := hB
              clear hd
              simp only [fill, Act.put, List.map_cons, List.map_nil, List.setIfInBounds_toArray, List.set_cons_succ, List.set_cons_zero] at hK ⊢
              go_wp2
              exact hK _ (fun u hu => by simpa using hu)
            case s1 =>
              intro xs w' hl _ hd hB K hK
              obtain ⟨x0, x1, x2, x3, x4, x5, x6, x7, x8, x9, x10, x11, x12, x13, x14, x15, x16, x17, x18, x19, x20, x21, x22, x23, x24, x25, x26, rfl⟩ := len27 hl
              obtain rfl : x0 = .pointer (some ⟨w2.heap.size, 3, none⟩) := by simpa using hd ⟨0, .data⟩ (by simp) rfl (by decide) (by decide) (by decide) _ rfl
              obtain ⟨q3, e0, e1, e2⟩ := hB
              clear hd
              simp only [fill, Act.put, List.map_cons, List.map_nil, List.setIfInBounds_toArray, List.set_cons_succ, List.set_cons_zero] at hK ⊢
              go_wp2
              exact hK _ (fun u hu => by simpa using hu)
            case s2 =>
              intro xs w' hl _ hd hB K hK
              obtain ⟨x0, x1, x2, x3, x4, x5, x6, x7, x8, x9, x10, x11, x12, x13, x14, x15, x16, x17, x18, x19, x20, x21, x22, x23, x24, x25, x26, rfl⟩ := len27 hl
              obtain ⟨q3, e0, e1, e2⟩ := hB
              clear hd
              simp only [fill, Act.put, List.map_cons, List.map_nil, List.setIfInBounds_toArray, List.set_cons_succ, List.set_cons_zero] at hK ⊢
              go_wp2
              exact hK _ (fun u hu => by simpa using hu)
            case s3 =>
              intro xs w' hl _ hd hB K hK
              obtain ⟨x0, x1, x2, x3, x4, x5, x6, x7, x8, x9, x10, x11, x12, x13, x14, x15, x16, x17, x18, x19, x20, x21, x22, x23, x24, x25, x26, rfl⟩ := len27 hl
              obtain ⟨q3, e0, e1, e2⟩ := hB
              clear hd
              simp only [fill, Act.put, List.map_cons, List.map_nil, List.setIfInBounds_toArray, List.set_cons_succ, List.set_cons_zero] at hK ⊢
              go_wp2
              exact hK _ (fun u hu => by simpa using hu)
            case s4 =>
              intro xs w' hl _ hd hB K hK
              obtain ⟨x0, x1, x2, x3, x4, x5, x6, x7, x8, x9, x10, x11, x12, x13, x14, x15, x16, x17, x18, x19, x20, x21, x22, x23, x24, x25, x26, rfl⟩ := len27 hl
              obtain rfl : x2 = .slice (some ⟨b1, off1, none⟩) l.length cap := by simpa using hd ⟨2, .data⟩ (by simp) rfl (by decide) (by decide) (by decide) _ rfl
              obtain rfl : x3 = .int .i64 (k : Int) := by simpa using hd ⟨3, .data⟩ (by simp) rfl (by decide) (by decide) (by decide) _ rfl
              obtain ⟨q3, e0, e1, e2⟩ := hB
              clear hd
              simp only [fill, Act.put, List.map_cons, List.map_nil, List.setIfInBounds_toArray, List.set_cons_succ, List.set_cons_zero] at hK ⊢
              go_wp2
              exact hK _ (fun u hu => by simpa using hu)
            case s5 =>
              intro xs w' hl _ hd hB K hK
              obtain ⟨x0, x1, x2, x3, x4, x5, x6, x7, x8, x9, x10, x11, x12, x13, x14, x15, x16, x17, x18, x19, x20, x21, x22, x23, x24, x25, x26, rfl⟩ := len27 hl
              obtain rfl : x4 = .pointer (some ⟨b1, off1 + k * 4, none⟩) := by simpa using hd ⟨4, .data⟩ (by simp) rfl (by decide) (by decide) (by decide) _ rfl
              obtain ⟨q3, e0, e1, e2⟩ := hB
              clear hd
              simp only [fill, Act.put, List.map_cons, List.map_nil, List.setIfInBounds_toArray, List.set_cons_succ, List.set_cons_zero] at hK ⊢
              go_wp2
              exact hK _ (fun u hu => by simpa using hu)
            case s6 =>
              intro xs w' hl _ hd hB K hK
              obtain ⟨x0, x1, x2, x3, x4, x5, x6, x7, x8, x9, x10, x11, x12, x13, x14, x15, x16, x17, x18, x19, x20, x21, x22, x23, x24, x25, x26, rfl⟩ := len27 hl
              obtain rfl : x5 = .pointer (some ⟨b1, off1 + k * 4, none⟩) := by simpa using hd ⟨5, .data⟩ (by simp) rfl (by decide) (by decide) (by decide) _ rfl
              obtain ⟨q3, e0, e1, e2⟩ := hB
              clear hd
              simp only [fill, Act.put, List.map_cons, List.map_nil, List.setIfInBounds_toArray, List.set_cons_succ, List.set_cons_zero] at hK ⊢
              go_wp2
              exact hK _ (fun u hu => by simpa using hu)
            case s7 =>
              intro xs w' hl _ hd hB K hK
              obtain ⟨x0, x1, x2, x3, x4, x5, x6, x7, x8, x9, x10, x11, x12, x13, x14, x15, x16, x17, x18, x19, x20, x21, x22, x23, x24, x25, x26, rfl⟩ := len27 hl
              obtain ⟨q3, e0, e1, e2⟩ := hB
              clear hd
              simp only [fill, Act.put, List.map_cons, List.map_nil, List.setIfInBounds_toArray, List.set_cons_succ, List.set_cons_zero] at hK ⊢
              go_wp2
              exact hK _ (fun u hu => by simpa using hu)
            case s8 =>
              intro xs w' hl _ hd hB K hK
              obtain ⟨x0, x1, x2, x3, x4, x5, x6, x7, x8, x9, x10, x11, x12, x13, x14, x15, x16, x17, x18, x19, x20, x21, x22, x23, x24, x25, x26, rfl⟩ := len27 hl
              obtain ⟨q3, e0, e1, e2⟩ := hB
              clear hd
              simp only [fill, Act.put, List.map_cons, List.map_nil, List.setIfInBounds_toArray, List.set_cons_succ, List.set_cons_zero] at hK ⊢
              go_wp2
              exact hK _ (fun u hu => by simpa using hu)
            case s9 =>
              intro xs w' hl _ hd hB K hK
              obtain ⟨x0, x1, x2, x3, x4, x5, x6, x7, x8, x9, x10, x11, x12, x13, x14, x15, x16, x17, x18, x19, x20, x21, x22, x23, x24, x25, x26, rfl⟩ := len27 hl
              obtain rfl : x7 = .slice (some ⟨b1, off1, none⟩) l.length cap := by simpa using hd ⟨7, .data⟩ (by simp) rfl (by decide) (by decide) (by decide) _ rfl
              obtain rfl : x8 = .int .i64 (k : Int) := by simpa using hd ⟨8, .data⟩ (by simp) rfl (by decide) (by decide) (by decide) _ rfl
              obtain ⟨q3, e0, e1, e2⟩ := hB
              clear hd
              simp only [fill, Act.put, List.map_cons, List.map_nil, List.setIfInBounds_toArray, List.set_cons_succ, List.set_cons_zero] at hK ⊢
              go_wp2
              exact hK _ (fun u hu => by simpa using hu)
            case s10 =>
              intro xs w' hl _ hd hB K hK
              obtain ⟨x0, x1, x2, x3, x4, x5, x6, x7, x8, x9, x10, x11, x12, x13, x14, x15, x16, x17, x18, x19, x20, x21, x22, x23, x24, x25, x26, rfl⟩ := len27 hl
              obtain rfl : x9 = .pointer (some ⟨b1, off1 + k * 4, none⟩) := by simpa using hd ⟨9, .data⟩ (by simp) rfl (by decide) (by decide) (by decide) _ rfl
              obtain ⟨q3, e0, e1, e2⟩ := hB
              clear hd
              simp only [fill, Act.put, List.map_cons, List.map_nil, List.setIfInBounds_toArray, List.set_cons_succ, List.set_cons_zero] at hK ⊢
              go_wp2
              exact hK _ (fun u hu => by simpa using hu)
            case s11 =>
              intro xs w' hl _ hd hB K hK
              obtain ⟨x0, x1, x2, x3, x4, x5, x6, x7, x8, x9, x10, x11, x12, x13, x14, x15, x16, x17, x18, x19, x20, x21, x22, x23, x24, x25, x26, rfl⟩ := len27 hl
              obtain rfl : x10 = .pointer (some ⟨b1, off1 + k * 4 + 1, none⟩) := by simpa using hd ⟨10, .data⟩ (by simp) rfl (by decide) (by decide) (by decide) _ rfl
              obtain ⟨q3, e0, e1, e2⟩ := hB
              clear hd
              simp only [fill, Act.put, List.map_cons, List.map_nil, List.setIfInBounds_toArray, List.set_cons_succ, List.set_cons_zero] at hK ⊢
              go_wp2
              exact hK _ (fun u hu => by simpa using hu)
            case s12 =>
              intro xs w' hl _ hd hB K hK
              obtain ⟨x0, x1, x2, x3, x4, x5, x6, x7, x8, x9, x10, x11, x12, x13, x14, x15, x16, x17, x18, x19, x20, x21, x22, x23, x24, x25, x26, rfl⟩ := len27 hl
              obtain ⟨q3, e0, e1, e2⟩ := hB
              clear hd
              simp only [fill, Act.put, List.map_cons, List.map_nil, List.setIfInBounds_toArray, List.set_cons_succ, List.set_cons_zero] at hK ⊢
              go_wp2
              exact hK _ (fun u hu => by simpa using hu)
            case s13 =>
              intro xs w' hl _ hd hB K hK
              obtain ⟨x0, x1, x2, x3, x4, x5, x6, x7, x8, x9, x10, x11, x12, x13, x14, x15, x16, x17, x18, x19, x20, x21, x22, x23, x24, x25, x26, rfl⟩ := len27 hl
              obtain ⟨q3, e0, e1, e2⟩ := hB
              clear hd
              simp only [fill, Act.put, List.map_cons, List.map_nil, List.setIfInBounds_toArray, List.set_cons_succ, List.set_cons_zero] at hK ⊢
              go_wp2
              exact hK _ (fun u hu => by simpa using hu)
            case s14 =>
              intro xs w' hl _ hd hB K hK
              obtain ⟨x0, x1, x2, x3, x4, x5, x6, x7, x8, x9, x10, x11, x12, x13, x14, x15, x16, x17, x18, x19, x20, x21, x22, x23, x24, x25, x26, rfl⟩ := len27 hl
              obtain rfl : x12 = .slice (some ⟨b1, off1, none⟩) l.length cap := by simpa using hd ⟨12, .data⟩ (by simp) rfl (by decide) (by decide) (by decide) _ rfl
              obtain rfl : x13 = .int .i64 (k : Int) := by simpa using hd ⟨13, .data⟩ (by simp) rfl (by decide) (by decide) (by decide) _ rfl
              obtain ⟨q3, e0, e1, e2⟩ := hB
              clear hd
              simp only [fill, Act.put, List.map_cons, List.map_nil, List.setIfInBounds_toArray, List.set_cons_succ, List.set_cons_zero] at hK ⊢
              go_wp2
              exact hK _ (fun u hu => by simpa using hu)
            case s15 =>
              intro xs w' hl _ hd hB K hK
              obtain ⟨x0, x1, x2, x3, x4, x5, x6, x7, x8, x9, x10, x11, x12, x13, x14, x15, x16, x17, x18, x19, x20, x21, x22, x23, x24, x25, x26, rfl⟩ := len27 hl
              obtain rfl : x14 = .pointer (some ⟨b1, off1 + k * 4, none⟩) := by simpa using hd ⟨14, .data⟩ (by simp) rfl (by decide) (by decide) (by decide) _ rfl
              obtain ⟨q3, e0, e1, e2⟩ := hB
              clear hd
              simp only [fill, Act.put, List.map_cons, List.map_nil, List.setIfInBounds_toArray, List.set_cons_succ, List.set_cons_zero] at hK ⊢
              go_wp2
              exact hK _ (fun u hu => by simpa using hu)
            case s16 =>
              intro xs w' hl _ hd hB K hK
              obtain ⟨x0, x1, x2, x3, x4, x5, x6, x7, x8, x9, x10, x11, x12, x13, x14, x15, x16, x17, x18, x19, x20, x21, x22, x23, x24, x25, x26, rfl⟩ := len27 hl
              obtain rfl : x15 = .pointer (some ⟨b1, off1 + k * 4 + 2, none⟩) := by simpa using hd ⟨15, .data⟩ (by simp) rfl (by decide) (by decide) (by decide) _ rfl
              obtain ⟨q3, e0, e1, e2⟩ := hB
              clear hd
              simp only [fill, Act.put, List.map_cons, List.map_nil, List.setIfInBounds_toArray, List.set_cons_succ, List.set_cons_zero] at hK ⊢
              go_wp2
              exact hK _ (fun u hu => by simpa using hu)
            case s17 =>
              intro xs w' hl _ hd hB K hK
              obtain ⟨x0, x1, x2, x3, x4, x5, x6, x7, x8, x9, x10, x11, x12, x13, x14, x15, x16, x17, x18, x19, x20, x21, x22, x23, x24, x25, x26, rfl⟩ := len27 hl
              obtain rfl : x16 = .bool false := by simpa using hd ⟨16, .data⟩ (by simp) rfl (by decide) (by decide) (by decide) _ rfl
              obtain ⟨q3, e0, e1, e2⟩ := hB
              clear hd
              simp only [fill, Act.put, List.map_cons, List.map_nil, List.setIfInBounds_toArray, List.set_cons_succ, List.set_cons_zero] at hK ⊢
              go_wp2
              exact hK _ (fun u hu => by simpa using hu)
            case s18 =>
              intro xs w' hl hold hd hB K hK
              clear hold
              have f17 : xs[17]? = some (.bool false) := hd ⟨17, .guard⟩ (by simp) rfl (by decide) (by decide) (by decide) _ rfl
              clear hd
              obtain ⟨x0, x1, x2, x3, x4, x5, x6, x7, x8, x9, x10, x11, x12, x13, x14, x15, x16, x17, x18, x19, x20, x21, x22, x23, x24, x25, x26, hxs⟩ := len27 hl
              have g17 : x17 = .bool false := by rw [hxs] at f17; simpa using f17
              rw [g17] at hxs
              clear hl f17 g17
              refine sw_skip ?_ (hK _ (fun u hu => by simp at hu))
              rw [hxs]
              kernel_rfl
            case s19 =>
              intro xs w' hl hold hd hB K hK
              clear hold
              have f17 : xs[17]? = some (.bool false) := hd ⟨17, .guard⟩ (by simp) rfl (by decide) (by decide) (by decide) _ rfl
              clear hd
              obtain ⟨x0, x1, x2, x3, x4, x5, x6, x7, x8, x9, x10, x11, x12, x13, x14, x15, x16, x17, x18, x19, x20, x21, x22, x23, x24, x25, x26, hxs⟩ := len27 hl
              have g17 : x17 = .bool false := by rw [hxs] at f17; simpa using f17
              rw [g17] at hxs
              clear hl f17 g17
              refine sw_skip ?_ (hK _ (fun u hu => by simp at hu))
              rw [hxs]
              kernel_rfl
            case s20 =>
              intro xs w' hl hold hd hB K hK
              clear hold
              have f17 : xs[17]? = some (.bool false) := hd ⟨17, .guard⟩ (by simp) rfl (by decide) (by decide) (by decide) _ rfl
              clear hd
              obtain ⟨x0, x1, x2, x3, x4, x5, x6, x7, x8, x9, x10, x11, x12, x13, x14, x15, x16, x17, x18, x19, x20, x21, x22, x23, x24, x25, x26, hxs⟩ := len27 hl
              have g17 : x17 = .bool false := by rw [hxs] at f17; simpa using f17
              rw [g17] at hxs
              clear hl f17 g17
              refine sw_skip ?_ (hK _ (fun u hu => by simp at hu))
              rw [hxs]
              kernel_rfl
            case s21 =>
              intro xs w' hl _ hd hB K hK
              obtain ⟨x0, x1, x2, x3, x4, x5, x6, x7, x8, x9, x10, x11, x12, x13, x14, x15, x16, x17, x18, x19, x20, x21, x22, x23, x24, x25, x26, rfl⟩ := len27 hl
              obtain rfl : x17 = .bool false := by simpa using hd ⟨17, .data⟩ (by simp) rfl (by decide) (by decide) (by decide) _ rfl
              obtain ⟨q3, e0, e1, e2⟩ := hB
              clear hd
              simp only [fill, Act.put, List.map_cons, List.map_nil, List.setIfInBounds_toArray, List.set_cons_succ, List.set_cons_zero] at hK ⊢
              go_wp2
              exact hK _ (fun u hu => by simpa using hu)
            case s22 =>
              intro xs w' hl _ hd hB K hK
              obtain ⟨x0, x1, x2, x3, x4, x5, x6, x7, x8, x9, x10, x11, x12, x13, x14, x15, x16, x17, x18, x19, x20, x21, x22, x23, x24, x25, x26, rfl⟩ := len27 hl
              obtain rfl : x6 = .int .i64 l[k].kind := by simpa using hd ⟨6, .data⟩ (by simp) rfl (by decide) (by decide) (by decide) _ rfl
              obtain rfl : x11 = .string l[k].text := by simpa using hd ⟨11, .data⟩ (by simp) rfl (by decide) (by decide) (by decide) _ rfl
              obtain rfl : x21 = .bool false := by simpa using hd ⟨21, .data⟩ (by simp) rfl (by decide) (by decide) (by decide) _ rfl
              obtain ⟨q3, e0, e1, e2⟩ := hB
              clear hd
              simp only [fill, Act.put, List.map_cons, List.map_nil, List.setIfInBounds_toArray, List.set_cons_succ, List.set_cons_zero] at hK ⊢
              go_wp2
              exact hK _ (fun u hu => by simpa using hu)
            case s25 =>
              intro xs w' hl _ hd hB K hK
              obtain ⟨x0, x1, x2, x3, x4, x5, x6, x7, x8, x9, x10, x11, x12, x13, x14, x15, x16, x17, x18, x19, x20, x21, x22, x23, x24, x25, x26, rfl⟩ := len27 hl
              obtain ⟨q3, e0, e1, e2⟩ := hB
              clear hd
              simp only [fill, Act.put, List.map_cons, List.map_nil, List.setIfInBounds_toArray, List.set_cons_succ, List.set_cons_zero] at hK ⊢
              go_wp2
              exact hK _ (fun u hu => by simpa using hu)
            case sA =>
              intro xs hl hd K hK
              obtain ⟨x0, x1, x2, x3, x4, x5, x6, x7, x8, x9, x10, x11, x12, x13, x14, x15, x16, x17, x18, x19, x20, x21, x22, x23, x24, x25, x26, rfl⟩ := len27 hl
              obtain rfl : x22 = .agg #[.int .i64 l[k].kind, .string l[k].text, .bool false, .slice none 0 0] := by simpa using hd ⟨22, .data⟩ (by simp) rfl (by decide) (by decide) (by decide) _ rfl
              clear hd
              simp only [fill, Act.put, List.map_cons, List.map_nil, List.setIfInBounds_toArray, List.set_cons_succ, List.set_cons_zero] at hK ⊢
              go_wp2
              exact hK
            case sB =>
              intro xs hl hd hva K hK
              obtain ⟨x0, x1, x2, x3, x4, x5, x6, x7, x8, x9, x10, x11, x12, x13, x14, x15, x16, x17, x18, x19, x20, x21, x22, x23, x24, x25, x26, rfl⟩ := len27 hl
              obtain rfl : x1 = .slice ab L.length cb := by simpa using hd ⟨1, .data⟩ (by simp) rfl (by decide) (by decide) (by decide) _ rfl
              obtain rfl : x23 = .slice (some ⟨wr.heap.size, 0, none⟩) 1 1 := by simpa using hva
              clear hd
              simp only [fill, Act.put, List.map_cons, List.map_nil, List.setIfInBounds_toArray, List.set_cons_succ, List.set_cons_zero] at hK ⊢
              refine wp_append_tokE rfl (.tmp 62) (.tmp 84) rfl wc.heap.size (.slice ab L.length cb) L rfl HEd.out l[k].kind l[k].text false none 0 0 [] [] rfl ⟨_, rfl, HKI.out.1, HKI.out.2, slice_empty sStr _ _ _ (by simp)⟩ (by simp) (by simp) (by have := HLn.out; omega) (by show wc.heap.size ≤ wr.heap.size; omega) ?_
              intro v' u' h1 h2
              exact hK v' u' ⟨h1, h2⟩
            case sC =>
              intro xs v w2u hl hd hvb hApp K hK
              obtain ⟨x0, x1, x2, x3, x4, x5, x6, x7, x8, x9, x10, x11, x12, x13, x14, x15, x16, x17, x18, x19, x20, x21, x22, x23, x24, x25, x26, rfl⟩ := len27 hl
              obtain rfl : x25 = .pointer (some ⟨w2.heap.size, 3, none⟩) := by simpa using hd ⟨25, .data⟩ (by simp) rfl (by decide) (by decide) (by decide) _ rfl
              obtain rfl : x24 = v := by simpa using hvb
              clear hd
              simp only [fill, Act.put, List.map_cons, List.map_nil, List.setIfInBounds_toArray, List.set_cons_succ, List.set_cons_zero] at hK ⊢
              obtain ⟨hA, hg⟩ := hApp
              obtain ⟨av, cv, hvv, -⟩ := hA.val
              rw [List.length_append, show ([(⟨[.int .i64 l[k].kind, .string l[k].text, .bool false, .slice none 0 0], ⟨l[k].kind, l[k].text, false, []⟩, []⟩ : Elem Tok)] : List (Elem Tok)).length = 1 from rfl] at hvv
              subst hvv
              have hMu := (hg.block w2.heap.size (show w2.heap.size < wr.heap.size by omega) (fun he => by have := hown _ he.symm; omega)).trans HMr.out
              have c3 : w2u.cell? ⟨w2.heap.size, 3, none⟩ = some (.slice ab L.length cb) := cell_of_row _ _ 3 _ _ _ hMu
              have f3 : w2u.frozen? ⟨w2.heap.size, 3, none⟩ = false := frozen_of_row _ _ 3 _ _ hMu
              go_wp2
              exact hK undef _ ⟨_, ⟨hA, hg⟩, rfl⟩
            case done =>
              intro xs v w3 hl hd hva hvb hFin
              obtain ⟨x0, x1, x2, x3, x4, x5, x6, x7, x8, x9, x10, x11, x12, x13, x14, x15, x16, x17, x18, x19, x20, x21, x22, x23, x24, x25, x26, rfl⟩ := len27 hl
              clear hd hva hvb
              simp only [fill, Act.put, List.map_cons, List.map_nil, List.setIfInBounds_toArray, List.set_cons_succ, List.set_cons_zero]
              obtain ⟨u, ⟨hA, hg⟩, rfl⟩ := hFin
              have kb : ∀ b, b < wr.heap.size → (Value.slice ab L.length cb).ownBlock ≠ some b → u.heap[b]? = wr.heap[b]? := fun b hb hn => hg.block b (show b < wr.heap.size by omega) (fun he => hn he.symm)
              have hMu := (kb w2.heap.size (by omega) (fun he => by have := hown _ he; omega)).trans HMr.out
              have HM6 := Lib.hid (blk_set hMu 3 v)
              have HE6 := Lib.hid (hA.same (w' := u.setCell ⟨w2.heap.size, 3, none⟩ v) fun b hb hl => Below.heap_setCell _ _ _ _ (by show b ≠ w2.heap.size; omega))
              have hus : wr.heap.size ≤ u.heap.size := hg.size
              have HK6 : Hid (Kept [w2.heap.size] wc (u.setCell ⟨w2.heap.size, 3, none⟩ v)) := ⟨by have h1 : u.os = wr.os := hg.os; exact h1.trans HKr.out.os, by have h1 : u.tape = wr.tape := hg.tape; exact h1.trans HKr.out.tape, by have h1 : u.output = wr.output := hg.output; exact h1.trans HKr.out.output, by rw [size_setCell]; omega, fun b hb hn => by
                have hne : b ≠ w2.heap.size := by simpa using hn
                exact (Below.heap_setCell _ _ _ _ hne).trans ((kb b (by omega) (fun he => by have := hown _ he; omega)).trans (HKr.out.block b hb hn))⟩
              have HL6 : Hid ((L ++ [(⟨[.int .i64 l[k].kind, .string l[k].text, .bool false, .slice none 0 0], ⟨l[k].kind, l[k].text, false, []⟩, []⟩ : Elem Tok)]).length = k + 1 - n) := by show _ = _; rw [List.length_append, HLn.out]; show _ + 1 = _; omega
              have HD6 : Hid ((L ++ [(⟨[.int .i64 l[k].kind, .string l[k].text, .bool false, .slice none 0 0], ⟨l[k].kind, l[k].text, false, []⟩, []⟩ : Elem Tok)]).map (·.d) = (bodyFrom l n).take (k + 1 - n)) := by show _ = _; rw [HT.out, List.map_append, HD.out]; simp
              have HF6 : Hid (∀ x ∈ L ++ [(⟨[.int .i64 l[k].kind, .string l[k].text, .bool false, .slice none 0 0], ⟨l[k].kind, l[k].text, false, []⟩, []⟩ : Elem Tok)], x.fp = []) := fun x hx => by
                rcases List.mem_append.1 hx with h | h
                · exact HFP.out x h
                · obtain rfl := List.mem_singleton.1 h; rfl
              clear hA hg kb hMu HMr HE HD HFP HKr HLn HT q3 e0 e1 e2
              go_wp2
              go_roundw
              case rel => exact ⟨k + 1, v, _, by omega, by omega, by go_num, HL6, HM6, HE6, HD6, HF6, HK6⟩
              case measure => simp [intOf]; omega
          · rw [hsp] at e2 HT
            clear hsp
            go_wp2
            refine wp_region_app (P := Try.prog) (by kernel_rfl) (by kernel_rfl) 23 24 26 (by kernel_rfl) (by kernel_rfl) (by decide) (by decide) rfl rfl rfl [some (.pointer (some ⟨w2.heap.size, 3, none⟩)), some (.slice ab L.length cb), some (.slice (some ⟨b1, off1, none⟩) l.length cap), some (.int .i64 (k : Int)), some (.pointer (some ⟨b1, off1 + k * 4, none⟩)), some (.pointer (some ⟨b1, off1 + k * 4, none⟩)), some (.int .i64 l[k].kind), some (.slice (some ⟨b1, off1, none⟩) l.length cap), some (.int .i64 (k : Int)), some (.pointer (some ⟨b1, off1 + k * 4, none⟩)), some (.pointer (some ⟨b1, off1 + k * 4 + 1, none⟩)), some (.string l[k].text), some (.slice (some ⟨b1, off1, none⟩) l.length cap), some (.int .i64 (k : Int)), some (.pointer (some ⟨b1, off1 + k * 4, none⟩)), some (.pointer (some ⟨b1, off1 + k * 4 + 2, none⟩)), some (.bool true), some (.bool true), some (.int .i64 (k : Int)), some (.int .i64 (n : Int)), some (.bool (decide (n < k))), some (.bool (decide (n < k))), some (.agg #[.int .i64 l[k].kind, .string l[k].text, .bool (decide (n < k)), .slice none 0 0]), none, none, some (.pointer (some ⟨w2.heap.size, 3, none⟩)), none] (.slice (some ⟨wr.heap.size, 0, none⟩) 1 1) ((({ wr with drawn := wr.drawn + 1 } : World).alloc (.cells #[.int .i64 l[k].kind, .string l[k].text, .bool (decide (n < k)), .slice none 0 0] 59))) (fun v u => RowE sTok wc.heap.size 59 v (L ++ [(⟨[.int .i64 l[k].kind, .string l[k].text, .bool (decide (n < k)), .slice none 0 0], ⟨l[k].kind, l[k].text, (decide (n < k)), []⟩, []⟩ : Elem Tok)]) u ∧ ({ wr with drawn := wr.drawn + 1 } : World).grownBy u (Value.slice ab L.length cb).ownBlock) (fun v u => ∃ u2, (RowE sTok wc.heap.size 59 v (L ++ [(⟨[.int .i64 l[k].kind, .string l[k].text, .bool (decide (n < k)), .slice none 0 0], ⟨l[k].kind, l[k].text, (decide (n < k)), []⟩, []⟩ : Elem Tok)]) u2 ∧ ({ wr with drawn := wr.drawn + 1 } : World).grownBy u2 (Value.slice ab L.length cb).ownBlock) ∧ u = u2.setCell ⟨w2.heap.size, 3, none⟩ v) (fun u => u.cell? ⟨w2.heap.size, 3, none⟩ = some (.slice ab L.length cb) ∧ u.cell? ⟨b1, off1 + k * 4, none⟩ = some (.int .i64 l[k].kind) ∧ u.cell? ⟨b1, off1 + k * 4 + 1, none⟩ = some (.string l[k].text) ∧ u.cell? ⟨b1, off1 + k * 4 + 2, none⟩ = some (.bool true)) ?b0 ?b1 ?b2 (cons_all ⟨.inr (.inr (.inr ?s0)), .inr (.inr (.inr ?s1)), .inr (.inr (.inr ?s2)), .inr (.inr (.inr ?s3)), .inr (.inr (.inr ?s4)), .inr (.inr (.inr ?s5)), .inr (.inr (.inr ?s6)), .inr (.inr (.inr ?s7)), .inr (.inr (.inr ?s8)), .inr (.inr (.inr ?s9)), .inr (.inr (.inr ?s10)), .inr (.inr (.inr ?s11)), .inr (.inr (.inr ?s12)), .inr (.inr (.inr ?s13)), .inr (.inr (.inr ?s14)), .inr (.inr (.inr ?s15)), .inr (.inr (.inr ?s16)), .inr (.inr (.inr ?s17)), .inr (.inr (.inr ?s18)), .inr (.inr (.inr ?s19)), .inr (.inr (.inr ?s20)), .inr (.inr (.inr ?s21)), .inr (.inr (.inr ?s22)), .inl rfl, .inr (.inl rfl), .inr (.inr (.inr ?s25)), .inr (.inr (.inl rfl)), trivial⟩) ?sA ?sB ?sC ?done
            case b0 =>
              exact ⟨q3, e0, e1, e2⟩
            case b1 =>
              have hbb := alloc_below' ({ wr with drawn := wr.drawn + 1 } : World) (.cells #[.int .i64 l[k].kind, .string l[k].text, .bool (decide (n < k)), .slice none 0 0] 59)
              exact ⟨(hbb.cell (p := ⟨w2.heap.size, 3, none⟩) (show w2.heap.size < wr.heap.size by omega)).trans q3, (hbb.cell (p := ⟨b1, off1 + k * 4, none⟩) (show b1 < wr.heap.size by omega)).trans e0, (hbb.cell (p := ⟨b1, off1 + k * 4 + 1, none⟩) (show b1 < wr.heap.size by omega)).trans e1, (hbb.cell (p := ⟨b1, off1 + k * 4 + 2, none⟩) (show b1 < wr.heap.size by omega)).trans e2⟩
            case b2 =>
              rintro v u ⟨-, hg⟩
              have kb : ∀ b, b < wc.heap.size → u.heap[b]? = wr.heap[b]? := fun b hb => hg.block b (show b < wr.heap.size by omega) (fun he => by have := hown b he.symm; omega)
              exact ⟨(World.cell?_of_block (a := ⟨w2.heap.size, 3, none⟩) (kb w2.heap.size (by omega))).trans q3, (World.cell?_of_block (a := ⟨b1, off1 + k * 4, none⟩) (kb b1 (by omega))).trans e0, (World.cell?_of_block (a := ⟨b1, off1 + k * 4 + 1, none⟩) (kb b1 (by omega))).trans e1, (World.cell?_of_block (a := ⟨b1, off1 + k * 4 + 2, none⟩) (kb b1 (by omega))).trans e2⟩
            case s0 =>
              intro xs w' hl _ hd hB K hK
              obtain ⟨x0, x1, x2, x3, x4, x5, x6, x7, x8, x9, x10, x11, x12, x13, x14, x15, x16, x17, x18, x19, x20, x21, x22, x23, x24, x25, x26, rfl⟩ := len27 hl
              obtain ⟨q3, e0, e1, e2⟩ := hB
              clear hd
              simp only [fill, Act.put, List.map_cons, List.map_nil, List.setIfInBounds_toArray, List.set_cons_succ, List.set_cons_zero] at hK ⊢
              go_wp2
              exact hK _ (fun u hu => by simpa using hu)
            case s1 =>
              intro xs w' hl _ hd hB K hK
              obtain ⟨x0, x1, x2, x3, x4, x5, x6, x7, x8, x9, x10, x11, x12, x13, x14, x15, x16, x17, x18, x19, x20, x21, x22, x23, x24, x25, x26, rfl⟩ := len27 hl
              obtain rfl : x0 = .pointer (some ⟨w2.heap.size, 3, none⟩) := by simpa using hd ⟨0, .data⟩ (by simp) rfl (by decide) (by decide) (by decide) _ rfl
              obtain ⟨q3, e0, e1, e2⟩ := hB
              clear hd
              simp only [fill, Act.put, List.map_cons, List.map_nil, List.setIfInBounds_toArray, List.set_cons_succ, List.set_cons_zero] at hK ⊢
              go_wp2
              exact hK _ (fun u hu => by simpa using hu)
            case s2 =>
              intro xs w' hl _ hd hB K hK
              obtain ⟨x0, x1, x2, x3, x4, x5, x6, x7, x8, x9, x10, x11, x12, x13, x14, x15, x16, x17, x18, x19, x20, x21, x22, x23, x24, x25, x26, rfl⟩ := len27 hl
              obtain ⟨q3, e0, e1, e2⟩ := hB
              clear hd
              simp only [fill, Act.put, List.map_cons, List.map_nil, List.setIfInBounds_toArray, List.set_cons_succ, List.set_cons_zero] at hK ⊢
              go_wp2
              exact hK _ (fun u hu => by simpa using hu)
            case s3 =>
              intro xs w' hl _ hd hB K hK
              obtain ⟨x0, x1, x2, x3, x4, x5, x6, x7, x8, x9, x10, x11, x12, x13, x14, x15, x16, x17, x18, x19, x20, x21, x22, x23, x24, x25, x26, rfl⟩ := len27 hl
              obtain ⟨q3, e0, e1, e2⟩ := hB
              clear hd
              simp only [fill, Act.put, List.map_cons, List.map_nil, List.setIfInBounds_toArray, List.set_cons_succ, List.set_cons_zero] at hK ⊢
              go_wp2
              exact hK _ (fun u hu => by simpa using hu)
            case s4 =>
              intro xs w' hl _ hd hB K hK
              obtain ⟨x0, x1, x2, x3, x4, x5, x6, x7, x8, x9, x10, x11, x12, x13, x14, x15, x16, x17, x18, x19, x20, x21, x22, x23, x24, x25, x26, rfl⟩ := len27 hl
              obtain rfl : x2 = .slice (some ⟨b1, off1, none⟩) l.length cap := by simpa using hd ⟨2, .data⟩ (by simp) rfl (by decide) (by decide) (by decide) _ rfl
              obtain rfl : x3 = .int .i64 (k : Int) := by simpa using hd ⟨3, .data⟩ (by simp) rfl (by decide) (by decide) (by decide) _ rfl
              obtain ⟨q3, e0, e1, e2⟩ := hB
              clear hd
              simp only [fill, Act.put, List.map_cons, List.map_nil, List.setIfInBounds_toArray, List.set_cons_succ, List.set_cons_zero] at hK ⊢
              go_wp2
              exact hK _ (fun u hu => by simpa using hu)
            case s5 =>
              intro xs w' hl _ hd hB K hK
              obtain ⟨x0, x1, x2, x3, x4, x5, x6, x7, x8, x9, x10, x11, x12, x13, x14, x15, x16, x17, x18, x19, x20, x21, x22, x23, x24, x25, x26, rfl⟩ := len27 hl
              obtain rfl : x4 = .pointer (some ⟨b1, off1 + k * 4, none⟩) := by simpa using hd ⟨4, .data⟩ (by simp) rfl (by decide) (by decide) (by decide) _ rfl
              obtain ⟨q3, e0, e1, e2⟩ := hB
              clear hd
              simp only [fill, Act.put, List.map_cons, List.map_nil, List.setIfInBounds_toArray, List.set_cons_succ, List.set_cons_zero] at hK ⊢
              go_wp2
              exact hK _ (fun u hu => by simpa using hu)
            case s6 =>
              intro xs w' hl _ hd hB K hK
              obtain ⟨x0, x1, x2, x3, x4, x5, x6, x7, x8, x9, x10, x11, x12, x13, x14, x15, x16, x17, x18, x19, x20, x21, x22, x23, x24, x25, x26, rfl⟩ := len27 hl
              obtain rfl : x5 = .pointer (some ⟨b1, off1 + k * 4, none⟩) := by simpa using hd ⟨5, .data⟩ (by simp) rfl (by decide) (by decide) (by decide) _ rfl
              obtain ⟨q3, e0, e1, e2⟩ := hB
              clear hd
              simp only [fill, Act.put, List.map_cons, List.map_nil, List.setIfInBounds_toArray, List.set_cons_succ, List.set_cons_zero] at hK ⊢
              go_wp2
              exact hK _ (fun u hu => by simpa using hu)
            case s7 =>
              intro xs w' hl _ hd hB K hK
              obtain ⟨x0, x1, x2, x3, x4, x5, x6, x7, x8, x9, x10, x11, x12, x13, x14, x15, x16, x17, x18, x19, x20, x21, x22, x23, x24, x25, x26, rfl⟩ := len27 hl
              obtain ⟨q3, e0, e1, e2⟩ := hB
              clear hd
              simp only [fill, Act.put, List.map_cons, List.map_nil, List.setIfInBounds_toArray, List.set_cons_succ, List.set_cons_zero] at hK ⊢
              go_wp2
              exact hK _ (fun u hu => by simpa using hu)
            case s8 =>
              intro xs w' hl _ hd hB K hK
              obtain ⟨x0, x1, x2, x3, x4, x5, x6, x7, x8, x9, x10, x11, x12, x13, x14, x15, x16, x17, x18, x19, x20, x21, x22, x23, x24, x25, x26, rfl⟩ := len27 hl
              obtain ⟨q3, e0, e1, e2⟩ := hB
              clear hd
              simp only [fill, Act.put, List.map_cons, List.map_nil, List.setIfInBounds_toArray, List.set_cons_succ, List.set_cons_zero] at hK ⊢
              go_wp2
              exact hK _ (fun u hu => by simpa using hu)
            case s9 =>
              intro xs w' hl _ hd hB K hK
              obtain ⟨x0, x1, x2, x3, x4, x5, x6, x7, x8, x9, x10, x11, x12, x13, x14, x15, x16, x17, x18, x19, x20, x21, x22, x23, x24, x25, x26, rfl⟩ := len27 hl
              obtain rfl : x7 = .slice (some ⟨b1, off1, none⟩) l.length cap := by simpa using hd ⟨7, .data⟩ (by simp) rfl (by decide) (by decide) (by decide) _ rfl
              obtain rfl : x8 = .int .i64 (k : Int) := by simpa using hd ⟨8, .data⟩ (by simp) rfl (by decide) (by decide) (by decide) _ rfl
              obtain ⟨q3, e0, e1, e2⟩ := hB
              clear hd
              simp only [fill, Act.put, List.map_cons, List.map_nil, List.setIfInBounds_toArray, List.set_cons_succ, List.set_cons_zero] at hK ⊢
              go_wp2
              exact hK _ (fun u hu => by simpa using hu)
            case s10 =>
              intro xs w' hl _ hd hB K hK
              obtain ⟨x0, x1, x2, x3, x4, x5, x6, x7, x8, x9, x10, x11, x12, x13, x14, x15, x16, x17, x18, x19, x20, x21, x22, x23, x24, x25, x26, rfl⟩ := len27 hl
              obtain rfl : x9 = .pointer (some ⟨b1, off1 + k * 4, none⟩) := by simpa using hd ⟨9, .data⟩ (by simp) rfl (by decide) (by decide) (by decide) _ rfl
              obtain ⟨q3, e0, e1, e2⟩ := hB
              clear hd
              simp only [fill, Act.put, List.map_cons, List.map_nil, List.setIfInBounds_toArray, List.set_cons_succ, List.set_cons_zero] at hK ⊢
              go_wp2
              exact hK _ (fun u hu => by simpa using hu)
            case s11 =>
              intro xs w' hl _ hd hB K hK
              obtain ⟨x0, x1, x2, x3, x4, x5, x6, x7, x8, x9, x10, x11, x12, x13, x14, x15, x16, x17, x18, x19, x20, x21, x22, x23, x24, x25, x26, rfl⟩ := len27 hl
              obtain rfl : x10 = .pointer (some ⟨b1, off1 + k * 4 + 1, none⟩) := by simpa using hd ⟨10, .data⟩ (by simp) rfl (by decide) (by decide) (by decide) _ rfl
              obtain ⟨q3, e0, e1, e2⟩ := hB
              clear hd
              simp only [fill, Act.put, List.map_cons, List.map_nil, List.setIfInBounds_toArray, List.set_cons_succ, List.set_cons_zero] at hK ⊢
              go_wp2
              exact hK _ (fun u hu => by simpa using hu)
            case s12 =>
              intro xs w' hl _ hd hB K hK
              obtain ⟨x0, x1, x2, x3, x4, x5, x6, x7, x8, x9, x10, x11, x12, x13, x14, x15, x16, x17, x18, x19, x20, x21, x22, x23, x24, x25, x26, rfl⟩ := len27 hl
              obtain ⟨q3, e0, e1, e2⟩ := hB
              clear hd
              simp only [fill, Act.put, List.map_cons, List.map_nil, List.setIfInBounds_toArray, List.set_cons_succ, List.set_cons_zero] at hK ⊢
              go_wp2
              exact hK _ (fun u hu => by simpa using hu)
            case s13 =>
              intro xs w' hl _ hd hB K hK
              obtain ⟨x0, x1, x2, x3, x4, x5, x6, x7, x8, x9, x10, x11, x12, x13, x14, x15, x16, x17, x18, x19, x20, x21, x22, x23, x24, x25, x26, rfl⟩ := len27 hl
              obtain ⟨q3, e0, e1, e2⟩ := hB
              clear hd
              simp only [fill, Act.put, List.map_cons, List.map_nil, List.setIfInBounds_toArray, List.set_cons_succ, List.set_cons_zero] at hK ⊢
              go_wp2
              exact hK _ (fun u hu => by simpa using hu)
            case s14 =>
              intro xs w' hl _ hd hB K hK
              obtain ⟨x0, x1, x2, x3, x4, x5, x6, x7, x8, x9, x10, x11, x12, x13, x14, x15, x16, x17, x18, x19, x20, x21, x22, x23, x24, x25, x26, rfl⟩ := len27 hl
              obtain rfl : x12 = .slice (some ⟨b1, off1, none⟩) l.length cap := by simpa using hd ⟨12, .data⟩ (by simp) rfl (by decide) (by decide) (by decide) _ rfl
              obtain rfl : x13 = .int .i64 (k : Int) := by simpa using hd ⟨13, .data⟩ (by simp) rfl (by decide) (by decide) (by decide) _ rfl
              obtain ⟨q3, e0, e1, e2⟩ := hB
              clear hd
              simp only [fill, Act.put, List.map_cons, List.map_nil, List.setIfInBounds_toArray, List.set_cons_succ, List.set_cons_zero] at hK ⊢
              go_wp2
              exact hK _ (fun u hu => by simpa using hu)
            case s15 =>
              intro xs w' hl _ hd hB K hK
              obtain ⟨x0, x1, x2, x3, x4, x5, x6, x7, x8, x9, x10, x11, x12, x13, x14, x15, x16, x17, x18, x19, x20, x21, x22, x23, x24, x25, x26, rfl⟩ := len27 hl
              obtain rfl : x14 = .pointer (some ⟨b1, off1 + k * 4, none⟩) := by simpa using hd ⟨14, .data⟩ (by simp) rfl (by decide) (by decide) (by decide) _ rfl
              obtain ⟨q3, e0, e1, e2⟩ := hB
              clear hd
              simp only [fill, Act.put, List.map_cons, List.map_nil, List.setIfInBounds_toArray, List.set_cons_succ, List.set_cons_zero] at hK ⊢
              go_wp2
              exact hK _ (fun u hu => by simpa using hu)
            case s16 =>
              intro xs w' hl _ hd hB K hK
              obtain ⟨x0, x1, x2, x3, x4, x5, x6, x7, x8, x9, x10, x11, x12, x13, x14, x15, x16, x17, x18, x19, x20, x21, x22, x23, x24, x25, x26, rfl⟩ := len27 hl
              obtain rfl : x15 = .pointer (some ⟨b1, off1 + k * 4 + 2, none⟩) := by simpa using hd ⟨15, .data⟩ (by simp) rfl (by decide) (by decide) (by decide) _ rfl
              obtain ⟨q3, e0, e1, e2⟩ := hB
              clear hd
              simp only [fill, Act.put, List.map_cons, List.map_nil, List.setIfInBounds_toArray, List.set_cons_succ, List.set_cons_zero] at hK ⊢
              go_wp2
              exact hK _ (fun u hu => by simpa using hu)
            case s17 =>
              intro xs w' hl _ hd hB K hK
              obtain ⟨x0, x1, x2, x3, x4, x5, x6, x7, x8, x9, x10, x11, x12, x13, x14, x15, x16, x17, x18, x19, x20, x21, x22, x23, x24, x25, x26, rfl⟩ := len27 hl
              obtain rfl : x16 = .bool true := by simpa using hd ⟨16, .data⟩ (by simp) rfl (by decide) (by decide) (by decide) _ rfl
              obtain ⟨q3, e0, e1, e2⟩ := hB
              clear hd
              simp only [fill, Act.put, List.map_cons, List.map_nil, List.setIfInBounds_toArray, List.set_cons_succ, List.set_cons_zero] at hK ⊢
              go_wp2
              exact hK _ (fun u hu => by simpa using hu)
            case s18 =>
              intro xs w' hl hold hd hB K hK
              clear hold
              have f17 : xs[17]? = some (.bool true) := hd ⟨17, .guard⟩ (by simp) rfl (by decide) (by decide) (by decide) _ rfl
              clear hd
              obtain ⟨x0, x1, x2, x3, x4, x5, x6, x7, x8, x9, x10, x11, x12, x13, x14, x15, x16, x17, x18, x19, x20, x21, x22, x23, x24, x25, x26, hxs⟩ := len27 hl
              have g17 : x17 = .bool true := by rw [hxs] at f17; simpa using f17
              rw [g17] at hxs
              clear hl f17 g17
              obtain ⟨q3, e0, e1, e2⟩ := hB
              simp only [hxs, fill, Act.put, List.map_cons, List.map_nil, List.setIfInBounds_toArray, List.set_cons_succ, List.set_cons_zero] at hK ⊢
              refine wpList_guarded (by kernel_rfl) ?_
              go_wp2
              exact hK _ (fun u hu => by simpa using hu)
            case s19 =>
              intro xs w' hl hold hd hB K hK
              clear hold
              have f17 : xs[17]? = some (.bool true) := hd ⟨17, .guard⟩ (by simp) rfl (by decide) (by decide) (by decide) _ rfl
              clear hd
              obtain ⟨x0, x1, x2, x3, x4, x5, x6, x7, x8, x9, x10, x11, x12, x13, x14, x15, x16, x17, x18, x19, x20, x21, x22, x23, x24, x25, x26, hxs⟩ := len27 hl
              have g17 : x17 = .bool true := by rw [hxs] at f17; simpa using f17
              rw [g17] at hxs
              clear hl f17 g17
              obtain ⟨q3, e0, e1, e2⟩ := hB
              simp only [hxs, fill, Act.put, List.map_cons, List.map_nil, List.setIfInBounds_toArray, List.set_cons_succ, List.set_cons_zero] at hK ⊢
              refine wpList_guarded (by kernel_rfl) ?_
              go_wp2
              exact hK _ (fun u hu => by simpa using hu)
            case s20 =>
              intro xs w' hl hold hd hB K hK
              clear hold
              have f18 : xs[18]? = some (.int .i64 (k : Int)) := hd ⟨18, .data⟩ (by simp) rfl (by decide) (by decide) (by decide) _ rfl
              have f19 : xs[19]? = some (.int .i64 (n : Int)) := hd ⟨19, .data⟩ (by simp) rfl (by decide) (by decide) (by decide) _ rfl
              have f17 : xs[17]? = some (.bool true) := hd ⟨17, .guard⟩ (by simp) rfl (by decide) (by decide) (by decide) _ rfl
              clear hd
              obtain ⟨x0, x1, x2, x3, x4, x5, x6, x7, x8, x9, x10, x11, x12, x13, x14, x15, x16, x17, x18, x19, x20, x21, x22, x23, x24, x25, x26, hxs⟩ := len27 hl
              have g18 : x18 = .int .i64 (k : Int) := by rw [hxs] at f18; simpa using f18
              have g19 : x19 = .int .i64 (n : Int) := by rw [hxs] at f19; simpa using f19
              have g17 : x17 = .bool true := by rw [hxs] at f17; simpa using f17
              rw [g18, g19, g17] at hxs
              clear hl f18 g18 f19 g19 f17 g17
              obtain ⟨q3, e0, e1, e2⟩ := hB
              simp only [hxs, fill, Act.put, List.map_cons, List.map_nil, List.setIfInBounds_toArray, List.set_cons_succ, List.set_cons_zero] at hK ⊢
              refine wpList_guarded (by kernel_rfl) ?_
              go_wp2
              exact hK _ (fun u hu => by simpa using hu)
            case s21 =>
              intro xs w' hl _ hd hB K hK
              obtain ⟨x0, x1, x2, x3, x4, x5, x6, x7, x8, x9, x10, x11, x12, x13, x14, x15, x16, x17, x18, x19, x20, x21, x22, x23, x24, x25, x26, rfl⟩ := len27 hl
              obtain rfl : x17 = .bool true := by simpa using hd ⟨17, .data⟩ (by simp) rfl (by decide) (by decide) (by decide) _ rfl
              obtain rfl : x20 = .bool (decide (n < k)) := by simpa using hd ⟨20, .data⟩ (by simp) rfl (by decide) (by decide) (by decide) _ rfl
              obtain ⟨q3, e0, e1, e2⟩ := hB
              clear hd
              simp only [fill, Act.put, List.map_cons, List.map_nil, List.setIfInBounds_toArray, List.set_cons_succ, List.set_cons_zero] at hK ⊢
              go_wp2
              exact hK _ (fun u hu => by simpa using hu)
            case s22 =>
              intro xs w' hl _ hd hB K hK
              obtain ⟨x0, x1, x2, x3, x4, x5, x6, x7, x8, x9, x10, x11, x12, x13, x14, x15, x16, x17, x18, x19, x20, x21, x22, x23, x24, x25, x26, rfl⟩ := len27 hl
              obtain rfl : x6 = .int .i64 l[k].kind := by simpa using hd ⟨6, .data⟩ (by simp) rfl (by decide) (by decide) (by decide) _ rfl
              obtain rfl : x11 = .string l[k].text := by simpa using hd ⟨11, .data⟩ (by simp) rfl (by decide) (by decide) (by decide) _ rfl
              obtain rfl : x21 = .bool (decide (n < k)) := by simpa using hd ⟨21, .data⟩ (by simp) rfl (by decide) (by decide) (by decide) _ rfl
              obtain ⟨q3, e0, e1, e2⟩ := hB
              clear hd
              simp only [fill, Act.put, List.map_cons, List.map_nil, List.setIfInBounds_toArray, List.set_cons_succ, List.set_cons_zero] at hK ⊢
              go_wp2
              exact hK _ (fun u hu => by simpa using hu)
            case s25 =>
              intro xs w' hl _ hd hB K hK
              obtain ⟨x0, x1, x2, x3, x4, x5, x6, x7, x8, x9, x10, x11, x12, x13, x14, x15, x16, x17, x18, x19, x20, x21, x22, x23, x24, x25, x26, rfl⟩ := len27 hl
              obtain ⟨q3, e0, e1, e2⟩ := hB
              clear hd
              simp only [fill, Act.put, List.map_cons, List.map_nil, List.setIfInBounds_toArray, List.set_cons_succ, List.set_cons_zero] at hK ⊢
              go_wp2
              exact hK _ (fun u hu => by simpa using hu)
            case sA =>
              intro xs hl hd K hK
              obtain ⟨x0, x1, x2, x3, x4, x5, x6, x7, x8, x9, x10, x11, x12, x13, x14, x15, x16, x17, x18, x19, x20, x21, x22, x23, x24, x25, x26, rfl⟩ := len27 hl
              obtain rfl : x22 = .agg #[.int .i64 l[k].kind, .string l[k].text, .bool (decide (n < k)), .slice none 0 0] := by simpa using hd ⟨22, .data⟩ (by simp) rfl (by decide) (by decide) (by decide) _ rfl
              clear hd
              simp only [fill, Act.put, List.map_cons, List.map_nil, List.setIfInBounds_toArray, List.set_cons_succ, List.set_cons_zero] at hK ⊢
              go_wp2
              exact hK
            case sB =>
              intro xs hl hd hva K hK
              obtain ⟨x0, x1, x2, x3, x4, x5, x6, x7, x8, x9, x10, x11, x12, x13, x14, x15, x16, x17, x18, x19, x20, x21, x22, x23, x24, x25, x26, rfl⟩ := len27 hl
              obtain rfl : x1 = .slice ab L.length cb := by simpa using hd ⟨1, .data⟩ (by simp) rfl (by decide) (by decide) (by decide) _ rfl
              obtain rfl : x23 = .slice (some ⟨wr.heap.size, 0, none⟩) 1 1 := by simpa using hva
              clear hd
              simp only [fill, Act.put, List.map_cons, List.map_nil, List.setIfInBounds_toArray, List.set_cons_succ, List.set_cons_zero] at hK ⊢
              refine wp_append_tokE rfl (.tmp 62) (.tmp 84) rfl wc.heap.size (.slice ab L.length cb) L rfl HEd.out l[k].kind l[k].text (decide (n < k)) none 0 0 [] [] rfl ⟨_, rfl, HKI.out.1, HKI.out.2, slice_empty sStr _ _ _ (by simp)⟩ (by simp) (by simp) (by have := HLn.out; omega) (by show wc.heap.size ≤ wr.heap.size; omega) ?_
              intro v' u' h1 h2
              exact hK v' u' ⟨h1, h2⟩
            case sC =>
              intro xs v w2u hl hd hvb hApp K hK
              obtain ⟨x0, x1, x2, x3, x4, x5, x6, x7, x8, x9, x10, x11, x12, x13, x14, x15, x16, x17, x18, x19, x20, x21, x22, x23, x24, x25, x26, rfl⟩ := len27 hl
              obtain rfl : x25 = .pointer (some ⟨w2.heap.size, 3, none⟩) := by simpa using hd ⟨25, .data⟩ (by simp) rfl (by decide) (by decide) (by decide) _ rfl
              obtain rfl : x24 = v := by simpa using hvb
              clear hd
              simp only [fill, Act.put, List.map_cons, List.map_nil, List.setIfInBounds_toArray, List.set_cons_succ, List.set_cons_zero] at hK ⊢
              obtain ⟨hA, hg⟩ := hApp
              obtain ⟨av, cv, hvv, -⟩ := hA.val
              rw [List.length_append, show ([(⟨[.int .i64 l[k].kind, .string l[k].text, .bool (decide (n < k)), .slice none 0 0], ⟨l[k].kind, l[k].text, (decide (n < k)), []⟩, []⟩ : Elem Tok)] : List (Elem Tok)).length = 1 from rfl] at hvv
              subst hvv
              have hMu := (hg.block w2.heap.size (show w2.heap.size < wr.heap.size by omega) (fun he => by have := hown _ he.symm; omega)).trans HMr.out
              have c3 : w2u.cell? ⟨w2.heap.size, 3, none⟩ = some (.slice ab L.length cb) := cell_of_row _ _ 3 _ _ _ hMu
              have f3 : w2u.frozen? ⟨w2.heap.size, 3, none⟩ = false := frozen_of_row _ _ 3 _ _ hMu
              go_wp2
              exact hK undef _ ⟨_, ⟨hA, hg⟩, rfl⟩
            case done =>
              intro xs v w3 hl hd hva hvb hFin
              obtain ⟨x0, x1, x2, x3, x4, x5, x6, x7, x8, x9, x10, x11, x12, x13, x14, x15, x16, x17, x18, x19, x20, x21, x22, x23, x24, x25, x26, rfl⟩ := len27 hl
              clear hd hva hvb
              simp only [fill, Act.put, List.map_cons, List.map_nil, List.setIfInBounds_toArray, List.set_cons_succ, List.set_cons_zero]
              obtain ⟨u, ⟨hA, hg⟩, rfl⟩ := hFin
              have kb : ∀ b, b < wr.heap.size → (Value.slice ab L.length cb).ownBlock ≠ some b → u.heap[b]? = wr.heap[b]? := fun b hb hn => hg.block b (show b < wr.heap.size by omega) (fun he => hn he.symm)
              have hMu := (kb w2.heap.size (by omega) (fun he => by have := hown _ he; omega)).trans HMr.out
              have HM6 := Lib.hid (blk_set hMu 3 v)
              have HE6 := Lib.hid (hA.same (w' := u.setCell ⟨w2.heap.size, 3, none⟩ v) fun b hb hl => Below.heap_setCell _ _ _ _ (by show b ≠ w2.heap.size; omega))
              have hus : wr.heap.size ≤ u.heap.size := hg.size
              have HK6 : Hid (Kept [w2.heap.size] wc (u.setCell ⟨w2.heap.size, 3, none⟩ v)) := ⟨by have h1 : u.os = wr.os := hg.os; exact h1.trans HKr.out.os, by have h1 : u.tape = wr.tape := hg.tape; exact h1.trans HKr.out.tape, by have h1 : u.output = wr.output := hg.output; exact h1.trans HKr.out.output, by rw [size_setCell]; omega, fun b hb hn => by
                have hne : b ≠ w2.heap.size := by simpa using hn
                exact (Below.heap_setCell _ _ _ _ hne).trans ((kb b (by omega) (fun he => by have := hown _ he; omega)).trans (HKr.out.block b hb hn))⟩
              have HL6 : Hid ((L ++ [(⟨[.int .i64 l[k].kind, .string l[k].text, .bool (decide (n < k)), .slice none 0 0], ⟨l[k].kind, l[k].text, (decide (n < k)), []⟩, []⟩ : Elem Tok)]).length = k + 1 - n) := by show _ = _; rw [List.length_append, HLn.out]; show _ + 1 = _; omega
              have HD6 : Hid ((L ++ [(⟨[.int .i64 l[k].kind, .string l[k].text, .bool (decide (n < k)), .slice none 0 0], ⟨l[k].kind, l[k].text, (decide (n < k)), []⟩, []⟩ : Elem Tok)]).map (·.d) = (bodyFrom l n).take (k + 1 - n)) := by show _ = _; rw [HT.out, List.map_append, HD.out]; simp
              have HF6 : Hid (∀ x ∈ L ++ [(⟨[.int .i64 l[k].kind, .string l[k].text, .bool (decide (n < k)), .slice none 0 0], ⟨l[k].kind, l[k].text, (decide (n < k)), []⟩, []⟩ : Elem Tok)], x.fp = []) := fun x hx => by
                rcases List.mem_append.1 hx with h | h
                · exact HFP.out x h
                · obtain rfl := List.mem_singleton.1 h; rfl
              clear hA hg kb hMu HMr HE HD HFP HKr HLn HT q3 e0 e1 e2
              go_wp2
              go_roundw
              case rel => exact ⟨k + 1, v, _, by omega, by omega, by go_num, HL6, HM6, HE6, HD6, HF6, HK6⟩
              case measure => simp [intOf]; omega
        · have hkl' : k = l.length := by omega
          have hd := HD.out
          rw [List.take_of_length_le (by rw [bodyFrom_len]; omega)] at hd
          obtain ⟨fpb, hRB, hOB⟩ := rowE_own HE.out HFP.out
          rw [hd] at hRB
          have hP := (sSlice sStr).kept HP.out (fun b hb hx => HPn.out (by have e : b = w2.heap.size := (by simpa using hx); exact e ▸ hb)) HKr.out
          have hO := HO.out.kept (fun b hb hx => HPn.out (by have e : b = w2.heap.size := (by simpa using hx); exact e ▸ hb)) HKr.out
          have hap : ∀ b ∈ fpp, b ∉ fpb := fun b h1 h2 => by have h3 := HPlt.out b h1; have h4 := (hOB.2 b h2).1; omega
          have HR : Hid (sMacro.R wr [.string nm, .bool fn, .slice ap ps.length cp, .slice ab L.length cb] ⟨nm, fn, ps, bodyFrom l n⟩ (fpp ++ fpb)) := ⟨_, _, fpp, fpb, rfl, okn, hP, hRB, rfl⟩
          have HOO := Lib.hid (Own.app (hO.lower (by omega : w.heap.size ≤ _)) (hOB.lower (by omega : w.heap.size ≤ _)) hap)
          have hnw : w.heap.size ∉ fpp ++ fpb := fun hx => by
            rcases List.mem_append.1 hx with h | h
            · have := (HO.out.2 _ h).1; omega
            · have := (hOB.2 _ h).1; omega
          have HBr := Lib.hid (HBc.out.trans (HKr.out.below (lo := w.heap.size) (by intro b hb; have e : b = w2.heap.size := (by simpa using hb); omega) (by omega)))
          have HZr := Lib.hid ((HKr.out.block w.heap.size (by omega) (by simp; omega)).trans HZc.out)
          have q0 : wr.cell? ⟨w2.heap.size, 0, none⟩ = some (.string nm) := cell_of_row _ _ 0 _ _ _ HMr.out
          have q1 : wr.cell? ⟨w2.heap.size, 1, none⟩ = some (.bool fn) := cell_of_row _ _ 1 _ _ _ HMr.out
          have q2 : wr.cell? ⟨w2.heap.size, 2, none⟩ = some (.slice ap ps.length cp) := cell_of_row _ _ 2 _ _ _ HMr.out
          have q3 : wr.cell? ⟨w2.heap.size, 3, none⟩ = some (.slice ab L.length cb) := cell_of_row _ _ 3 _ _ _ HMr.out
          clear hd hRB hOB hP hO hap HEc HD HE HFP HKr HLn
          go_wp2_with fail
          refine (spec_MacroValid _ _ _ _ HR.out).mono ?_
          rintro e w5 ⟨rfl, hb5⟩
          have hB5 := HBr.out.trans (hb5.mono HBr.out.size)
          have HZ5 := Lib.hid (mbox HZr.out hb5)
          have HM5 := Lib.hid (mbox HMr.out hb5)
          have HR5 := Lib.hid (sMacro.below HR.out hb5)
          have HO5 := Lib.hid (HOO.out.grow hb5)
          clear q0 q1 q2 q3 hb5 HR HOO HZr HMr
          cases hok : macOk ⟨nm, fn, ps, bodyFrom l n⟩
          · have HFF := Lib.hid (HF.out.trans (chk_no hok))
            clear hok
            have z0 : w5.cell? ⟨w.heap.size, 0, none⟩ = some (.string ⟨#[]⟩) := cell_of_row _ _ 0 _ _ _ HZ5.out
            have zf0 : w5.frozen? ⟨w.heap.size, 0, none⟩ = false := frozen_of_row _ _ 0 _ _ HZ5.out
            have z1 : w5.cell? ⟨w.heap.size, 1, none⟩ = some (.bool false) := cell_of_row _ _ 1 _ _ _ HZ5.out
            have zf1 : w5.frozen? ⟨w.heap.size, 1, none⟩ = false := frozen_of_row _ _ 1 _ _ HZ5.out
            have z2 : w5.cell? ⟨w.heap.size, 2, none⟩ = some (.slice none 0 0) := cell_of_row _ _ 2 _ _ _ HZ5.out
            have zf2 : w5.frozen? ⟨w.heap.size, 2, none⟩ = false := frozen_of_row _ _ 2 _ _ HZ5.out
            have z3 : w5.cell? ⟨w.heap.size, 3, none⟩ = some (.slice none 0 0) := cell_of_row _ _ 3 _ _ _ HZ5.out
            have zf3 : w5.frozen? ⟨w.heap.size, 3, none⟩ = false := frozen_of_row _ _ 3 _ _ HZ5.out
            have HS := Lib.hid (blk_set (blk_set (blk_set (blk_set HZ5.out 0 (.string ⟨#[]⟩)) 1 (.bool false)) 2 (.slice none 0 0)) 3 (.slice none 0 0))
            have HBF := Lib.hid ((((hB5.setCell (p := ⟨w.heap.size, 0, none⟩) (Nat.le_refl _) (.string ⟨#[]⟩)).setCell (p := ⟨w.heap.size, 1, none⟩) (Nat.le_refl _) (.bool false)).setCell (p := ⟨w.heap.size, 2, none⟩) (Nat.le_refl _) (.slice none 0 0)).setCell (p := ⟨w.heap.size, 3, none⟩) (Nat.le_refl _) (.slice none 0 0))
            go_wp2
            refine bodyPost_ret (results_cell2 rfl _ _ w.heap.size _ _ _ _ rfl HS.out Try.underlying27 rfl (by kernel_rfl)) rfl ?_
            exact mof_no HFF.out HBF.out
          · have HFF := Lib.hid (HF.out.trans (chk_yes hok))
            clear hok
            have q0 : w5.cell? ⟨w2.heap.size, 0, none⟩ = some (.string nm) := cell_of_row _ _ 0 _ _ _ HM5.out
            have q1 : w5.cell? ⟨w2.heap.size, 1, none⟩ = some (.bool fn) := cell_of_row _ _ 1 _ _ _ HM5.out
            have q2 : w5.cell? ⟨w2.heap.size, 2, none⟩ = some (.slice ap ps.length cp) := cell_of_row _ _ 2 _ _ _ HM5.out
            have q3 : w5.cell? ⟨w2.heap.size, 3, none⟩ = some (.slice ab L.length cb) := cell_of_row _ _ 3 _ _ _ HM5.out
            have z0 : w5.cell? ⟨w.heap.size, 0, none⟩ = some (.string ⟨#[]⟩) := cell_of_row _ _ 0 _ _ _ HZ5.out
            have z1 : w5.cell? ⟨w.heap.size, 1, none⟩ = some (.bool false) := cell_of_row _ _ 1 _ _ _ HZ5.out
            have z2 : w5.cell? ⟨w.heap.size, 2, none⟩ = some (.slice none 0 0) := cell_of_row _ _ 2 _ _ _ HZ5.out
            have z3 : w5.cell? ⟨w.heap.size, 3, none⟩ = some (.slice none 0 0) := cell_of_row _ _ 3 _ _ _ HZ5.out
            have zf0 : w5.frozen? ⟨w.heap.size, 0, none⟩ = false := frozen_of_row _ _ 0 _ _ HZ5.out
            have zf1 : w5.frozen? ⟨w.heap.size, 1, none⟩ = false := frozen_of_row _ _ 1 _ _ HZ5.out
            have zf2 : w5.frozen? ⟨w.heap.size, 2, none⟩ = false := frozen_of_row _ _ 2 _ _ HZ5.out
            have zf3 : w5.frozen? ⟨w.heap.size, 3, none⟩ = false := frozen_of_row _ _ 3 _ _ HZ5.out
            have HS := Lib.hid (blk_set (blk_set (blk_set (blk_set HZ5.out 0 (.string nm)) 1 (.bool fn)) 2 (.slice ap ps.length cp)) 3 (.slice ab L.length cb))
            have HBF := Lib.hid ((((hB5.setCell (p := ⟨w.heap.size, 0, none⟩) (Nat.le_refl _) (.string nm)).setCell (p := ⟨w.heap.size, 1, none⟩) (Nat.le_refl _) (.bool fn)).setCell (p := ⟨w.heap.size, 2, none⟩) (Nat.le_refl _) (.slice ap ps.length cp)).setCell (p := ⟨w.heap.size, 3, none⟩) (Nat.le_refl _) (.slice ab L.length cb))
            have HRF := Lib.hid (sMacro.setB (sMacro.setB (sMacro.setB (sMacro.setB HR5.out hnw 0 (.string nm)) hnw 1 (.bool fn)) hnw 2 (.slice ap ps.length cp)) hnw 3 (.slice ab L.length cb))
            have HOF := Lib.hid ((((HO5.out.setCell ⟨w.heap.size, 0, none⟩ (.string nm)).setCell ⟨w.heap.size, 1, none⟩ (.bool fn)).setCell ⟨w.heap.size, 2, none⟩ (.slice ap ps.length cp)).setCell ⟨w.heap.size, 3, none⟩ (.slice ab L.length cb))
            clear HR5 HO5 HM5 HZ5 hB5
            go_wp2
            refine bodyPost_ret (results_cell2 rfl _ _ w.heap.size _ _ _ _ rfl HS.out Try.underlying27 rfl (by kernel_rfl)) rfl ?_
            exact mof_yes (cs := [.string nm, .bool fn, .slice ap ps.length cp, .slice ab L.length cb]) HFF.out HRF.out HOF.out HBF.out

end Go.Proofs.Ytdnjpjiepnhhhaa

/- strings.Builder at this program, walked here: what its writers leave. (The library's own contracts don't fit this translation: a builder's copy check ends otherwise.) -/
namespace Go.Proofs.Ytdnjpjiepnhhhaa
open Go.RowKit

abbrev BldAt (B b : Nat) (p : Value) (bs : List Value) (w : World) : Prop := Lib.BuilderAtF 88 5 B b p bs w
abbrev IsBld (B b : Nat) (bs : List Value) (w : World) : Prop := Lib.IsBuilderF 88 5 B b bs w
/-- A builder that has been written to; nothing else has turned. -/
def BldTo (B b : Nat) (bs : List Value) (w w' : World) : Prop :=
  BldAt B b (.pointer (some ⟨b, 0, none⟩)) bs w' ∧ Below B w w' ∧ Lib.OthersKept 5 (some b) w w'

theorem bld_size : ∃ j, Try.prog.info? 88 = some j ∧ j.size = 2 := by
  have h : (Try.prog.info? 88).map (·.size) = some 2 := by kernel_rfl
  exact Option.map_eq_some_iff.1 h
theorem bld_lies : liesAt Try.prog Try.prog.depth 88 (2 / Try.prog.cellsOf 88) 0 88 1 = true := by kernel_rfl
theorem byte_info : ∃ i, Try.prog.info? 5 = some i ∧ i.zero = some (.int .u8 0) ∧ i.size = 1 ∧ i.bytes = 1 := by
  have h : (Try.prog.info? 5).map (fun i => (i.zero, i.size, i.bytes)) = some (some (.int .u8 0), 1, 1) := by kernel_rfl
  obtain ⟨i, h1, h2⟩ := Option.map_eq_some_iff.1 h
  simp only [Prod.mk.injEq] at h2
  exact ⟨i, h1, h2.1, h2.2.1, h2.2.2⟩

theorem ne_self (b : Nat) (w : World) : (binOp .neq 86 (.pointer (some ⟨b, 0, none⟩)) (.pointer (some ⟨b, 0, none⟩))).run Try.prog w = .ok (.bool false) w := by
  obtain ⟨j, hj, _⟩ := bld_size
  exact Lib.run_neq_ptr_same w _ Try.underlying86 hj
theorem to_unsafe (b : Nat) (w : World) (hsh : w.shape? b = some (88, 2)) : (convert 86 109 (.pointer (some ⟨b, 0, none⟩))).run Try.prog w = .ok (.pointer (some ⟨b, 0, none⟩)) w := by
  obtain ⟨j, hj, hjs⟩ := bld_size
  exact Lib.run_to_unsafe w ⟨b, 0, none⟩ Try.underlying86 Try.underlying109 hj (by rw [hjs]; decide) hsh (Nat.zero_lt_succ 1)
theorem from_unsafe (b : Nat) (w : World) (hsh : w.shape? b = some (88, 2)) : (convert 109 86 (.pointer (some ⟨b, 0, none⟩))).run Try.prog w = .ok (.pointer (some ⟨b, 0, none⟩)) w := by
  obtain ⟨j, hj, hjs⟩ := bld_size
  exact Lib.run_from_unsafe w ⟨b, 0, none⟩ Try.underlying109 Try.underlying86 hj hsh bld_lies
theorem no_escape (b : Nat) (w : World) : (callFunc 104 #[.pointer (some ⟨b, 0, none⟩)]).run Try.prog w = .ok (.value (.pointer (some ⟨b, 0, none⟩))) w := by
  rw [run_callFunc_extern Try.func104 (by kernel_rfl) (by kernel_rfl) (by kernel_rfl) (e := Extern.AbiNoEscape.same) (by kernel_rfl), Lib.run_noEscape]
  rfl

set_option maxHeartbeats 1000000 in
set_option maxRecDepth 100000 in
theorem check_used (b : Nat) (w : World) (h0 : w.cell? ⟨b, 0, none⟩ = some (.pointer (some ⟨b, 0, none⟩))) :
    Calls Try.prog 92 #[.pointer (some ⟨b, 0, none⟩)] w fun e w' => e = .returned (.tuple #[]) ∧ w' = w := by
  have r1 := ne_self b w
  go_enter Try.func92, Try.ntmps92
  go_wp2
  go_end0
  exact ⟨rfl, rfl⟩

set_option maxHeartbeats 1000000 in
set_option maxRecDepth 100000 in
theorem check_fresh (b : Nat) (w : World) (h0 : w.cell? ⟨b, 0, none⟩ = some (.pointer none)) (hsh : w.shape? b = some (88, 2)) (hfz : w.frozen? ⟨b, 0, none⟩ = false) :
    Calls Try.prog 92 #[.pointer (some ⟨b, 0, none⟩)] w fun e w' => e = .returned (.tuple #[]) ∧ w' = w.setCell ⟨b, 0, none⟩ (.pointer (some ⟨b, 0, none⟩)) := by
  have r1 := to_unsafe b w hsh
  have r2 := no_escape b w
  have r3 := from_unsafe b w hsh
  have c0 : (w.setCell ⟨b, 0, none⟩ (.pointer (some ⟨b, 0, none⟩))).cell? ⟨b, 0, none⟩ = some (.pointer (some ⟨b, 0, none⟩)) := World.cell?_setCell_same _ _ _ h0
  have r4 := ne_self b (w.setCell ⟨b, 0, none⟩ (.pointer (some ⟨b, 0, none⟩)))
  go_enter Try.func92, Try.ntmps92
  go_wp2
  go_end0
  exact ⟨rfl, rfl⟩

theorem bld_check (B b : Nat) (bs : List Value) (w : World) (h : IsBld B b bs w) :
    Calls Try.prog 92 #[.pointer (some ⟨b, 0, none⟩)] w fun e w' => e = .returned (.tuple #[]) ∧ BldTo B b bs w w' := by
  rcases h with h | h
  · refine (check_fresh b w h.cell0 h.shape h.frozen0).mono ?_
    rintro e w' ⟨rfl, rfl⟩
    exact ⟨rfl, h.used _, (Below.refl B w).setCell (p := ⟨b, 0, none⟩) h.1 _, (Lib.OthersKept.refl _ _ w).setCell ⟨b, 0, none⟩ rfl _⟩
  · refine (check_used b w h.cell0).mono ?_
    rintro e w' ⟨rfl, rfl⟩
    exact ⟨rfl, h, Below.refl B _, Lib.OthersKept.refl _ _ _⟩

set_option maxHeartbeats 2000000 in
set_option maxRecDepth 100000 in
theorem bld_byte (B b : Nat) (bs : List Value) (c : Int) (w : World) (h : IsBld B b bs w) (hlen : bs.length ≤ 1048576) (hBw : B ≤ w.heap.size) :
    Calls Try.prog 79 #[.pointer (some ⟨b, 0, none⟩), .int .u8 c] w fun e w' => e = .returned .nilIface ∧ BldTo B b (bs ++ [.int .u8 c]) w w' := by
  obtain ⟨i0, hi, hz0, hz1, hz2⟩ := byte_info
  go_enter Try.func79, Try.ntmps79
  go_wp2_with fail
  refine (bld_check B b bs _ h).mono ?_
  rintro e w1 ⟨rfl, ⟨hB, v, hbk, hown, hne⟩, hb1, hk1⟩
  have c0 : w1.cell? ⟨b, 0, none⟩ = some (.pointer (some ⟨b, 0, none⟩)) := by rw [Lib.cell_of_heap hbk]; rfl
  have c1 : w1.cell? ⟨b, 1, none⟩ = some v := by rw [Lib.cell_of_heap hbk]; rfl
  have hs1 := hb1.size
  go_wp2_with (at_builtin; refine wpList_append_ownF _ rfl _ _ 41 rfl B 5 i0 (.int .u8 0) 1 1 Try.underlying41 hi hz0 hz1 hz2 rfl (by decide) v bs.length bs rfl (hown.alloc _) ⟨w1.heap.size, 0, none⟩ 1 1 [.int .u8 c] rfl rfl ?c1 ?c2 ?c3 ?c4 ?c5 ?_)
  case c1 =>
    intro j u hj
    match j, hj with
    | 0, hj => simp at hj; subst hj; simp [Addr.add]
  case c2 => intro u hu; simp at hu; subst hu; rfl
  case c3 => unfold maxLen; omega
  case c4 => omega
  case c5 => simp; omega
  intro v' w2 hown' hgrow _
  have hlt : b < w1.heap.size := (Array.getElem?_eq_some_iff.1 hbk).1
  have hb2 : w2.heap[b]? = some (.cells #[.pointer (some ⟨b, 0, none⟩), v] 88 (0, 0)) := by
    rw [hgrow.block b (by simp; omega) (fun e => hne e.symm), Lib.alloc_old w1 _ b hlt]
    exact hbk
  have d0 : w2.cell? ⟨b, 0, none⟩ = some (.pointer (some ⟨b, 0, none⟩)) := by rw [Lib.cell_of_heap hb2]; rfl
  have d1 : w2.cell? ⟨b, 1, none⟩ = some v := by rw [Lib.cell_of_heap hb2]; rfl
  have f1 : w2.frozen? ⟨b, 1, none⟩ = false := Lib.frozen_of_heap hb2 1
  obtain ⟨g, cap, rfl⟩ : ∃ g cap, v' = .slice (some ⟨g, 0, none⟩) (bs.length + 1) cap := by
    rcases hown'.2 with ⟨_, h0⟩ | ⟨g, cap, cur, fz, hv, _⟩
    · omega
    · exact ⟨g, cap, hv⟩
  have HA : Hid (BldTo B b (bs ++ [.int .u8 c]) w (w2.setCell ⟨b, 1, none⟩ (.slice (some ⟨g, 0, none⟩) (bs.length + 1) cap))) := by
    refine ⟨Lib.BuilderAtF.put (T := 88) (e := 5) hB hb2 (bs' := bs ++ [.int .u8 c]) (by simpa using hown') (by decide), ?_, ((hk1.alloc _).grown hgrow (Lib.ownsRowF_kind (hown.alloc _))).setCell ⟨b, 1, none⟩ rfl _⟩
    exact ((hb1.alloc (by omega) _).grown hgrow (by simp; omega) (fun k hk => (hown.lt k hk).1)).setCell (p := ⟨b, 1, none⟩) hB _
  clear hown hown' hgrow hbk hb2 hb1 hk1
  go_wp2
  go_ret
  exact ⟨rfl, HA.out⟩

set_option maxHeartbeats 2000000 in
set_option maxRecDepth 100000 in
theorem bld_text (B b : Nat) (bs : List Value) (s : ByteArray) (w : World) (h : IsBld B b bs w) (hlen : bs.length + s.size ≤ 140737488355328) (hBw : B ≤ w.heap.size) :
    Calls Try.prog 76 #[.pointer (some ⟨b, 0, none⟩), .string s] w fun e w' => e = .returned (.tuple #[.int .i64 s.size, .nilIface]) ∧ BldTo B b (bs ++ Lib.strCells s) w w' := by
  obtain ⟨i0, hi, hz0, hz1, hz2⟩ := byte_info
  go_enter Try.func76, Try.ntmps76
  go_wp2_with fail
  refine (bld_check B b bs _ h).mono ?_
  rintro e w1 ⟨rfl, ⟨hB, v, hbk, hown, hne⟩, hb1, hk1⟩
  have c0 : w1.cell? ⟨b, 0, none⟩ = some (.pointer (some ⟨b, 0, none⟩)) := by rw [Lib.cell_of_heap hbk]; rfl
  have c1 : w1.cell? ⟨b, 1, none⟩ = some v := by rw [Lib.cell_of_heap hbk]; rfl
  have hs1 := hb1.size
  go_wp2_with (at_builtin; refine Lib.wpList_append_own_stringF _ rfl _ _ 41 9 rfl B 5 i0 Try.underlying41 Try.underlying9 hi hz0 hz1 hz2 v bs.length bs rfl hown s rfl ?c3 ?c4 ?c5 ?_)
  case c3 => unfold maxLen; omega
  case c4 => omega
  case c5 => omega
  intro v' w2 hown' hgrow _
  have hlt : b < w1.heap.size := (Array.getElem?_eq_some_iff.1 hbk).1
  have hb2 : w2.heap[b]? = some (.cells #[.pointer (some ⟨b, 0, none⟩), v] 88 (0, 0)) := by
    rw [hgrow.block b hlt (fun e => hne e.symm)]
    exact hbk
  have d0 : w2.cell? ⟨b, 0, none⟩ = some (.pointer (some ⟨b, 0, none⟩)) := by rw [Lib.cell_of_heap hb2]; rfl
  have d1 : w2.cell? ⟨b, 1, none⟩ = some v := by rw [Lib.cell_of_heap hb2]; rfl
  have f1 : w2.frozen? ⟨b, 1, none⟩ = false := Lib.frozen_of_heap hb2 1
  obtain ⟨ao, n', cap, rfl⟩ : ∃ ao n' cap, v' = .slice ao n' cap := by
    rcases hown'.2 with ⟨hv, _⟩ | ⟨g, cap, cur, fz, hv, _⟩
    · exact ⟨_, _, _, hv⟩
    · exact ⟨_, _, _, hv⟩
  have HA : Hid (BldTo B b (bs ++ Lib.strCells s) w (w2.setCell ⟨b, 1, none⟩ (.slice ao n' cap))) := by
    refine ⟨Lib.BuilderAtF.put (T := 88) (e := 5) hB hb2 (bs' := bs ++ Lib.strCells s) (by simpa [Lib.strCells_length] using hown') (by decide), ?_, (hk1.grown hgrow (Lib.ownsRowF_kind hown)).setCell ⟨b, 1, none⟩ rfl _⟩
    exact (hb1.grown hgrow (by omega) (fun k hk => (hown.lt k hk).1)).setCell (p := ⟨b, 1, none⟩) hB _
  clear hown hown' hgrow hbk hb2 hb1 hk1
  go_wp2
  go_ret2
  exact ⟨rfl, HA.out⟩

end Go.Proofs.Ytdnjpjiepnhhhaa

/- PrintTokens: the program. -/
namespace Go.Proofs.Ytdnjpjiepnhhhaa
open Go.RowKit

/-- A builder of the call's own (its block the first of them) that holds these bytes. -/
def Bld (b : Nat) (s : ByteArray) (w : World) : Prop := IsBld b b (Lib.strCells s) w
theorem BldAt.below {B b : Nat} {p : Value} {bs : List Value} {w w' : World} (h : BldAt B b p bs w) (hb : Below w.heap.size w w') : BldAt B b p bs w' := by
  have hlt := h.lt
  obtain ⟨hB, v, hbk, hown, hne⟩ := h
  refine ⟨hB, v, (hb.block b hlt).trans hbk, ⟨hown.1, ?_⟩, hne⟩
  rcases hown.2 with h0 | ⟨g, cap, cur, fz, h1, h2, h3, h4⟩
  · exact .inl h0
  · exact .inr ⟨g, cap, cur, fz, h1, h2, (hb.block g (Array.getElem?_eq_some_iff.1 h3).1).trans h3, h4⟩
theorem Bld.below {b : Nat} {s : ByteArray} {w w' : World} (h : Bld b s w) (hb : Below w.heap.size w w') : Bld b s w' := h.elim (fun h => .inl (BldAt.below h hb)) (fun h => .inr (BldAt.below h hb))
theorem Bld.fresh (w : World) : Bld w.heap.size ⟨#[]⟩ (w.alloc (.cells #[.pointer none, .slice none 0 0] 88)) :=
  .inl ⟨Nat.le_refl _, .slice none 0 0, heap_alloc_new w _, World.ownsRowF_nil _ _ _ _, by simp [Value.ownBlock]⟩
theorem Bld.lt {b : Nat} {s : ByteArray} {w : World} (h : Bld b s w) : b < w.heap.size := h.elim (fun h => h.lt) (fun h => h.lt)
theorem Bld.of {b : Nat} {bs : List Value} {s : ByteArray} {w w' : World} (h : BldTo b b bs w w') (e : bs = Lib.strCells s) : Bld b s w' := .inr (e ▸ h.1)
theorem strCells_snoc (s : ByteArray) : Lib.strCells s ++ [.int .u8 32] = Lib.strCells (s ++ ⟨#[32]⟩) := by
  unfold Lib.strCells; rw [ByteArray.data_append, Array.toList_append, List.map_append]; rfl
theorem strCells_app (s t : ByteArray) : Lib.strCells s ++ Lib.strCells t = Lib.strCells (s ++ t) := by
  unfold Lib.strCells; rw [ByteArray.data_append, Array.toList_append, List.map_append]
theorem bldByte {b : Nat} {s : ByteArray} {w : World} (h : Bld b s w) (hs : s.size ≤ 1048576) :
    Calls Try.prog 79 #[.pointer (some ⟨b, 0, none⟩), .int .u8 32] w fun e w' => e = .returned .nilIface ∧ Bld b (s ++ ⟨#[32]⟩) w' ∧ Below b w w' ∧ Lib.OthersKept 5 (some b) w w' :=
  (bld_byte b b _ 32 w h (by rw [Lib.strCells_length]; exact hs) (Nat.le_of_lt h.lt)).mono fun e w' ⟨h1, h2⟩ => ⟨h1, Bld.of h2 (strCells_snoc s), h2.2.1, h2.2.2⟩
theorem bldText {b : Nat} {s t : ByteArray} {w : World} (h : Bld b s w) (hs : s.size + t.size ≤ 1048576) :
    Calls Try.prog 76 #[.pointer (some ⟨b, 0, none⟩), .string t] w fun e w' => e = .returned (.tuple #[.int .i64 t.size, .nilIface]) ∧ Bld b (s ++ t) w' ∧ Below b w w' ∧ Lib.OthersKept 5 (some b) w w' :=
  (bld_text b b _ t w h (by rw [Lib.strCells_length]; omega) (Nat.le_of_lt h.lt)).mono fun e w' ⟨h1, h2⟩ => ⟨h1, Bld.of h2 (strCells_app s t), h2.2.1, h2.2.2⟩
theorem bldLen {b : Nat} {s : ByteArray} {w : World} (h : Bld b s w) :
    Calls Try.prog 80 #[.pointer (some ⟨b, 0, none⟩)] w fun e w' => e = .returned (.int .i64 s.size) ∧ w' = w := by
  have := Try.Builder_Len_f b b _ w h
  rw [Lib.strCells_length] at this
  exact this
theorem bldString {b : Nat} {s : ByteArray} {w : World} (h : Bld b s w) :
    Calls Try.prog 77 #[.pointer (some ⟨b, 0, none⟩)] w fun e w' => e = .returned (.string s) ∧ Below b w w' :=
  (Try.Builder_String_any_k b b s.data.toList w h (Nat.le_of_lt h.lt)).mono fun e w' ⟨h1, h2⟩ => ⟨h1, h2.2.1⟩
theorem kept_cell {b g : Nat} {arr : Array Value} {ty : TypeId} {fr : Nat × Nat} {w w' : World} (hk : Lib.OthersKept 5 (some b) w w') (h : w.heap[g]? = some (.cells arr ty fr)) (hg : g ≠ b) (hty : ty ≠ 5) : w'.heap[g]? = some (.cells arr ty fr) :=
  hk g _ h (fun e => hg (Option.some.inj e)) (fun c fz e => hty (by simp only [Obj.cells.injEq] at e; exact e.2.1))

set_option maxHeartbeats 8000000 in
set_option maxRecDepth 100000 in
theorem impl_PrintTokens (v : Value) (l : List Tok) (fp : List Nat) (w : World) (H : (sSlice sTok).R w [v] l fp) :
    Calls Try.prog 55 #[v] w (Printed l w) := by
  have HV := Lib.hid (impl_TokensValid v l fp w H)
  obtain ⟨a, cap, rfl, hc, hm, hrow⟩ := open_rows H
  unfold maxLen at hm
  clear H
  cases hv : toksOk l
  · have HF := Lib.hid (printRes_no hv)
    rw [hv] at HV
    clear hv
    go_enter Try.func55, Try.ntmps55
    go_wp2_with (go_at_call 38; refine (HV.out).mono ?_; rintro e w1 ⟨rfl, hb1⟩)
    go_ret2
    exact printed_ret HF.out hb1
  · rw [hv] at HV
    have HOK := Lib.hid (toksOk_facts hv)
    have hlen := HOK.out.1
    have HSZ := Lib.hid (prTo_size hv)
    have HVD := Lib.hid hv
    clear hv
    go_enter Try.func55, Try.ntmps55
    go_wp2_with fail
    refine (HV.out).mono ?_
    rintro e w1 ⟨rfl, hb1⟩
    have HB0 := Lib.hid (Bld.fresh w1)
    have hb2 := hb1.trans ((alloc_below' w1 (.cells #[.pointer none, .slice none 0 0] 88)).mono hb1.size)
    go_wp2_with fail
    go_loopw [12] (fun i wr => ∃ (k : Nat), k ≤ l.length ∧ i = .int .i64 k ∧ Hid (Bld w1.heap.size (prTo l k) wr) ∧ Below w.heap.size w wr) (fun i _ => l.length - (intOf i).toNat)
    case atStart => exact ⟨0, by omega, rfl, HB0, hb2⟩
    case round =>
      obtain ⟨k, hk, rfl, HB, hb⟩ := hrel
      clear HB0 hb2
      by_cases hlt : k < l.length
      · obtain ⟨b1, off1, fps1, rfl, hb1', -, he1⟩ := hrow (by omega)
        obtain ⟨es1, hE1, hR1⟩ := he1 k hlt
        have hR1' := hR1
        obtain ⟨h1, rfl, -, -, K1⟩ := hR1
        obtain ⟨ah, caph, rfl, -⟩ := open_rows K1
        replace hE1 := hE1.frame (hb.block b1 hb1')
        have c10 : wr.cell? ⟨b1, off1 + k * 4, none⟩ = some _ := elem_cell0 hE1 (by decide) rfl
        have c11 : wr.cell? ⟨b1, off1 + k * 4 + 1, none⟩ = some _ := elem_cell (j := 1) hE1 (by decide) rfl
        have c12 : wr.cell? ⟨b1, off1 + k * 4 + 2, none⟩ = some _ := elem_cell (j := 2) hE1 (by decide) rfl
        have c13 : wr.cell? ⟨b1, off1 + k * 4 + 3, none⟩ = some _ := elem_cell (j := 3) hE1 (by decide) rfl
        have hsz1 := (tokOk_facts (HOK.out.2 k hlt)).2
        have hso := HSZ.out k hk
        have hbx : Below wr.heap.size wr (wr.alloc (.cells #[.int .i64 l[k].kind, .string l[k].text, .bool l[k].spaced, .slice ah l[k].hidden.length caph] 59)) := alloc_below' _ _
        have HX := Lib.hid (heap_alloc_new wr (.cells #[.int .i64 l[k].kind, .string l[k].text, .bool l[k].spaced, .slice ah l[k].hidden.length caph] 59))
        have HB1 := Lib.hid (HB.out.below hbx)
        have hlw := HB.out.lt
        have hlo := hb1.size
        have hbr : b1 < wr.heap.size := Nat.lt_of_lt_of_le hb1' hb.size
        have HR1 := Lib.hid (sTok.below (sTok.below hR1' hb) hbx)
        clear hE1 K1 hR1'
        go_wp2
        generalize (wr.alloc (.cells #[.int .i64 l[k].kind, .string l[k].text, .bool l[k].spaced, .slice ah l[k].hidden.length caph] 59)) = W2 at *
        have p0 : W2.cell? ⟨wr.heap.size, 0, none⟩ = some (.int .i64 l[k].kind) := cell_of_row _ _ 0 _ _ _ HX.out
        have p1 : W2.cell? ⟨wr.heap.size, 1, none⟩ = some (.string l[k].text) := cell_of_row _ _ 1 _ _ _ HX.out
        have p2 : W2.cell? ⟨wr.heap.size, 2, none⟩ = some (.bool l[k].spaced) := cell_of_row _ _ 2 _ _ _ HX.out
        have p3 : W2.cell? ⟨wr.heap.size, 3, none⟩ = some (.slice ah l[k].hidden.length caph) := cell_of_row _ _ 3 _ _ _ HX.out
        have hbw := hb.trans (hbx.mono hb.size)
        have hne : wr.heap.size ≠ w1.heap.size := by omega
        clear c10 c11 c12 c13
        by_cases h0 : k = 0
        · have h00 : ¬ (0 : Int) < (k : Int) := by omega
          have h01 : decide ((0 : Int) < (k : Int)) = false := by simp; omega
          have h02 : decide (0 < k) = false := by simp; omega
          have HN := Lib.hid (prTo_no hlt (by subst h0; exact gap_zero l))
          clear h0 he1 hrow
          go_quiet (fail)
          have HBq := Lib.hid (HB1.out.below (belowN (Below.refl _ _) nq))
          have hbq := hbw.trans ((belowN (Below.refl W2.heap.size W2) nq).mono hbw.size)
          go_wp2_with fail
          refine (bldText HBq.out (by omega)).mono ?_
          rintro e w3 ⟨rfl, hB3, hb3, -⟩
          rw [← HN.out] at hB3
          go_wp2
          go_roundw
          case rel => exact ⟨k + 1, by omega, by go_num, hB3, hbq.trans (hb3.mono hlo)⟩
          case measure => simp [intOf]; omega
        · have h00 : (0 : Int) < (k : Int) := by omega
          have h01 : decide ((0 : Int) < (k : Int)) = true := by simp; omega
          have h02 : decide (0 < k) = true := by simp; omega
          cases hsp : l[k].spaced
          · obtain ⟨es2, hE2, hR2⟩ := he1 (k - 1) (by omega)
            have HR2 := Lib.hid (sTok.below (sTok.below hR2 hb) hbx)
            obtain ⟨h2, rfl, -, -, -⟩ := hR2
            replace hE2 := hE2.frame ((hbx.block b1 hbr).trans (hb.block b1 hb1'))
            have c20 : W2.cell? ⟨b1, off1 + (k - 1) * 4, none⟩ = some _ := elem_cell0 hE2 (by decide) rfl
            have c21 : W2.cell? ⟨b1, off1 + (k - 1) * 4 + 1, none⟩ = some _ := elem_cell (j := 1) hE2 (by decide) rfl
            have c22 : W2.cell? ⟨b1, off1 + (k - 1) * 4 + 2, none⟩ = some _ := elem_cell (j := 2) hE2 (by decide) rfl
            have c23 : W2.cell? ⟨b1, off1 + (k - 1) * 4 + 3, none⟩ = some _ := elem_cell (j := 3) hE2 (by decide) rfl
            have h6 : ((k : Int) - 1).toNat = k - 1 := by omega
            have hwl : IntKind.i64.wrap ((k : Int) - 1) = (k : Int) - 1 := IntWalk.i64_in _ (by omega)
            have hi1 : (0 : Int) ≤ (k : Int) - 1 := by omega
            have hi0 : (1 : Int) ≤ (k : Int) := by omega
            have hi2 : (k : Int) - 1 < (l.length : Int) := by omega
            have HC : Hid (∀ W, Below W2.heap.size W2 W → Calls Try.prog 78 #[.agg #[.int .i64 (l[k - 1]'(by omega)).kind, .string (l[k - 1]'(by omega)).text, .bool (l[k - 1]'(by omega)).spaced, h2], .agg #[.int .i64 l[k].kind, .string l[k].text, .bool l[k].spaced, .slice ah l[k].hidden.length caph]] W (Says (glued (l[k - 1]'(by omega)).text l[k].text) W)) :=
              fun W hW => impl_needSpace _ _ _ _ _ _ W (sTok.below HR2.out hW) (sTok.below HR1.out hW) (HOK.out.2 _ (by omega)) (HOK.out.2 _ hlt)
            have HG := gap_glued (by omega) hlt hsp
            rw [hsp] at p2 HC
            clear hE2 he1 hrow
            go_wp2_with fail
            go_still_tail 12, (by kernel_rfl)
            change wpList _ _ _ _ _ W2.drew
            have hd : Below W2.heap.size W2 W2.drew := belowN (Below.refl _ _) 1
            have HXd : Hid (W2.drew.heap[wr.heap.size]? = some (.cells #[.int .i64 l[k].kind, .string l[k].text, .bool l[k].spaced, .slice ah l[k].hidden.length caph] 59)) := HX
            generalize W2.drew = w2 at *
            have hgx : wr.heap.size < w2.heap.size := (Array.getElem?_eq_some_iff.1 HXd.out).1
            cases hg : glued (l[k - 1]'(by omega)).text l[k].text
            · rw [hg] at HC HG
              have HN := Lib.hid (prTo_no hlt HG)
              clear hg HG
              go_wp2_with fail
              refine (HC.out _ hd).mono ?_
              rintro e w3 ⟨rfl, hb3⟩
              have hb4 := hd.trans (hb3.mono hd.size)
              have HX3 := (hb3.block _ hgx).trans HXd.out
              have q1 : w3.cell? ⟨wr.heap.size, 1, none⟩ = some (.string l[k].text) := cell_of_row _ _ 1 _ _ _ HX3
              have HB3 := Lib.hid (HB1.out.below hb4)
              have hbq := hbw.trans (hb4.mono hbw.size)
              clear p0 p1 p2 p3 c20 c21 c22 c23 HX3 hb3 hd hb4
              go_wp2_with fail
              refine (bldText HB3.out (by omega)).mono ?_
              rintro e w4 ⟨rfl, hB4, hb5, -⟩
              rw [← HN.out] at hB4
              go_wp2
              go_roundw
              case rel => exact ⟨k + 1, by omega, by go_num, hB4, hbq.trans (hb5.mono hlo)⟩
              case measure => simp [intOf]; omega
            · rw [hg] at HC HG
              have HN := Lib.hid (prTo_yes hlt HG)
              clear hg HG
              go_wp2_with fail
              refine (HC.out _ hd).mono ?_
              rintro e w3 ⟨rfl, hb3⟩
              have hb4 := hd.trans (hb3.mono hd.size)
              have HX3 := (hb3.block _ hgx).trans HXd.out
              have HB3 := Lib.hid (HB1.out.below hb4)
              have hbq := hbw.trans (hb4.mono hbw.size)
              clear p0 p1 p2 p3 c20 c21 c22 c23 hb3 hd hb4
              go_wp2_with fail
              refine (bldByte HB3.out (by omega)).mono ?_
              rintro e w4 ⟨rfl, hB4, hb5, hk5⟩
              have hbq3 := hbq.trans (hb5.mono hlo)
              have HX4 := kept_cell hk5 HX3 hne (by decide)
              have q1 : w4.cell? ⟨wr.heap.size, 1, none⟩ = some (.string l[k].text) := cell_of_row _ _ 1 _ _ _ HX4
              clear HX3 HX4
              go_wp2_with fail
              refine (bldText hB4 (by rw [ByteArray.size_append]; have : (⟨#[32]⟩ : ByteArray).size = 1 := rfl; omega)).mono ?_
              rintro e w5 ⟨rfl, hB5, hb6, -⟩
              rw [← HN.out] at hB5
              go_wp2
              go_roundw
              case rel => exact ⟨k + 1, by omega, by go_num, hB5, hbq3.trans (hb6.mono hlo)⟩
              case measure => simp [intOf]; omega
          · have HN := Lib.hid (prTo_yes hlt (gap_spaced (by omega) hlt hsp))
            rw [hsp] at p2
            clear he1 hrow
            go_quiet (fail)
            have HBq := Lib.hid (HB1.out.below (belowN (Below.refl _ _) nq))
            have hbq := hbw.trans ((belowN (Below.refl W2.heap.size W2) nq).mono hbw.size)
            go_wp2_with fail
            refine (bldByte HBq.out (by omega)).mono ?_
            rintro e w3 ⟨rfl, hB3, hb3, hk3⟩
            have hbq3 := hbq.trans (hb3.mono hlo)
            have HX3 := kept_cell (w := W2.drewN nq) hk3 HX.out hne (by decide)
            have q1 : w3.cell? ⟨wr.heap.size, 1, none⟩ = some (.string l[k].text) := cell_of_row _ _ 1 _ _ _ HX3
            clear HX3 p0 p1 p2 p3
            go_wp2_with fail
            refine (bldText hB3 (by rw [ByteArray.size_append]; have : (⟨#[32]⟩ : ByteArray).size = 1 := rfl; omega)).mono ?_
            rintro e w4 ⟨rfl, hB4, hb4, -⟩
            rw [← HN.out] at hB4
            go_wp2
            go_roundw
            case rel => exact ⟨k + 1, by omega, by go_num, hB4, hbq3.trans (hb4.mono hlo)⟩
            case measure => simp [intOf]; omega
      · have hkl : l.length = k := by omega
        have HL := Lib.hid (bldLen HB.out)
        have HS := Lib.hid (bldString HB.out)
        have hlo := hb1.size
        by_cases hbig : 200 < (prTo l k).size
        · have HF := Lib.hid (printRes_long HVD.out hkl hbig)
          clear hkl
          go_wp2_with (go_at_call 80; refine (HL.out).mono ?_; rintro e w2 ⟨rfl, rfl⟩)
          go_ret2
          exact printed_ret HF.out hb
        · have HF := Lib.hid (printRes_yes HVD.out hkl hbig)
          clear hkl
          go_wp2_with (first
            | (go_at_call 80; refine (HL.out).mono ?_; rintro e w2 ⟨rfl, rfl⟩)
            | (go_at_call 77; refine (HS.out).mono ?_; rintro e w2 ⟨rfl, hb3⟩))
          go_ret2
          exact printed_ret HF.out (hb.trans (hb3.mono hlo))

end Go.Proofs.Ytdnjpjiepnhhhaa

/- MacroText of both. (Made by gen_mac7.py.) -/
namespace Go.Proofs.Ytdnjpjiepnhhhaa
open Go.RowKit

/-! ### The head's bytes -/
def parL (m : DMacro) : List (List UInt8) := m.params.map (·.data.toList)
theorem hd_list (m : DMacro) : ∀ k, k ≤ m.params.length → (hdTo m k).data.toList = m.name.data.toList ++ [40] ++ Lib.join ((parL m).take k) [44]
  | 0, _ => by
    show (m.name ++ openB).data.toList = _
    rw [ByteArray.data_append, Array.toList_append, List.take_zero, Lib.join_nil, List.append_nil]; rfl
  | k + 1, hk => by
    have ih := hd_list m k (by omega)
    have hk' : k < m.params.length := by omega
    have hx : (parL m)[k]? = some m.params[k].data.toList := by unfold parL; rw [List.getElem?_map, List.getElem?_eq_getElem hk']; rfl
    rw [hdTo, dif_pos hk', ByteArray.data_append, Array.toList_append]
    by_cases h0 : 0 < k
    · rw [if_pos h0, ByteArray.data_append, Array.toList_append, ih]
      obtain ⟨j, rfl⟩ : ∃ j, k = j + 1 := ⟨k - 1, by omega⟩
      cases hp : parL m with
      | nil => rw [hp] at hx; simp at hx
      | cons p r =>
        rw [hp] at hx
        rw [List.take_succ_cons, List.take_succ_cons, Lib.join_cons, Lib.join_cons, Lib.joinTail_take_succ [44] r j _ (by simpa using hx)]
        have : commaB.data.toList = [44] := rfl
        rw [this]
        simp [List.append_assoc]
    · have hz : k = 0 := by omega
      subst hz
      rw [if_neg (by omega), ih]
      cases hp : parL m with
      | nil => rw [hp] at hx; simp at hx
      | cons p r =>
        rw [hp] at hx
        have hpe : p = m.params[0].data.toList := by simpa using hx
        simp [Lib.join_nil, Lib.join_one, hpe]
def joinB (m : DMacro) : ByteArray := ⟨(Lib.join (parL m) [44]).toArray⟩
theorem hd_join (m : DMacro) : hdTo m m.params.length = m.name ++ openB ++ joinB m := by
  have h := hd_list m m.params.length (Nat.le_refl _)
  rw [List.take_of_length_le (by unfold parL; simp)] at h
  apply ByteArray.ext
  apply Array.toList_inj.1
  rw [h, ByteArray.data_append, Array.toList_append, ByteArray.data_append, Array.toList_append]
  show _ = _ ++ (Lib.join (parL m) [44]).toArray.toList
  rw [List.toList_toArray]
  rfl
theorem joinB_nil {m : DMacro} (h : m.params.length = 0) : joinB m = ⟨#[]⟩ := by
  unfold joinB parL
  rw [List.length_eq_zero_iff.1 h]; rfl
theorem name_size {s : ByteArray} (h : oneTok s 1 = true) : s.size ≤ 12 := (name_facts h).2.1
theorem hdTo_size {m : DMacro} (h : macOk m = true) : ∀ k, k ≤ m.params.length → (hdTo m k).size ≤ 13 + 13 * k
  | 0, _ => by
    have := name_size (macOk_facts h).1.1
    show (m.name ++ openB).size ≤ _
    rw [ByteArray.size_append]
    have : openB.size = 1 := rfl
    omega
  | k + 1, hk => by
    have ih := hdTo_size h k (by omega)
    have hk' : k < m.params.length := by omega
    have := name_size ((macOk_facts h).2.1 k hk')
    have : commaB.size = 1 := rfl
    rw [hdTo, dif_pos hk', ByteArray.size_append]
    split
    · rw [ByteArray.size_append]; omega
    · omega
theorem hd_size {m : DMacro} (h : macOk m = true) : (hdTo m m.params.length).size ≤ 65 := by
  have := hdTo_size h _ (Nat.le_refl _)
  have := (macOk_facts h).1.2.2.1
  omega
theorem headOf_size {m : DMacro} (h : macOk m = true) : (headOf m).size ≤ 66 := by
  have := hd_size h
  have := name_size (macOk_facts h).1.1
  unfold headOf
  split
  · rw [ByteArray.size_append]; have : closeB.size = 1 := rfl; omega
  · omega
theorem join_size {m : DMacro} (h : macOk m = true) : (joinB m).size ≤ 65 := by
  have := hd_size h
  rw [hd_join, ByteArray.size_append] at this
  omega
theorem join_len {m : DMacro} (h : macOk m = true) : (Lib.join (m.params.map (·.data.toList)) [44]).length ≤ 65 := by
  have := join_size h
  unfold joinB at this
  have e : (⟨(Lib.join (parL m) [44]).toArray⟩ : ByteArray).size = (Lib.join (parL m) [44]).length := by show (Lib.join (parL m) [44]).toArray.size = _; simp
  rw [e] at this
  exact this
theorem printRes_size (l : List Tok) : (printRes l).1.size ≤ 200 := by
  unfold printRes
  split
  · split
    · show (0 : Nat) ≤ 200; omega
    · rename_i h; show (prTo l l.length).size ≤ 200; omega
  · show (0 : Nat) ≤ 200; omega
theorem printRes_nil {l : List Tok} (h : ¬ 0 < l.length) : printRes l = (⟨#[]⟩, true) := by
  have : l = [] := List.length_eq_zero_iff.1 (by omega)
  subst this; rfl
theorem mt_no {m : DMacro} (h : macOk m = false) : macText m = (⟨#[]⟩, false) := by unfold macText; rw [if_neg (by simp [h])]
theorem mt_pr {m : DMacro} (h : macOk m = true) (h2 : (printRes m.body).2 = false) : macText m = (⟨#[]⟩, false) := by unfold macText; rw [if_pos h, if_pos (.inl h2)]
theorem mt_long {m : DMacro} (h : macOk m = true) (h2 : 200 < (macOut m).size) : macText m = (⟨#[]⟩, false) := by unfold macText; rw [if_pos h, if_pos (.inr h2)]
theorem mt_yes {m : DMacro} (h : macOk m = true) (h2 : (printRes m.body).2 = true) (h3 : ¬ 200 < (macOut m).size) : macText m = (macOut m, true) := by
  unfold macText; rw [if_pos h, if_neg (by rintro (h | h); · rw [h2] at h; simp at h
                                           · exact h3 h)]
theorem out_body {m : DMacro} (h : 0 < m.body.length) : macOut m = headOf m ++ ⟨#[32]⟩ ++ (printRes m.body).1 := by unfold macOut; rw [if_pos h]
theorem out_bare {m : DMacro} (h : ¬ 0 < m.body.length) : macOut m = headOf m := by unfold macOut; rw [if_neg h]
theorem head_no {m : DMacro} (h : m.function = false) : headOf m = m.name := by unfold headOf; rw [if_neg (by simp [h])]
theorem head_yes {m : DMacro} (h : m.function = true) : headOf m = hdTo m m.params.length ++ closeB := by unfold headOf; rw [if_pos h]

/-- What MacroText hands back. -/
def MText (m : DMacro) (w : World) (e : Ending) (w' : World) : Prop := e = .returned (.tuple #[.string (macText m).1, .bool (macText m).2]) ∧ Below w.heap.size w w'
theorem mtext_ret {m : DMacro} {s : ByteArray} {b : Bool} {w w' : World} (h : macText m = (s, b)) (hb : Below w.heap.size w w') : MText m w (.returned (.tuple #[.string s, .bool b])) w' := ⟨by rw [h], hb⟩

/-- A sum of texts under a name of its own. -/
theorem add_name (a b : ByteArray) (h : a.size + b.size ≤ 1000000) : ∃ c : ByteArray, Hid (c = a ++ b) ∧ (∀ W : World, (Op.stringOp .add a b).run Try.prog W = .ok (.string c) W) ∧ c.size = a.size + b.size :=
  ⟨a ++ b, rfl, fun W => run_string_add_sum (P := Try.prog) W a b (by omega), ByteArray.size_append⟩
theorem one_size (c : UInt8) : (⟨#[c]⟩ : ByteArray).size = 1 := rfl

set_option maxHeartbeats 2000000 in
set_option maxRecDepth 100000 in
theorem lib_Join_nil (a : Option Addr) (c : Nat) (sep : ByteArray) (w : World) :
    Calls Try.prog 54 #[.slice a 0 c, .string sep] w fun e w' => e = .returned (.string ⟨#[]⟩) ∧ w' = w := by
  go_enter Try.func54, Try.ntmps54
  go_wp2
  go_ret
  exact ⟨rfl, by first | rfl | trivial⟩
theorem lib_Join (v : Value) (m : DMacro) (fp : List Nat) (w : World) (hv : macOk m = true) (H : (sSlice sStr).R w [v] m.params fp) :
    Calls Try.prog 54 #[v, .string ⟨#[44]⟩] w fun e w' => e = .returned (.string (joinB m)) ∧ Below w.heap.size w w' := by
  obtain ⟨a, cap, rfl, hc, hm, hcell, hsz⟩ := open_strs H
  by_cases h0 : m.params.length = 0
  · rw [h0, joinB_nil h0]
    exact (lib_Join_nil a cap _ w).mono fun e w' ⟨h1, h2⟩ => ⟨h1, h2 ▸ Below.refl _ _⟩
  · obtain ⟨b, off, rfl, hbl, _, hc2⟩ := hcell (by omega)
    have hl := (macOk_facts hv).1.2.2.1
    have hj := join_len hv
    have e1 : ([44] : List UInt8) = (⟨#[44]⟩ : ByteArray).data.toList := rfl
    refine Try.strings_Join b off cap m.params ⟨#[44]⟩ w (fun j x hx => ?_) hbl (by omega) hc (by rw [← e1]; omega)
    obtain ⟨hj', he⟩ := List.getElem?_eq_some_iff.1 hx
    rw [hc2 j hj', he]

set_option maxHeartbeats 16000000 in
set_option maxRecDepth 100000 in
theorem spec_MacroText (cs : List Value) (m : DMacro) (fp : List Nat) (w : World) (H : sMacro.R w cs m fp) : Calls Try.prog 23 #[.agg cs.toArray] w (MText m w) := by
  have HV := Lib.hid (fun W (hW : Below w.heap.size w W) => spec_MacroValid _ _ _ W (sMacro.below H hW))
  obtain ⟨h2, h3, fp2, fp3, rfl, k0, K2, K3, rfl⟩ := H
  have HK2 := Lib.hid K2
  have HK3 := Lib.hid K3
  obtain ⟨a2, cap2, rfl, hc2, hm2, hcell2, hsz2⟩ := open_strs K2
  obtain ⟨a3, cap3, rfl, -⟩ := open_rows K3
  clear K2 K3
  unfold maxLen at hm2
  have hb0 := alloc_below' w (.cells #[.string m.name, .bool m.function, .slice a2 m.params.length cap2, .slice a3 m.body.length cap3] 27)
  have HX := Lib.hid (heap_alloc_new w (.cells #[.string m.name, .bool m.function, .slice a2 m.params.length cap2, .slice a3 m.body.length cap3] 27))
  cases hv : macOk m
  · rw [hv] at HV
    have HF := Lib.hid (mt_no hv)
    clear hv
    go_enter Try.func23, Try.ntmps23
    go_wp2_with (go_at_call 36; refine (HV.out _ hb0).mono ?_; rintro e w1 ⟨rfl, hb1⟩)
    go_ret2
    exact mtext_ret HF.out (hb0.trans (hb1.mono hb0.size))
  rw [hv] at HV
  have HOK := Lib.hid hv
  have HPR := Lib.hid (fun W (hW : Below w.heap.size w W) => spec_PrintTokens _ _ _ W ((sSlice sTok).below HK3.out hW))
  have hns : m.name.size ≤ 12 := name_size (macOk_facts hv).1.1
  have hps := printRes_size m.body
  have hpl := (macOk_facts hv).1.2.2.1
  have hds := fun k hk => hdTo_size hv k hk
  clear hv
  go_enter Try.func23, Try.ntmps23
  go_wp2_with fail
  refine (HV.out _ hb0).mono ?_
  rintro e w1 ⟨rfl, hb1⟩
  have hB1 := hb0.trans (hb1.mono hb0.size)
  replace HX := Lib.hid ((hb1.block _ (Array.getElem?_eq_some_iff.1 HX.out).1).trans HX.out)
  have q0 : w1.cell? ⟨w.heap.size, 0, none⟩ = some (.string m.name) := cell_of_row _ _ 0 _ _ _ HX.out
  have q1 : w1.cell? ⟨w.heap.size, 1, none⟩ = some (.bool m.function) := cell_of_row _ _ 1 _ _ _ HX.out
  have q2 : w1.cell? ⟨w.heap.size, 2, none⟩ = some (.slice a2 m.params.length cap2) := cell_of_row _ _ 2 _ _ _ HX.out
  have q3 : w1.cell? ⟨w.heap.size, 3, none⟩ = some (.slice a3 m.body.length cap3) := cell_of_row _ _ 3 _ _ _ HX.out
  clear hb0 hb1 HV
  cases hf : m.function
  · rw [hf] at q1
    have HT := Lib.hid (head_no hf).symm
    clear hf
    by_cases h0 : 0 < m.body.length
    · have h01 : (0 : Int) < (m.body.length : Int) := by omega
      obtain ⟨u1, HU1, ad1, hu1⟩ := add_name m.name (⟨#[32]⟩ : ByteArray) (by have := one_size 32; omega)
      obtain ⟨u2, HU2, ad2, hu2⟩ := add_name u1 (printRes m.body).1 (by have := one_size 32; omega)
      have HE : Hid (u2 = macOut m) := by show _ = _; rw [HU2.out, HU1.out, out_body h0, ← HT.out]; try simp only [ByteArray.append_assoc]
      clear hu1 hu2
      go_wp2_with fail
      refine (HPR.out _ hB1).mono ?_
      rintro e w9 ⟨rfl, hb9⟩
      have hB9 := hB1.trans (hb9.mono hB1.size)
      replace HX := Lib.hid ((hb9.block _ (Array.getElem?_eq_some_iff.1 HX.out).1).trans HX.out)
      have z3 : w9.cell? ⟨w.heap.size, 3, none⟩ = some (.slice a3 m.body.length cap3) := cell_of_row _ _ 3 _ _ _ HX.out
      cases hp : (printRes m.body).2
      · have HF := Lib.hid (mt_pr HOK.out hp)
        clear hp
        go_wp2
        go_ret2
        exact mtext_ret HF.out hB9
      · by_cases hbig : 200 < u2.size
        · have HF := Lib.hid (mt_long HOK.out (by rw [← HE.out]; exact hbig))
          clear hp
          go_wp2
          go_ret2
          exact mtext_ret HF.out hB9
        · have HF := Lib.hid (mt_yes HOK.out hp (by rw [← HE.out]; exact hbig))
          rw [← HE.out] at HF
          clear hp
          go_wp2
          go_ret2
          exact mtext_ret HF.out hB9
    · have h01 : ¬ (0 : Int) < (m.body.length : Int) := by omega
      have HE : Hid (m.name = macOut m) := by show _ = _; rw [out_bare h0, ← HT.out]
      have HP0 := Lib.hid (printRes_nil h0)
      have hbig : ¬ 200 < m.name.size := by omega
      have HF := Lib.hid (mt_yes HOK.out (by rw [HP0.out]) (by rw [← HE.out]; exact hbig))
      rw [← HE.out] at HF
      go_wp2_with fail
      refine (HPR.out _ hB1).mono ?_
      rintro e w9 ⟨rfl, hb9⟩
      have hB9 := hB1.trans (hb9.mono hB1.size)
      rw [HP0.out]
      replace HX := Lib.hid ((hb9.block _ (Array.getElem?_eq_some_iff.1 HX.out).1).trans HX.out)
      have z3 : w9.cell? ⟨w.heap.size, 3, none⟩ = some (.slice a3 m.body.length cap3) := cell_of_row _ _ 3 _ _ _ HX.out
      go_wp2
      go_ret2
      exact mtext_ret HF.out hB9
  · rw [hf] at q1
    have HH := Lib.hid (head_yes hf)
    clear hf
    have ad0 := fun W => run_string_add_sum (P := Try.prog) W m.name (⟨#[40]⟩ : ByteArray) (by have : (⟨#[40]⟩ : ByteArray).size = 1 := rfl; omega)
    have HDS := Lib.hid hds
    clear hds
    go_wp2_with fail
    go_loopw [4, 5] (fun t i wr => ∃ (k : Nat) (out : ByteArray), k ≤ m.params.length ∧ i = .int .i64 k ∧ t = .string out ∧ Hid (out = hdTo m k) ∧ Below w1.heap.size w1 wr) (fun _ i _ => m.params.length - (intOf i).toNat)
    case atStart => exact ⟨0, _, by omega, rfl, rfl, rfl, Below.refl _ _⟩
    case round =>
      obtain ⟨k, out, hk, rfl, rfl, HO, hb⟩ := hrel
      have hbw := hB1.trans (hb.mono hB1.size)
      replace HX := Lib.hid ((hb.block _ (Array.getElem?_eq_some_iff.1 HX.out).1).trans HX.out)
      clear q0 q1 q2 q3
      have q2 : wr.cell? ⟨w.heap.size, 2, none⟩ = some (.slice a2 m.params.length cap2) := cell_of_row _ _ 2 _ _ _ HX.out
      have q3 : wr.cell? ⟨w.heap.size, 3, none⟩ = some (.slice a3 m.body.length cap3) := cell_of_row _ _ 3 _ _ _ HX.out
      have hos : out.size ≤ 65 := by have := HDS.out k hk; rw [HO.out]; omega
      by_cases hlt : k < m.params.length
      · obtain ⟨b, off, rfl, hbl, _, hce⟩ := hcell2 (by omega)
        have hck := (hbw.cell (p := ⟨b, off + k, none⟩) hbl).trans (hce k hlt)
        have hpk : m.params[k].size ≤ 12 := name_size ((macOk_facts HOK.out).2.1 k hlt)
        by_cases h0 : 0 < k
        · have h01 : (0 : Int) < (k : Int) := by omega
          have HN : Hid (out ++ ⟨#[44]⟩ ++ m.params[k] = hdTo m (k + 1)) := by show _ = _; rw [hdTo, dif_pos hlt, if_pos h0, HO.out]; rfl
          have ad1 := fun W => run_string_add_sum (P := Try.prog) W out (⟨#[44]⟩ : ByteArray) (by have : (⟨#[44]⟩ : ByteArray).size = 1 := rfl; omega)
          have ad2 := fun W => run_string_add_sum (P := Try.prog) W (out ++ (⟨#[44]⟩ : ByteArray)) m.params[k] (by rw [ByteArray.size_append]; have : (⟨#[44]⟩ : ByteArray).size = 1 := rfl; omega)
          clear hcell2 hce ad0
          go_wp2
          go_roundw
          case rel => exact ⟨k + 1, _, by omega, by go_num, rfl, HN, hb⟩
          case measure => simp [intOf]; omega
        · have h01 : ¬ (0 : Int) < (k : Int) := by omega
          have HN : Hid (out ++ m.params[k] = hdTo m (k + 1)) := by show _ = _; rw [hdTo, dif_pos hlt, if_neg h0, HO.out]
          have ad1 := fun W => run_string_add_sum (P := Try.prog) W out m.params[k] (by omega)
          clear hcell2 hce ad0
          go_wp2
          go_roundw
          case rel => exact ⟨k + 1, _, by omega, by go_num, rfl, HN, hb⟩
          case measure => simp [intOf]; omega
      · have hkl : k = m.params.length := by omega
        subst hkl
        obtain ⟨tx, HTX, ad9, hts⟩ := add_name out (⟨#[41]⟩ : ByteArray) (by have := one_size 41; omega)
        rw [one_size] at hts
        have HT : Hid (tx = headOf m) := by show _ = _; rw [HTX.out, HH.out, HO.out]; rfl
        clear hcell2 ad0
        by_cases h0 : 0 < m.body.length
        · have h01 : (0 : Int) < (m.body.length : Int) := by omega
          obtain ⟨u1, HU1, ad1, hu1⟩ := add_name tx (⟨#[32]⟩ : ByteArray) (by have := one_size 32; omega)
          obtain ⟨u2, HU2, ad2, hu2⟩ := add_name u1 (printRes m.body).1 (by have := one_size 32; omega)
          have HE : Hid (u2 = macOut m) := by show _ = _; rw [HU2.out, HU1.out, out_body h0, ← HT.out]; try simp only [ByteArray.append_assoc]
          clear hu1 hu2
          go_wp2_with fail
          refine (HPR.out _ hbw).mono ?_
          rintro e w9 ⟨rfl, hb9⟩
          have hB9 := hbw.trans (hb9.mono hbw.size)
          replace HX := Lib.hid ((hb9.block _ (Array.getElem?_eq_some_iff.1 HX.out).1).trans HX.out)
          have z3 : w9.cell? ⟨w.heap.size, 3, none⟩ = some (.slice a3 m.body.length cap3) := cell_of_row _ _ 3 _ _ _ HX.out
          cases hp : (printRes m.body).2
          · have HF := Lib.hid (mt_pr HOK.out hp)
            clear hp
            go_wp2
            go_ret2
            exact mtext_ret HF.out hB9
          · by_cases hbig : 200 < u2.size
            · have HF := Lib.hid (mt_long HOK.out (by rw [← HE.out]; exact hbig))
              clear hp
              go_wp2
              go_ret2
              exact mtext_ret HF.out hB9
            · have HF := Lib.hid (mt_yes HOK.out hp (by rw [← HE.out]; exact hbig))
              rw [← HE.out] at HF
              clear hp
              go_wp2
              go_ret2
              exact mtext_ret HF.out hB9
        · have h01 : ¬ (0 : Int) < (m.body.length : Int) := by omega
          have HE : Hid (tx = macOut m) := by show _ = _; rw [out_bare h0, ← HT.out]
          have HP0 := Lib.hid (printRes_nil h0)
          have hbig : ¬ 200 < tx.size := by omega
          have HF := Lib.hid (mt_yes HOK.out (by rw [HP0.out]) (by rw [← HE.out]; exact hbig))
          rw [← HE.out] at HF
          go_wp2_with fail
          refine (HPR.out _ hbw).mono ?_
          rintro e w9 ⟨rfl, hb9⟩
          have hB9 := hbw.trans (hb9.mono hbw.size)
          rw [HP0.out]
          replace HX := Lib.hid ((hb9.block _ (Array.getElem?_eq_some_iff.1 HX.out).1).trans HX.out)
          have z3 : w9.cell? ⟨w.heap.size, 3, none⟩ = some (.slice a3 m.body.length cap3) := cell_of_row _ _ 3 _ _ _ HX.out
          go_wp2
          go_ret2
          exact mtext_ret HF.out hB9

set_option maxHeartbeats 16000000 in
set_option maxRecDepth 100000 in
theorem impl_MacroText (cs : List Value) (m : DMacro) (fp : List Nat) (w : World) (H : sMacro.R w cs m fp) : Calls Try.prog 22 #[.agg cs.toArray] w (MText m w) := by
  have HV := Lib.hid (fun W (hW : Below w.heap.size w W) => impl_MacroValid _ _ _ W (sMacro.below H hW))
  obtain ⟨h2, h3, fp2, fp3, rfl, k0, K2, K3, rfl⟩ := H
  have HK2 := Lib.hid K2
  have HK3 := Lib.hid K3
  obtain ⟨a2, cap2, rfl, hc2, hm2, hcell2, hsz2⟩ := open_strs K2
  obtain ⟨a3, cap3, rfl, -⟩ := open_rows K3
  clear K2 K3
  unfold maxLen at hm2
  have hb0 := alloc_below' w (.cells #[.string m.name, .bool m.function, .slice a2 m.params.length cap2, .slice a3 m.body.length cap3] 27)
  have HX := Lib.hid (heap_alloc_new w (.cells #[.string m.name, .bool m.function, .slice a2 m.params.length cap2, .slice a3 m.body.length cap3] 27))
  cases hv : macOk m
  · rw [hv] at HV
    have HF := Lib.hid (mt_no hv)
    clear hv
    go_enter Try.func22, Try.ntmps22
    go_wp2_with (go_at_call 30; refine (HV.out _ hb0).mono ?_; rintro e w1 ⟨rfl, hb1⟩)
    go_ret2
    exact mtext_ret HF.out (hb0.trans (hb1.mono hb0.size))
  rw [hv] at HV
  have HOK := Lib.hid hv
  have HPR := Lib.hid (fun W (hW : Below w.heap.size w W) => impl_PrintTokens _ _ _ W ((sSlice sTok).below HK3.out hW))
  have hns : m.name.size ≤ 12 := name_size (macOk_facts hv).1.1
  have hps := printRes_size m.body
  have hpl := (macOk_facts hv).1.2.2.1
  have hjs := join_size hv
  have HJ := Lib.hid (fun W (hW : Below w.heap.size w W) => lib_Join _ m _ W hv ((sSlice sStr).below HK2.out hW))
  clear hv
  go_enter Try.func22, Try.ntmps22
  go_wp2_with fail
  refine (HV.out _ hb0).mono ?_
  rintro e w1 ⟨rfl, hb1⟩
  have hB1 := hb0.trans (hb1.mono hb0.size)
  replace HX := Lib.hid ((hb1.block _ (Array.getElem?_eq_some_iff.1 HX.out).1).trans HX.out)
  have q0 : w1.cell? ⟨w.heap.size, 0, none⟩ = some (.string m.name) := cell_of_row _ _ 0 _ _ _ HX.out
  have q1 : w1.cell? ⟨w.heap.size, 1, none⟩ = some (.bool m.function) := cell_of_row _ _ 1 _ _ _ HX.out
  have q2 : w1.cell? ⟨w.heap.size, 2, none⟩ = some (.slice a2 m.params.length cap2) := cell_of_row _ _ 2 _ _ _ HX.out
  have q3 : w1.cell? ⟨w.heap.size, 3, none⟩ = some (.slice a3 m.body.length cap3) := cell_of_row _ _ 3 _ _ _ HX.out
  clear hb0 hb1 HV
  clear hcell2 hsz2
  cases hf : m.function
  · rw [hf] at q1
    have HT := Lib.hid (head_no hf).symm
    clear hf
    by_cases h0 : 0 < m.body.length
    · have h01 : (0 : Int) < (m.body.length : Int) := by omega
      obtain ⟨u1, HU1, ad1, hu1⟩ := add_name (⟨#[32]⟩ : ByteArray) (printRes m.body).1 (by have := one_size 32; omega)
      obtain ⟨u2, HU2, ad2, hu2⟩ := add_name m.name u1 (by have := one_size 32; omega)
      have HE : Hid (u2 = macOut m) := by show _ = _; rw [HU2.out, HU1.out, out_body h0, ← HT.out]; try simp only [ByteArray.append_assoc]
      clear hu1 hu2
      go_wp2_with fail
      refine (HPR.out _ hB1).mono ?_
      rintro e w9 ⟨rfl, hb9⟩
      have hB9 := hB1.trans (hb9.mono hB1.size)
      replace HX := Lib.hid ((hb9.block _ (Array.getElem?_eq_some_iff.1 HX.out).1).trans HX.out)
      have z3 : w9.cell? ⟨w.heap.size, 3, none⟩ = some (.slice a3 m.body.length cap3) := cell_of_row _ _ 3 _ _ _ HX.out
      cases hp : (printRes m.body).2
      · have HF := Lib.hid (mt_pr HOK.out hp)
        clear hp
        go_wp2
        go_ret2
        exact mtext_ret HF.out hB9
      · by_cases hbig : 200 < u2.size
        · have HF := Lib.hid (mt_long HOK.out (by rw [← HE.out]; exact hbig))
          clear hp
          go_wp2
          go_ret2
          exact mtext_ret HF.out hB9
        · have HF := Lib.hid (mt_yes HOK.out hp (by rw [← HE.out]; exact hbig))
          rw [← HE.out] at HF
          clear hp
          go_wp2
          go_ret2
          exact mtext_ret HF.out hB9
    · have h01 : ¬ (0 : Int) < (m.body.length : Int) := by omega
      have HE : Hid (m.name = macOut m) := by show _ = _; rw [out_bare h0, ← HT.out]
      have HP0 := Lib.hid (printRes_nil h0)
      have hbig : ¬ 200 < m.name.size := by omega
      have HF := Lib.hid (mt_yes HOK.out (by rw [HP0.out]) (by rw [← HE.out]; exact hbig))
      rw [← HE.out] at HF
      go_wp2
      go_ret2
      exact mtext_ret HF.out hB1
  · rw [hf] at q1
    obtain ⟨u7, HU7, ad7, hu7⟩ := add_name (⟨#[40]⟩ : ByteArray) (joinB m) (by have := one_size 40; omega)
    rw [one_size] at hu7
    obtain ⟨u8, HU8, ad8, hu8⟩ := add_name u7 (⟨#[41]⟩ : ByteArray) (by have := one_size 41; omega)
    rw [one_size] at hu8
    obtain ⟨tx, HU9, ad9, hu9⟩ := add_name m.name u8 (by omega)
    have HT : Hid (tx = headOf m) := by show _ = _; rw [HU9.out, HU8.out, HU7.out, head_yes hf, hd_join]; show _ = m.name ++ (⟨#[40]⟩ : ByteArray) ++ joinB m ++ (⟨#[41]⟩ : ByteArray); simp only [ByteArray.append_assoc]
    have hts : tx.size ≤ 100 := by omega
    clear hf hu7 hu8 hu9
    go_wp2_with fail
    refine (HJ.out _ hB1).mono ?_
    rintro e w2 ⟨rfl, hb2⟩
    have hB2 := hB1.trans (hb2.mono hB1.size)
    replace HX := Lib.hid ((hb2.block _ (Array.getElem?_eq_some_iff.1 HX.out).1).trans HX.out)
    clear q0 q1 q2 q3
    have q3 : w2.cell? ⟨w.heap.size, 3, none⟩ = some (.slice a3 m.body.length cap3) := cell_of_row _ _ 3 _ _ _ HX.out
    by_cases h0 : 0 < m.body.length
    · have h01 : (0 : Int) < (m.body.length : Int) := by omega
      obtain ⟨u1, HU1, ad1, hu1⟩ := add_name (⟨#[32]⟩ : ByteArray) (printRes m.body).1 (by have := one_size 32; omega)
      obtain ⟨u2, HU2, ad2, hu2⟩ := add_name tx u1 (by have := one_size 32; omega)
      have HE : Hid (u2 = macOut m) := by show _ = _; rw [HU2.out, HU1.out, out_body h0, ← HT.out]; try simp only [ByteArray.append_assoc]
      clear hu1 hu2
      go_wp2_with fail
      refine (HPR.out _ hB2).mono ?_
      rintro e w9 ⟨rfl, hb9⟩
      have hB9 := hB2.trans (hb9.mono hB2.size)
      replace HX := Lib.hid ((hb9.block _ (Array.getElem?_eq_some_iff.1 HX.out).1).trans HX.out)
      have z3 : w9.cell? ⟨w.heap.size, 3, none⟩ = some (.slice a3 m.body.length cap3) := cell_of_row _ _ 3 _ _ _ HX.out
      cases hp : (printRes m.body).2
      · have HF := Lib.hid (mt_pr HOK.out hp)
        clear hp
        go_wp2
        go_ret2
        exact mtext_ret HF.out hB9
      · by_cases hbig : 200 < u2.size
        · have HF := Lib.hid (mt_long HOK.out (by rw [← HE.out]; exact hbig))
          clear hp
          go_wp2
          go_ret2
          exact mtext_ret HF.out hB9
        · have HF := Lib.hid (mt_yes HOK.out hp (by rw [← HE.out]; exact hbig))
          rw [← HE.out] at HF
          clear hp
          go_wp2
          go_ret2
          exact mtext_ret HF.out hB9
    · have h01 : ¬ (0 : Int) < (m.body.length : Int) := by omega
      have HE : Hid (tx = macOut m) := by show _ = _; rw [out_bare h0, ← HT.out]
      have HP0 := Lib.hid (printRes_nil h0)
      have hbig : ¬ 200 < tx.size := by omega
      have HF := Lib.hid (mt_yes HOK.out (by rw [HP0.out]) (by rw [← HE.out]; exact hbig))
      rw [← HE.out] at HF
      go_wp2
      go_ret2
      exact mtext_ret HF.out hB2

end Go.Proofs.Ytdnjpjiepnhhhaa
