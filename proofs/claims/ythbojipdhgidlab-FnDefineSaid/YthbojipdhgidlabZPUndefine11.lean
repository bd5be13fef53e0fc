/- Texts that the proof of PUndefine stands on, in one file. -/
import Derived.Test.YthbojipdhgidlabZPUndefine6
import Derived.Test.YthbojipdhgidlabZPUndefine8
import Derived.Test.YthbojipdhgidlabZPUndefine3
import Derived.Test.YthbojipdhgidlabZPUndefine2
import Derived.Test.YthbojipdhgidlabZPUndefine4
import Derived.Deep.RegionLaw
import Derived.Lib.SliceRun
import Derived.Test.YthbojipdhgidlabZPUndefine10
set_option linter.unusedVariables false
set_option linter.unusedSimpArgs false
/- The program's reading of parameters: the closing bracket. -/
namespace Go.Proofs.Ythbojipdhgidlab
open Go.RowKit
/-- The place of the first closing bracket from k on, or -1. -/
def idxCl (l : List Tok) (k : Nat) : Int := if h : k < l.length then (if l[k].text.toList == [41] then (k : Int) else idxCl l (k + 1)) else -1
termination_by l.length - k
theorem cl_end {l : List Tok} {k : Nat} (h : l.length ≤ k) : idxCl l k = -1 := by rw [idxCl, dif_neg (by omega)]
theorem cl_hit {l : List Tok} {k : Nat} (h : k < l.length) (h1 : (l[k].text.toList == [41]) = true) : idxCl l k = k := by rw [idxCl, dif_pos h, if_pos h1]
theorem cl_miss {l : List Tok} {k : Nat} (h : k < l.length) (h1 : (l[k].text.toList == [41]) = false) : idxCl l k = idxCl l (k + 1) := by rw [idxCl, dif_pos h, h1]; rfl

theorem rowE_own' {α : Type} {S : Shape α} {base : Nat} {e : TypeId} {v : Value} {L : List (Elem α)} {w : World} (h : RowE S base e v L w) (hf : ∀ x ∈ L, x.fp = []) : ∃ fp, (sSlice S).R w [v] (L.map (·.d)) fp ∧ Own w base fp := by
  obtain ⟨fp, h1, _, h3⟩ := slice_of_row h.row fun x hx => ⟨h.len x hx, h.el x hx⟩
  have e0 : L.flatMap (·.fp) = [] := by rw [List.flatMap_eq_nil_iff]; exact hf
  rw [e0] at h3
  exact ⟨fp, h1, h3 (Own.nil _ _) (by simp)⟩

theorem rowE_ownM {base : Nat} {v : Value} {L : List (Elem Tok)} {w : World} (h : RowE sTok base 89 v L w) (hf : ∀ x ∈ L, x.fp = []) : ∃ fp, (sSlice sTok).R w [v] (L.map (·.d)) fp ∧ Own w base fp ∧ NoMac w fp := by
  obtain ⟨fp, h1, h2, h3⟩ := slice_of_row h.row fun x hx => ⟨h.len x hx, h.el x hx⟩
  have e0 : L.flatMap (·.fp) = [] := by rw [List.flatMap_eq_nil_iff]; exact hf
  rw [e0] at h2 h3
  refine ⟨fp, h1, h3 (Own.nil _ _) (by simp), fun b hb => ?_⟩
  rcases h2 b hb with h0 | h0
  · rcases h.row.2 with ⟨h', _⟩ | ⟨g, cap, cur, q1, q2, q3, -⟩
    · rw [h'] at h0; simp [Value.ownBlock] at h0
    · rw [q1] at h0
      simp only [Value.ownBlock, Option.some.injEq] at h0
      subst h0
      exact ⟨_, _, _, q3, by decide⟩
  · simp at h0

/-- A body's token at a place. -/
def bodyF (i : Nat) (t : Tok) : Tok := ⟨t.kind, t.text, t.spaced && decide (0 < i), []⟩
theorem bodyF_take {l : List Tok} {k : Nat} (h : k < l.length) : (l.take (k + 1)).mapIdx bodyF = (l.take k).mapIdx bodyF ++ [bodyF k l[k]] := by
  rw [List.take_succ_eq_append_getElem h, List.mapIdx_append]
  simp [Nat.min_eq_left (Nat.le_of_lt h)]

set_option maxHeartbeats 4000000 in
theorem impl_bodyOf_t (v : Value) (l : List Tok) (fp : List Nat) (w : World) (hl : l.length ≤ 1048576) (H : (sSlice sTok).R w [v] l fp) :
    Calls Try.prog 73 #[v] w fun e w' => ∃ v' fp', e = .returned v' ∧ (sSlice sTok).R w' [v'] (bodyFrom l 0) fp' ∧ Own w' w.heap.size fp' ∧ NoMac w' fp' ∧ Below w.heap.size w w' := by
  obtain ⟨a, cap, rfl, hc, hm, hrow⟩ := open_rows H
  unfold maxLen at hm
  clear H
  go_enter Try.func73, Try.ntmps73
  go_wp2
  go_loopw [3, 8] (fun o i wr => ∃ (k : Nat) (L : List (Elem Tok)), k ≤ l.length ∧ i = .int .i64 k ∧ Hid (RowE sTok w.heap.size 89 o L wr) ∧ Hid (L.map (·.d) = (l.take k).mapIdx bodyF) ∧ Hid (∀ x ∈ L, x.fp = []) ∧ Below w.heap.size w wr) (fun _ i _ => l.length - (intOf i).toNat)
  case atStart => exact ⟨0, [], by omega, rfl, RowE.nil _ _ _ _, rfl, fun x hx => by simp at hx, Below.refl _ _⟩
  case round =>
    obtain ⟨k, L, hk, rfl, HE, HD, HF, hb⟩ := hrel
    by_cases hlt : k < l.length
    · obtain ⟨b1, off1, fps1, rfl, hb1, -, he1⟩ := hrow (by omega)
      obtain ⟨es1, hE1, hR1⟩ := he1 k hlt
      clear hrow he1
      obtain ⟨h1', rfl, hk1, hk2, hK1⟩ := hR1
      obtain ⟨ah, ch, rfl, -⟩ := open_strs hK1
      clear hK1
      replace hE1 := hE1.frame (hb.block b1 hb1)
      have c10 : wr.cell? ⟨b1, off1 + k * 4, none⟩ = some _ := elem_cell0 hE1 (by decide) rfl
      have c11 : wr.cell? ⟨b1, off1 + k * 4 + 1, none⟩ = some _ := elem_cell (j := 1) hE1 (by decide) rfl
      have c12 : wr.cell? ⟨b1, off1 + k * 4 + 2, none⟩ = some _ := elem_cell (j := 2) hE1 (by decide) rfl
      have c13 : wr.cell? ⟨b1, off1 + k * 4 + 3, none⟩ = some _ := elem_cell (j := 3) hE1 (by decide) rfl
      clear hE1
      have HLl : Hid (L.length = k) := by have := congrArg List.length HD.out; simp at this; show _ = _; omega
      have hba := alloc_below' wr (.cells #[.int .i64 l[k].kind, .string l[k].text, .bool l[k].spaced, .slice ah l[k].hidden.length ch] 89)
      have HEb := Lib.hid (HE.out.below hba)
      have HKT := Lib.hid (And.intro hk1 hk2)
      obtain ⟨ar, capr, rfl, -⟩ := HE.out.val
      have hbw := hb.trans (hba.mono hb.size)
      clear HE hba hk1 hk2
      have HR : ∀ sp : Bool, Hid (sTok.R (wr.alloc (.cells #[.int .i64 l[k].kind, .string l[k].text, .bool l[k].spaced, .slice ah l[k].hidden.length ch] 89)) [.int .i64 l[k].kind, .string l[k].text, .bool sp, .slice none 0 0] ⟨l[k].kind, l[k].text, sp, []⟩ []) := fun sp => ⟨_, rfl, HKT.out.1, HKT.out.2, slice_empty sStr _ none 0 (by simp)⟩
      have HWs : Hid ((wr.alloc (.cells #[.int .i64 l[k].kind, .string l[k].text, .bool l[k].spaced, .slice ah l[k].hidden.length ch] 89)).heap.size = wr.heap.size + 1) := Array.size_push _
      by_cases h0 : 0 < k
      · have g1 : decide ((0 : Int) < (k : Int)) = true := decide_eq_true (by omega)
        have g2 : decide (0 < k) = true := decide_eq_true h0
        have HB : Hid (bodyF k l[k] = ⟨l[k].kind, l[k].text, l[k].spaced, []⟩) := by show bodyF k l[k] = _; unfold bodyF; rw [g2, Bool.and_true]
        clear h0
        go_wp2_with (at_builtin; refine wp_append_tokE rfl (.tmp 13) (.tmp 25) rfl w.heap.size (.slice ar L.length capr) L rfl HEb.out l[k].kind l[k].text l[k].spaced none 0 0 [] [] (by rw [HWs.out]; rfl) (HR l[k].spaced).out (by simp) (by simp) (by have := HLl.out; omega) hbw.size ?_; intro v3 w3 hE3 hg3)
        have hb3 : Below w.heap.size w w3 := hbw.grown hg3 hbw.size (fun b hb => (HEb.out.row.lt b hb).1)
        have HE3 := Lib.hid hE3
        have HD3 : Hid ((L ++ [(⟨[.int .i64 l[k].kind, .string l[k].text, .bool l[k].spaced, .slice none 0 0], ⟨l[k].kind, l[k].text, l[k].spaced, []⟩, []⟩ : Elem Tok)]).map (·.d) = (l.take (k + 1)).mapIdx bodyF) := by
          show _ = _
          rw [List.map_append, HD.out, bodyF_take hlt, HB.out]; rfl
        have HF3 : Hid (∀ x ∈ L ++ [(⟨[.int .i64 l[k].kind, .string l[k].text, .bool l[k].spaced, .slice none 0 0], ⟨l[k].kind, l[k].text, l[k].spaced, []⟩, []⟩ : Elem Tok)], x.fp = []) := fun x hx => (List.mem_append.1 hx).elim (HF.out x) (fun h => by rw [List.mem_singleton.1 h])
        clear hE3 hg3 HR g1 g2 c10 c11 c12 c13
        go_roundw
        case rel => exact ⟨k + 1, _, by omega, by go_num, HE3, HD3, HF3, hb3⟩
        case measure => simp [intOf]; omega
      · have g1 : decide ((0 : Int) < (k : Int)) = false := decide_eq_false (by omega)
        have g2 : decide (0 < k) = false := decide_eq_false h0
        have HB : Hid (bodyF k l[k] = ⟨l[k].kind, l[k].text, false, []⟩) := by show bodyF k l[k] = _; unfold bodyF; rw [g2, Bool.and_false]
        clear h0
        go_wp2_with (at_builtin; refine wp_append_tokE rfl (.tmp 13) (.tmp 25) rfl w.heap.size (.slice ar L.length capr) L rfl HEb.out l[k].kind l[k].text false none 0 0 [] [] (by rw [HWs.out]; rfl) (HR false).out (by simp) (by simp) (by have := HLl.out; omega) hbw.size ?_; intro v3 w3 hE3 hg3)
        have hb3 : Below w.heap.size w w3 := hbw.grown hg3 hbw.size (fun b hb => (HEb.out.row.lt b hb).1)
        have HE3 := Lib.hid hE3
        have HD3 : Hid ((L ++ [(⟨[.int .i64 l[k].kind, .string l[k].text, .bool false, .slice none 0 0], ⟨l[k].kind, l[k].text, false, []⟩, []⟩ : Elem Tok)]).map (·.d) = (l.take (k + 1)).mapIdx bodyF) := by
          show _ = _
          rw [List.map_append, HD.out, bodyF_take hlt, HB.out]; rfl
        have HF3 : Hid (∀ x ∈ L ++ [(⟨[.int .i64 l[k].kind, .string l[k].text, .bool false, .slice none 0 0], ⟨l[k].kind, l[k].text, false, []⟩, []⟩ : Elem Tok)], x.fp = []) := fun x hx => (List.mem_append.1 hx).elim (HF.out x) (fun h => by rw [List.mem_singleton.1 h])
        clear hE3 hg3 HR g1 g2 c10 c11 c12 c13
        go_roundw
        case rel => exact ⟨k + 1, _, by omega, by go_num, HE3, HD3, HF3, hb3⟩
        case measure => simp [intOf]; omega
    · obtain ⟨fpr, hr, ho, hn⟩ := rowE_ownM HE.out HF.out
      have hd := HD.out
      rw [List.take_of_length_le (by omega)] at hd
      rw [hd] at hr
      have HR := Lib.hid hr
      have HO := Lib.hid ho
      have HNM := Lib.hid hn
      clear hr hd HE HD ho HF hn
      go_wp2
      go_ret
      exact ⟨_, fpr, rfl, HR.out, HO.out, HNM.out, hb⟩

theorem impl_bodyOf (v : Value) (l : List Tok) (fp : List Nat) (w : World) (hl : l.length ≤ 1048576) (H : (sSlice sTok).R w [v] l fp) :
    Calls Try.prog 73 #[v] w fun e w' => ∃ v' fp', e = .returned v' ∧ (sSlice sTok).R w' [v'] (bodyFrom l 0) fp' ∧ Own w' w.heap.size fp' ∧ Below w.heap.size w w' :=
  (impl_bodyOf_t v l fp w hl H).mono fun _ _ ⟨v, fp, h1, h2, h3, _, h4⟩ => ⟨v, fp, h1, h2, h3, h4⟩

end Go.Proofs.Ythbojipdhgidlab

/- A macro's copy, and a table's, of the program.  -/
namespace Go.Proofs.Ythbojipdhgidlab
open Go.RowKit

/-- What a copy of a macro reads as. -/
def cpMac (x : DMacro) : DMacro := ⟨x.name, x.function, x.params, bodyFrom x.body 0⟩
theorem bodyFrom_len0 (l : List Tok) : (bodyFrom l 0).length = l.length := by unfold bodyFrom; simp
theorem cpMac_ok {x : DMacro} (h : macOk x = true) : cpMac x = x := by
  obtain ⟨_, _, h7⟩ := macOk_facts h
  have e : bodyFrom x.body 0 = x.body := by
    refine List.ext_getElem (bodyFrom_len0 _) fun i h1 h2 => ?_
    obtain ⟨_, b2, b3⟩ := bodOk_facts h2 (h7 i h2)
    unfold bodyFrom
    simp only [List.drop_zero, List.getElem_mapIdx]
    have hs : (x.body[i].spaced && decide (0 < i)) = x.body[i].spaced := by
      by_cases h0 : i = 0
      · rw [b3 h0, Bool.false_and]
      · rw [decide_eq_true (by omega), Bool.and_true]
    rw [hs]
    exact (show (⟨x.body[i].kind, x.body[i].text, x.body[i].spaced, []⟩ : Tok) = x.body[i] by rw [← b2])
  unfold cpMac
  rw [e]
/-- A copy of the call's own. -/
def CopyMac (x : DMacro) (w : World) (e : Ending) (w' : World) : Prop :=
  ∃ (a2 a3 : Option Addr) (c2 c3 : Nat) (fp : List Nat), e = .returned (.agg #[.string x.name, .bool x.function, .slice a2 x.params.length c2, .slice a3 x.body.length c3]) ∧ sMacro.R w' [.string x.name, .bool x.function, .slice a2 x.params.length c2, .slice a3 x.body.length c3] (cpMac x) fp ∧
    Own w' w.heap.size fp ∧ NoMac w' fp ∧ Below w.heap.size w w'

set_option maxHeartbeats 8000000 in
set_option maxRecDepth 100000 in
theorem impl_copyMacro (cs : List Value) (x : DMacro) (fp : List Nat) (w : World) (hp : x.params.length ≤ 2000000) (hl : x.body.length ≤ 1048576) (H : sMacro.R w cs x fp) :
    Calls Try.prog 39 #[.agg cs.toArray] w (CopyMac x w) := by
  obtain ⟨h2, h3, p2, p3, rfl, hok, K2, K3, rfl⟩ := H
  obtain ⟨a2, c2, rfl, -, -, -, hsz⟩ := open_strs K2
  obtain ⟨a3, c3, rfl, -⟩ := open_rows K3
  have b0 := alloc_below' w (.cells #[.string x.name, .bool x.function, .slice a2 x.params.length c2, .slice a3 x.body.length c3] 35)
  have b1 := b0.trans ((alloc_below' (w.alloc (.cells #[.string x.name, .bool x.function, .slice a2 x.params.length c2, .slice a3 x.body.length c3] 35)) (.cells #[.string ⟨#[]⟩, .bool false, .slice none 0 0, .slice none 0 0] 35)).mono b0.size)
  have HG := Lib.hid (alloc2_blk w #[.string x.name, .bool x.function, .slice a2 x.params.length c2, .slice a3 x.body.length c3] #[.string ⟨#[]⟩, .bool false, .slice none 0 0, .slice none 0 0] 35 35)
  have HW2 : Hid (((w.alloc (.cells #[.string x.name, .bool x.function, .slice a2 x.params.length c2, .slice a3 x.body.length c3] 35)).alloc (.cells #[.string ⟨#[]⟩, .bool false, .slice none 0 0, .slice none 0 0] 35)).heap.size = w.heap.size + 2) := by
    show ((w.heap.push _).push _).size = _
    simp
  have HK2 := Lib.hid ((sSlice sStr).below K2 b1)
  have HK3 := Lib.hid ((sSlice sTok).below K3 b1)
  have HSZ := Lib.hid hsz
  have HB1 := Lib.hid b1
  clear K2 K3 hsz b0 b1
  obtain ⟨hv, HV⟩ : ∃ hv : Value, Hid (hv = Value.slice a2 x.params.length c2) := ⟨_, rfl⟩
  go_enter Try.func39, Try.ntmps39
  go_upto_region 2 with fail
  generalize ((w.alloc (.cells #[.string x.name, .bool x.function, .slice a2 x.params.length c2, .slice a3 x.body.length c3] 35)).alloc (.cells #[.string ⟨#[]⟩, .bool false, .slice none 0 0, .slice none 0 0] 35)) = W2 at *
  have c02 : W2.cell? ⟨w.heap.size, 2, none⟩ = some hv := by
    rw [HV.out]
    exact cell_of_row _ _ 2 _ _ _ HG.out.1
  have HKV : Hid ((sSlice sStr).R W2 [hv] x.params p2) := by show (sSlice sStr).R _ _ _ _; rw [HV.out]; exact HK2.out
  go_wp2_with (
    at_builtin
    refine wp_append_strsR rfl (.tmp 4) (.tmp 6) rfl W2.heap.size (.slice none 0 0) hv [] x.params _ rfl (World.ownsRow_nil _ _ _ _) rfl HKV.out (by simp; omega) (Nat.le_refl _) ?_
    intro v5 w1 hown hgrow
    rw [List.nil_append] at hown
    obtain ⟨fp1, R1, O1, hfp⟩ := own_flat (ok := okStr) hown HSZ.out
    have hbW : Below W2.heap.size W2 w1 := (Below.refl W2.heap.size W2).grown hgrow (Nat.le_refl _) (fun b hb => by simp [Value.ownBlock] at hb)
    have hN1 : NoMac w1 fp1 := fun b hb' => by
      have hv := hfp b hb'
      rcases hown.2 with ⟨rfl, _⟩ | ⟨g, cap, cur, rfl, _, hg, _⟩
      · simp [Value.ownBlock] at hv
      · simp only [Value.ownBlock, Option.some.injEq] at hv
        subst hv
        exact ⟨_, _, _, hg, by decide⟩
    obtain ⟨a1, cap1, rfl, hq⟩ := open_rows R1
    clear hq
    have HALL := Lib.hid (And.intro R1 (And.intro O1 (And.intro hN1 hbW)))
    clear hown hgrow R1 O1 hfp hbW hN1 c02)
  obtain ⟨R1, O1, hN1, hbW⟩ := HALL.out
  have hw2 := HW2.out
  have hs1 := hbW.size
  have HG1 : Hid (w1.heap[w.heap.size]? = some (.cells #[.string x.name, .bool x.function, .slice a2 x.params.length c2, .slice a3 x.body.length c3] 35 (0, 0)) ∧ w1.heap[w.heap.size + 1]? = some (.cells #[.string ⟨#[]⟩, .bool false, .slice none 0 0, .slice none 0 0] 35 (0, 0))) := ⟨(hbW.block _ (by omega)).trans HG.out.1, (hbW.block _ (by omega)).trans HG.out.2⟩
  have HB2 := Lib.hid (HB1.out.trans (hbW.mono HB1.out.size))
  have HK4 := Lib.hid ((sSlice sTok).below HK3.out hbW)
  clear HALL HG HKV HK2 HK3 HV HB1 hbW
  have hd : Below w1.heap.size w1 w1.drew := belowN (Below.refl _ _) 1
  refine wp_region_noPanic ?_
  refine wp_region_held_drew (S := fun w' => w'.heap[w.heap.size]? = some (.cells #[.string x.name, .bool x.function, .slice a2 x.params.length c2, .slice a3 x.body.length c3] 35 (0, 0))) (by kernel_rfl) (by exact HG1.out.1) (fun hHeld => ?_)
  have HZd := Lib.hid (show w1.drew.heap[w.heap.size + 1]? = _ from HG1.out.2)
  have HRd := Lib.hid ((sSlice sStr).below R1 hd)
  have HOd := Lib.hid (O1.grow hd)
  have HNd := Lib.hid (hN1.below hd)
  have HKd := Lib.hid ((sSlice sTok).below HK4.out hd)
  have HBd := Lib.hid (HB2.out.trans (hd.mono HB2.out.size))
  have hsd : w1.heap.size ≤ w1.drew.heap.size := hd.size
  clear R1 O1 hN1 HG1 HK4 HB2 hd
  generalize w1.drew = wd at *
  refine takeH 0 8 (v := ?_) rfl rfl (by kernel_rfl) (by kernel_rfl) (by kernel_rfl) (fun _ _ _ h => h) (by rfl) (by assumption) ?_ ?_
  rotate_left
  · intro w hSw; have s0 := cell_of_row _ _ 0 _ _ _ hSw; have s1 := cell_of_row _ _ 1 _ _ _ hSw; have s2 := cell_of_row _ _ 2 _ _ _ hSw; have s3 := cell_of_row _ _ 3 _ _ _ hSw; go_simp; (first | done | with_reducible rfl)
  try simp only [Act.put, List.setIfInBounds_toArray, List.set_cons_zero, List.set_cons_succ]
  refine takeH 1 9 (v := ?_) rfl rfl (by kernel_rfl) (by kernel_rfl) (by kernel_rfl) (fun _ _ _ h => h) (by rfl) (by assumption) ?_ ?_
  rotate_left
  · intro w hSw; have s0 := cell_of_row _ _ 0 _ _ _ hSw; have s1 := cell_of_row _ _ 1 _ _ _ hSw; have s2 := cell_of_row _ _ 2 _ _ _ hSw; have s3 := cell_of_row _ _ 3 _ _ _ hSw; go_simp; (first | done | with_reducible rfl)
  try simp only [Act.put, List.setIfInBounds_toArray, List.set_cons_zero, List.set_cons_succ]
  refine takeH 2 10 (v := ?_) rfl rfl (by kernel_rfl) (by kernel_rfl) (by kernel_rfl) (fun _ _ _ h => h) (by rfl) (by assumption) ?_ ?_
  rotate_left
  · intro w hSw; have s0 := cell_of_row _ _ 0 _ _ _ hSw; have s1 := cell_of_row _ _ 1 _ _ _ hSw; have s2 := cell_of_row _ _ 2 _ _ _ hSw; have s3 := cell_of_row _ _ 3 _ _ _ hSw; go_simp; (first | done | with_reducible rfl)
  try simp only [Act.put, List.setIfInBounds_toArray, List.set_cons_zero, List.set_cons_succ]
  refine takeH 3 11 (v := ?_) rfl rfl (by kernel_rfl) (by kernel_rfl) (by kernel_rfl) (fun _ _ _ h => h) (by rfl) (by assumption) ?_ ?_
  rotate_left
  · intro w hSw; have s0 := cell_of_row _ _ 0 _ _ _ hSw; have s1 := cell_of_row _ _ 1 _ _ _ hSw; have s2 := cell_of_row _ _ 2 _ _ _ hSw; have s3 := cell_of_row _ _ 3 _ _ _ hSw; go_simp; (first | done | with_reducible rfl)
  try simp only [Act.put, List.setIfInBounds_toArray, List.set_cons_zero, List.set_cons_succ]
  refine takeH 4 12 (v := ?_) rfl rfl (by kernel_rfl) (by kernel_rfl) (by kernel_rfl) (fun _ _ _ h => h) (by rfl) (by assumption) ?_ ?_
  rotate_left
  · intro w hSw; have s0 := cell_of_row _ _ 0 _ _ _ hSw; have s1 := cell_of_row _ _ 1 _ _ _ hSw; have s2 := cell_of_row _ _ 2 _ _ _ hSw; have s3 := cell_of_row _ _ 3 _ _ _ hSw; go_simp; (first | done | with_reducible rfl)
  try simp only [Act.put, List.setIfInBounds_toArray, List.set_cons_zero, List.set_cons_succ]
  refine takeH 5 13 (v := ?_) rfl rfl (by kernel_rfl) (by kernel_rfl) (by kernel_rfl) (fun _ _ _ h => h) (by rfl) (by assumption) ?_ ?_
  rotate_left
  · intro w hSw; have s0 := cell_of_row _ _ 0 _ _ _ hSw; have s1 := cell_of_row _ _ 1 _ _ _ hSw; have s2 := cell_of_row _ _ 2 _ _ _ hSw; have s3 := cell_of_row _ _ 3 _ _ _ hSw; go_simp; (first | done | with_reducible rfl)
  try simp only [Act.put, List.setIfInBounds_toArray, List.set_cons_zero, List.set_cons_succ]
  refine takeH 6 14 (v := ?_) rfl rfl (by kernel_rfl) (by kernel_rfl) (by kernel_rfl) (fun _ _ _ h => h) (by rfl) (by assumption) ?_ ?_
  rotate_left
  · intro w hSw; have s0 := cell_of_row _ _ 0 _ _ _ hSw; have s1 := cell_of_row _ _ 1 _ _ _ hSw; have s2 := cell_of_row _ _ 2 _ _ _ hSw; have s3 := cell_of_row _ _ 3 _ _ _ hSw; go_simp; (first | done | with_reducible rfl)
  try simp only [Act.put, List.setIfInBounds_toArray, List.set_cons_zero, List.set_cons_succ]
  refine wpAnyH_ready (rs := [7]) (by kernel_rfl) (by simp) ?_
  refine AllReadyH.cons rfl (fun K hK => ?_) AllReadyH.nil
  go_simp
  refine (impl_bodyOf_t _ x.body p3 wd hl HKd.out).mono ?_
  rintro e w3 ⟨v3, fp3, rfl, R3, O3, hn3, hb3⟩
  obtain ⟨a4, c4, rfl, -⟩ := open_rows R3
  rw [bodyFrom_len0]
  have hs3 := hb3.size
  have HZ3 := Lib.hid ((hb3.block (w.heap.size + 1) (by omega)).trans HZd.out)
  have HM3 := Lib.hid ((hb3.block w.heap.size (by omega)).trans hHeld)
  rw [bodyFrom_len0] at R3
  have hd1 : ∀ b ∈ fp1, w.heap.size + 2 ≤ b ∧ b < wd.heap.size := fun b hb => ⟨by have := (HOd.out.2 b hb).1; omega, HOd.out.lt b hb⟩
  have hd3 : ∀ b ∈ fp3, wd.heap.size ≤ b := fun b hb => (O3.2 b hb).1
  have HRF : Hid (sMacro.R (setM w3 (w.heap.size + 1) (.string x.name) (.bool x.function) (.slice a1 x.params.length cap1) (.slice a4 x.body.length c4)) [.string x.name, .bool x.function, .slice a1 x.params.length cap1, .slice a4 x.body.length c4] (cpMac x) (fp1 ++ fp3)) :=
    ⟨_, _, fp1, fp3, rfl, hok, (sSlice sStr).frame (fun b hb => setM_far (by have := (hd1 b hb).1; omega) _ _ _ _) ((sSlice sStr).below HRd.out hb3), (sSlice sTok).frame (fun b hb => setM_far (by have := hd3 b hb; omega) _ _ _ _) R3, rfl⟩
  have HOF : Hid (Own (setM w3 (w.heap.size + 1) (.string x.name) (.bool x.function) (.slice a1 x.params.length cap1) (.slice a4 x.body.length c4)) w.heap.size (fp1 ++ fp3)) := by
    have h1 : Own w3 w.heap.size fp1 := (HOd.out.grow hb3).lower (by omega)
    have h3 : Own w3 w.heap.size fp3 := O3.lower (by omega)
    have h := h1.app h3 (fun b hb hx => by have h1 := (hd1 b hb).2; have h2 := hd3 b hx; omega)
    exact (((h.setCell _ _).setCell _ _).setCell _ _).setCell _ _
  have HNF : Hid (NoMac (setM w3 (w.heap.size + 1) (.string x.name) (.bool x.function) (.slice a1 x.params.length cap1) (.slice a4 x.body.length c4)) (fp1 ++ fp3)) :=
    NoMac.app ((HNd.out.below hb3).same fun b hb _ => setM_far (by have := (hd1 b hb).1; omega) _ _ _ _) (hn3.same fun b hb _ => setM_far (by have := hd3 b hb; omega) _ _ _ _)
  have HBF := Lib.hid (setM_below (g := w.heap.size + 1) (HBd.out.trans (hb3.mono HBd.out.size)) (by omega) (.string x.name) (.bool x.function) (.slice a1 x.params.length cap1) (.slice a4 x.body.length c4))
  have HSF := Lib.hid (setM_at HZ3.out (.string x.name) (.bool x.function) (.slice a1 x.params.length cap1) (.slice a4 x.body.length c4))
  refine hK.out _ _ HM3.out (fun hHeld => ?_)
  clear hK K
  try simp only [Act.put, List.setIfInBounds_toArray, List.set_cons_zero, List.set_cons_succ]
  clear HZd HRd HOd HNd HKd HBd R3 O3 hn3 hb3 hd1 hd3
  refine takeH 8 16 (v := ?_) rfl rfl (by kernel_rfl) (by kernel_rfl) (by kernel_rfl) (fun _ _ _ h => h) (by rfl) (by assumption) ?_ ?_
  rotate_left
  · intro w hSw; have s0 := cell_of_row _ _ 0 _ _ _ hSw; have s1 := cell_of_row _ _ 1 _ _ _ hSw; have s2 := cell_of_row _ _ 2 _ _ _ hSw; have s3 := cell_of_row _ _ 3 _ _ _ hSw; go_simp; (first | done | with_reducible rfl)
  try simp only [Act.put, List.setIfInBounds_toArray, List.set_cons_zero, List.set_cons_succ]
  have z0 := cell_of_row w3 (w.heap.size + 1) 0 _ _ _ HZ3.out
  have zf0 : w3.frozen? ⟨w.heap.size + 1, 0, none⟩ = false := frozen_of_row _ _ 0 _ _ HZ3.out
  have z1 := cell_of_row w3 (w.heap.size + 1) 1 _ _ _ HZ3.out
  have zf1 : w3.frozen? ⟨w.heap.size + 1, 1, none⟩ = false := frozen_of_row _ _ 1 _ _ HZ3.out
  have z2 := cell_of_row w3 (w.heap.size + 1) 2 _ _ _ HZ3.out
  have zf2 : w3.frozen? ⟨w.heap.size + 1, 2, none⟩ = false := frozen_of_row _ _ 2 _ _ HZ3.out
  have z3 := cell_of_row w3 (w.heap.size + 1) 3 _ _ _ HZ3.out
  have zf3 : w3.frozen? ⟨w.heap.size + 1, 3, none⟩ = false := frozen_of_row _ _ 3 _ _ HZ3.out
  refine wpAnyH_ready (rs := [9]) (by kernel_rfl) (by simp) ?_
  refine AllReadyH.cons rfl (fun K hK => ?_) AllReadyH.nil
  go_simp
  change K _ (setM w3 (w.heap.size + 1) (.string x.name) (.bool x.function) (.slice a1 x.params.length cap1) (.slice a4 x.body.length c4))
  refine hK.out _ _ ((setM_far (by omega) _ _ _ _).trans HM3.out) (fun hHeld => ?_)
  clear hK K
  try simp only [Act.put, List.setIfInBounds_toArray, List.set_cons_zero, List.set_cons_succ]
  refine wpAnyH_done (by kernel_rfl) ?_ _
  refine NoPanic.normal ?_
  clear hHeld
  go_wp2
  refine bodyPost_ret (results_cell_row rfl _ _ (w.heap.size + 1) _ _ _ _ rfl HSF.out Try.underlying35 rfl (by kernel_rfl)) rfl ?_
  exact ⟨a1, a4, cap1, c4, fp1 ++ fp3, rfl, HRF.out, HOF.out, HNF.out, HBF.out⟩

end Go.Proofs.Ythbojipdhgidlab

/- A table's copy, of the program. -/
namespace Go.Proofs.Ythbojipdhgidlab
open Go.RowKit

/-- A table of the call's own. -/
def MineTab (l : List DMacro) (w : World) (e : Ending) (w' : World) : Prop :=
  ∃ (v : Value) (L : List (Elem DMacro)), e = .returned v ∧ RowE sMacro w.heap.size 35 v L w' ∧ L.map (·.d) = l ∧ Own w' w.heap.size (L.flatMap (·.fp)) ∧ Below w.heap.size w w'
theorem own_grown {w w' : World} {lo : Nat} {fp : List Nat} {r : Option Nat} (h : Own w lo fp) (hg : w.grownBy w' r) (hn : ∀ b ∈ fp, some b ≠ r) : Own w' lo fp :=
  ⟨h.1, fun b hb => ⟨(h.2 b hb).1, by
    obtain ⟨cur, e, h1⟩ := (h.2 b hb).2
    exact ⟨cur, e, (hg.block b (h.lt b hb) (hn b hb)).trans h1⟩⟩⟩

set_option maxHeartbeats 4000000 in
set_option maxRecDepth 100000 in
theorem impl_copyTable (v : Value) (l : List DMacro) (fp : List Nat) (w : World) (hl : l.length ≤ 1048576) (hx : ∀ k, (hk : k < l.length) → MacSm l[k]) (H : (sSlice sMacro).R w [v] l fp) :
    Calls Try.prog 26 #[v] w (MineTab (l.map cpMac) w) := by
  obtain ⟨a, cap, rfl, hc, hm, hrow⟩ := open_rows H
  unfold maxLen at hm
  clear H
  have HX := Lib.hid hx
  clear hx
  go_enter Try.func26, Try.ntmps26
  go_wp2
  go_loopw [3, 8] (fun o i wr => ∃ (k : Nat) (L : List (Elem DMacro)), k ≤ l.length ∧ i = .int .i64 k ∧ Hid (RowE sMacro w.heap.size 35 o L wr) ∧ Hid (L.map (·.d) = (l.take k).map cpMac) ∧ Hid (Own wr w.heap.size (L.flatMap (·.fp))) ∧ Below w.heap.size w wr) (fun _ i _ => l.length - (intOf i).toNat)
  case atStart => exact ⟨0, [], by omega, rfl, RowE.nil _ _ _ _, rfl, (show Own w w.heap.size [] from Own.nil _ _), Below.refl _ _⟩
  case round =>
    obtain ⟨k, L, hk, rfl, HE, HD, HO, hb⟩ := hrel
    by_cases hlt : k < l.length
    · obtain ⟨b1, off1, fps1, rfl, hb1, -, he1⟩ := hrow (by omega)
      obtain ⟨es1, hE1, hR1⟩ := he1 k hlt
      clear hrow he1
      have hR1' := sMacro.below hR1 hb
      obtain ⟨h2, h3, p2, p3, rfl, _, K2, K3, _⟩ := hR1
      obtain ⟨q2, d2, rfl, -⟩ := open_strs K2
      obtain ⟨q3, d3, rfl, -⟩ := open_rows K3
      clear K2 K3
      replace hE1 := hE1.frame (hb.block b1 hb1)
      have c10 : wr.cell? ⟨b1, off1 + k * 4, none⟩ = some _ := elem_cell0 hE1 (by decide) rfl
      have c11 : wr.cell? ⟨b1, off1 + k * 4 + 1, none⟩ = some _ := elem_cell (j := 1) hE1 (by decide) rfl
      have c12 : wr.cell? ⟨b1, off1 + k * 4 + 2, none⟩ = some _ := elem_cell (j := 2) hE1 (by decide) rfl
      have c13 : wr.cell? ⟨b1, off1 + k * 4 + 3, none⟩ = some _ := elem_cell (j := 3) hE1 (by decide) rfl
      clear hE1
      have hba := alloc_below' wr (.cells #[.string l[k].name, .bool l[k].function, .slice q2 l[k].params.length d2, .slice q3 l[k].body.length d3] 35)
      have HC := Lib.hid (impl_copyMacro _ l[k] _ (wr.alloc (.cells #[.string l[k].name, .bool l[k].function, .slice q2 l[k].params.length d2, .slice q3 l[k].body.length d3] 35)) (HX.out k hlt).1 (HX.out k hlt).2.1 (sMacro.below hR1' hba))
      have HLl : Hid (L.length = k) := by have := congrArg List.length HD.out; simp at this; show _ = _; omega
      have HE1 := Lib.hid (HE.out.below hba)
      have HO1 := Lib.hid (HO.out.grow hba)
      have hbw1 := hb.trans (hba.mono hb.size)
      clear HE HO hba hR1'
      go_wp2_with fail
      refine HC.out.mono ?_
      rintro e w2 ⟨a2, a3, c2, c3, fp2, rfl, hR2, hO2, hN2, hb2⟩
      obtain ⟨ar, capr, rfl, -⟩ := HE1.out.val
      have hE2 := HE1.out.below hb2
      have hO1 := HO1.out.grow hb2
      have hbw := hbw1.trans (hb2.mono hbw1.size)
      have hlo3 : ∀ b ∈ fp2, w.heap.size ≤ b := fun b hx => Nat.le_trans hbw1.size (hO2.2 b hx).1
      have hapt : ∀ b ∈ L.flatMap (·.fp), b ∉ fp2 := fun b hb hx => by
        have h1 := HO1.out.lt b hb
        have h2 := (hO2.2 b hx).1
        omega
      have hOO := hO1.app (hO2.lower hbw1.size) hapt
      have hap : ∀ b ∈ L.flatMap (·.fp) ++ fp2, some b ≠ (Value.slice ar L.length capr).ownBlock := fun b hb e => by
        rcases List.mem_append.1 hb with h | h
        · obtain ⟨x, hx, hb'⟩ := List.mem_flatMap.1 h
          exact hE2.ap hx hb' e.symm
        · rcases hE2.row.2 with ⟨h0, _⟩ | ⟨g, capg, curg, q1, q2, q3, -⟩
          · rw [h0] at e; simp [Value.ownBlock] at e
          · rw [q1] at e
            simp only [Value.ownBlock, Option.some.injEq] at e
            subst e
            obtain ⟨cur, t, fr, h1, h2⟩ := hN2 b h
            rw [h1] at q3
            simp only [Option.some.injEq, Obj.cells.injEq] at q3
            exact h2 q3.2.1
      clear c10 c11 c12 c13 HC HE1 HO1 hO1 hapt
      go_wp2_with (at_builtin; refine wp_append_macE rfl (.tmp 12) (.tmp 15) rfl w.heap.size (.slice ar L.length capr) L rfl hE2 l[k].name l[k].function a2 a3 l[k].params.length c2 l[k].body.length c3 (cpMac l[k]) fp2 rfl hR2 hlo3 hN2 (by have := HLl.out; omega) hbw.size ?_; intro v3 w3 hE3 hg3)
      have hb3 : Below w.heap.size w w3 := hbw.grown hg3 hbw.size (fun b hb => (hE2.row.lt b hb).1)
      have HE3 := Lib.hid hE3
      have HO3 : Hid (Own w3 w.heap.size ((L ++ [(⟨[.string l[k].name, .bool l[k].function, .slice a2 l[k].params.length c2, .slice a3 l[k].body.length c3], cpMac l[k], fp2⟩ : Elem DMacro)]).flatMap (·.fp))) := by
        show Own _ _ _
        rw [List.flatMap_append]
        have := own_grown hOO hg3 hap
        simpa using this
      have HD3 : Hid ((L ++ [(⟨[.string l[k].name, .bool l[k].function, .slice a2 l[k].params.length c2, .slice a3 l[k].body.length c3], cpMac l[k], fp2⟩ : Elem DMacro)]).map (·.d) = (l.take (k + 1)).map cpMac) := by
        show _ = _
        rw [List.map_append, HD.out, List.take_succ_eq_append_getElem hlt, List.map_append]; rfl
      clear hE2 hE3 hg3 hR2 hN2 hO2 hlo3 hb2 hOO hap
      go_roundw
      case rel => exact ⟨k + 1, _, by omega, by go_num, HE3, HD3, HO3, hb3⟩
      case measure => simp [intOf]; omega
    · have HDF : Hid (L.map (·.d) = l.map cpMac) := by
        show _ = _
        rw [HD.out, List.take_of_length_le (by omega)]
      clear HD
      go_wp2
      go_ret
      exact ⟨_, L, rfl, HE.out, HDF.out, HO.out, hb⟩

end Go.Proofs.Ythbojipdhgidlab

/- slices.Delete of one macro, of a row of the call's own. -/
namespace Go.Proofs.Ythbojipdhgidlab
open Go.RowKit

theorem zero_mac (w : World) : (zeroValue 35).run Try.prog w = .ok (.agg #[.string ⟨#[]⟩, .bool false, .slice none 0 0, .slice none 0 0]) w := Try.zeroValue35 w
theorem run_clear_mac (w : World) (ty : TypeId) (b o c : Nat) (hc : ∀ j, j < 4 → (w.cell? ⟨b, o + j, none⟩).isSome = true) (hf : ∀ j, j < 4 → w.frozen? ⟨b, o + j, none⟩ = false) :
    (Builtin.clear_ #[23] ty #[.slice (some ⟨b, o, none⟩) 1 c]).run Try.prog w = .ok (.tuple #[]) (w.setCells b o [.string ⟨#[]⟩, .bool false, .slice none 0 0, .slice none 0 0]) := by
  have hzc : (Builtin.zeroCells (Value.agg #[.string ⟨#[]⟩, .bool false, .slice none 0 0, .slice none 0 0]).cells 1).toList = [.string ⟨#[]⟩, .bool false, .slice none 0 0, .slice none 0 0] := by kernel_rfl
  have hst := run_storeCells_cells (P := Try.prog) b o [.string ⟨#[]⟩, .bool false, .slice none 0 0, .slice none 0 0] 0 w (by simpa using hc) (by simpa using hf) (by simp [Value.oneCell'])
  simp only [Nat.add_zero] at hst
  simp [Builtin.clear_, run_underlying ti_mac.1, zero_mac, hzc, hst]
theorem putAll_eq (b : Nat) : ∀ (vs : List Value) (w : World) (o : Nat), putAll w b o vs = w.setCells b o vs
  | [], _, _ => rfl
  | v :: vs, w, o => putAll_eq b vs _ (o + 1)
theorem setFrom_len : ∀ (cs xs : List Value) (o : Nat), (setFrom xs o cs).length = xs.length
  | [], _, _ => rfl
  | c :: cs, xs, o => by unfold setFrom; rw [setFrom_len cs]; simp
theorem setFrom_take : ∀ (cs xs : List Value) (o n : Nat), n ≤ o → (setFrom xs o cs).take n = xs.take n
  | [], _, _, _, _ => rfl
  | c :: cs, xs, o, n, h => by
    unfold setFrom
    rw [setFrom_take cs _ (o + 1) n (by omega)]
    exact List.take_set_of_le h
/-- What a row's cells read as with an element gone. -/
theorem row_gone {base e : Nat} {g n cap k : Nat} {L : List (Elem DMacro)} {w : World} (hrow : w.ownsRow base e 4 (.slice (some ⟨g, 0, none⟩) n cap) n (L.flatMap (·.cells))) (h4 : ∀ x ∈ L, x.cells.length = 4) (hL : L.length = n) (hk : k < n) (zs : List Value) :
    ((w.setCells g (k * 4) ((L.drop (k + 1)).flatMap (·.cells))).setCells g ((n - 1) * 4) zs).ownsRow base e 4 (.slice (some ⟨g, 0, none⟩) (n - 1) cap) (n - 1) ((L.take k ++ L.drop (k + 1)).flatMap (·.cells)) := by
  rw [← putAll_eq, ← putAll_eq]
  have h1 := putAll_row ((L.drop (k + 1)).flatMap (·.cells)) w _ (k * 4) hrow
  have h2 := putAll_row zs _ _ ((n - 1) * 4) h1
  have hlen := flatMap_len (f := Elem.cells) h4
  have hA : ((L.take k).flatMap (·.cells)).length = k * 4 := by rw [flatMap_len (f := Elem.cells) (m := 4) (fun x hx => h4 x (List.mem_of_mem_take hx)), List.length_take]; congr 1; omega
  have hD : ((L.drop (k + 1)).flatMap (·.cells)).length = (n - 1 - k) * 4 := by rw [flatMap_len (f := Elem.cells) (m := 4) (fun x hx => h4 x (List.mem_of_mem_drop hx)), List.length_drop]; congr 1; omega
  have hsplit : L.flatMap (·.cells) = (L.take k).flatMap (·.cells) ++ ((L.drop k).flatMap (·.cells)) := by rw [← List.flatMap_append, List.take_append_drop]
  have hDk : ((L.drop k).flatMap (·.cells)).length = (n - k) * 4 := by rw [flatMap_len (f := Elem.cells) (m := 4) (fun x hx => h4 x (List.mem_of_mem_drop hx)), List.length_drop, hL]
  have key : (setFrom (setFrom (L.flatMap (·.cells)) (k * 4) ((L.drop (k + 1)).flatMap (·.cells))) ((n - 1) * 4) zs).take ((n - 1) * 4) = (L.take k ++ L.drop (k + 1)).flatMap (·.cells) := by
    rw [setFrom_take _ _ _ _ (Nat.le_refl _), hsplit, ← hA]
    have hz : (L.drop k).flatMap (·.cells) = ((L.drop k).flatMap (·.cells)).take ((n - 1 - k) * 4) ++ ((L.drop k).flatMap (·.cells)).drop ((n - 1 - k) * 4) := by rw [List.take_append_drop]
    rw [hz, setFrom_app _ _ _ _ (by rw [List.length_take, hD, hDk]; omega), ← List.append_assoc, List.flatMap_append]
    rw [List.take_append_of_le_length (by rw [List.length_append, hA, hD]; omega), List.take_of_length_le (by rw [List.length_append, hA, hD]; omega)]
  refine ⟨?_, .inr ?_⟩
  · rw [← key, List.length_take, setFrom_len, setFrom_len, hlen, hL]; omega
  · rcases h2.2 with ⟨h0, _⟩ | ⟨g', cap', cur, q1, q2, q3, q4, q5, q6, q7⟩
    · cases h0
    · simp only [Value.slice.injEq, Option.some.injEq, Addr.mk.injEq, and_true, true_and] at q1
      obtain ⟨rfl, rfl⟩ := q1
      refine ⟨g, cap, cur, rfl, q2, q3, by omega, q5, q6, ?_⟩
      rw [← key, ← q7, List.take_take, Nat.min_eq_left (by omega)]

theorem gone_E {base g n cap k : Nat} {L : List (Elem DMacro)} {w w' : World} (H : RowE sMacro base 35 (.slice (some ⟨g, 0, none⟩) n cap) L w) (hK : Kept [g] w w')
    (hrow : w'.ownsRow base 35 4 (.slice (some ⟨g, 0, none⟩) (n - 1) cap) (n - 1) ((L.take k ++ L.drop (k + 1)).flatMap (·.cells))) (hl : (L.take k ++ L.drop (k + 1)).length = n - 1) :
    RowE sMacro base 35 (.slice (some ⟨g, 0, none⟩) (n - 1) cap) (L.take k ++ L.drop (k + 1)) w' := by
  have hm : ∀ x ∈ L.take k ++ L.drop (k + 1), x ∈ L := fun x hx => by
    rcases List.mem_append.1 hx with h | h
    · exact List.mem_of_mem_take h
    · exact List.mem_of_mem_drop h
  have hb : ∀ x ∈ L, ∀ b ∈ x.fp, w'.heap[b]? = w.heap[b]? := fun x hx b hb => hK.block b (sMacro.lt (H.el x hx) b hb) (by
    have := H.ap hx hb
    simp only [Value.ownBlock, ne_eq, Option.some.injEq] at this
    simp only [List.mem_singleton]
    exact fun e => this e.symm)
  refine ⟨by rw [hl]; exact hrow, fun x hx => H.len x (hm x hx), fun x hx => sMacro.frame (hb x (hm x hx)) (H.el x (hm x hx)), fun x hx => H.lo x (hm x hx), fun x hx b hb' => ?_⟩
  obtain ⟨cur, t, fr, h1, h2⟩ := H.ty x (hm x hx) b hb'
  exact ⟨cur, t, fr, (hb x (hm x hx) b hb').trans h1, h2⟩

set_option maxHeartbeats 4000000 in
set_option maxRecDepth 100000 in
theorem lib_Delete (base g n cap k : Nat) (L : List (Elem DMacro)) (w : World) (hk : k < n) (hn : n ≤ 1000000) (H : RowE sMacro base 35 (.slice (some ⟨g, 0, none⟩) n cap) L w) :
    Calls Try.prog 28 #[.slice (some ⟨g, 0, none⟩) n cap, .int .i64 k, .int .i64 ((k : Int) + 1)] w fun e w' =>
      e = .returned (.slice (some ⟨g, 0, none⟩) (n - 1) cap) ∧ RowE sMacro base 35 (.slice (some ⟨g, 0, none⟩) (n - 1) cap) (L.take k ++ L.drop (k + 1)) w' ∧ Kept [g] w w' := by
  have hL : L.length = n := by
    rcases H.row.2 with ⟨h', _⟩ | ⟨g', cap', cur, h', _⟩
    · cases h'
    · simp only [Value.slice.injEq] at h'; exact h'.2.1.symm
  obtain ⟨curs, hcur⟩ : ∃ cur, w.heap[g]? = some (.cells cur 35 (0, 0)) ∧ n ≤ cap ∧ cap ≤ maxLen ∧ cur.size = cap * 4 := by
    rcases H.row.2 with ⟨h', _⟩ | ⟨g', cap', cur, h', _, h1, h2, h3, h4, _⟩
    · cases h'
    · simp only [Value.slice.injEq, Option.some.injEq, Addr.mk.injEq, and_true, true_and] at h'
      obtain ⟨e1, -, e3⟩ := h'
      subst e1
      subst e3
      exact ⟨cur, h1, by omega, h3, h4⟩
  obtain ⟨hblk, hnc, hcm, hcs⟩ := hcur
  unfold maxLen at hcm
  obtain ⟨i0, hi0, hz0, hz1, hz2⟩ := info_parts ti_mac.2
  have h4 : ∀ x ∈ L, x.cells.length = 4 := H.len
  have hrow0 := H.row
  rw [hL] at hrow0
  -- the cells that are moved to the left
  obtain ⟨news, hnews⟩ : ∃ news, news = (L.drop (k + 1)).flatMap (·.cells) := ⟨_, rfl⟩
  have hlen : news.length = (n - (k + 1)) * 4 := by rw [hnews, flatMap_len (f := Elem.cells) (m := 4) (fun x hx => h4 x (List.mem_of_mem_drop hx)), List.length_drop, hL]
  have hsomec : ∀ j, j < cap * 4 → ∃ u, w.cell? ⟨g, j, none⟩ = some u := fun j hj => ⟨curs[j]'(by omega), by rw [cell_of_row w g j _ _ _ hblk]; simp [Array.getElem?_eq_getElem (show j < curs.size by omega)]⟩
  have hfr : ∀ j, w.frozen? ⟨g, j, none⟩ = false := fun j => frozen_of_row w g j _ _ hblk
  obtain ⟨A, hA, hsrc⟩ : ∃ A : Addr, (if cap = k + 1 then some (⟨g, 0, none⟩ : Addr) else some ⟨g, (k + 1) * 4, none⟩) = some A ∧ Hid (∀ t u, news[t]? = some u → w.drew.cell? (A.add t) = some u) := by
    by_cases h : cap = k + 1
    · refine ⟨⟨g, 0, none⟩, by simp [h], fun t u hu => ?_⟩
      have h0 : news.length = 0 := by rw [hlen]; omega
      rw [List.length_eq_zero_iff.1 h0] at hu
      simp at hu
    · refine ⟨⟨g, (k + 1) * 4, none⟩, by simp [h], fun t u hu => ?_⟩
      have ht : t < (n - (k + 1)) * 4 := by
        have := (List.getElem?_eq_some_iff.1 hu).1
        rwa [hlen] at this
      rw [Addr.add_lit]
      show w.cell? _ = _
      rw [hrow0.cellAt ((k + 1) * 4 + t) (by show (k + 1) * 4 + t < n * 4; omega)]
      have hsp : L.flatMap (·.cells) = (L.take (k + 1)).flatMap (·.cells) ++ news := by rw [hnews, ← List.flatMap_append, List.take_append_drop]
      have hA' : ((L.take (k + 1)).flatMap (·.cells)).length = (k + 1) * 4 := by rw [flatMap_len (f := Elem.cells) (m := 4) (fun x hx => h4 x (List.mem_of_mem_take hx)), List.length_take]; congr 1; omega
      rw [hsp, List.getElem?_append_right (by rw [hA']; omega), hA', Nat.add_sub_cancel_left]
      exact hu
  have s1 : Hid (news.length = (n - (k + 1)) * 4) := hlen
  have s2 : Hid (∀ u ∈ news, u.oneCell' = true) := fun u hu => by
    rw [hnews] at hu
    obtain ⟨x, hx, hu⟩ := List.mem_flatMap.1 hu
    exact mac_one _ _ _ _ (H.el x (List.mem_of_mem_drop hx)) u hu
  have s3 : Hid (∀ t, t < news.length → (w.drew.cell? ⟨g, 0 + k * 4 + t, none⟩).isSome = true ∧ w.drew.frozen? ⟨g, 0 + k * 4 + t, none⟩ = false) := fun t ht => by
    rw [hlen] at ht
    obtain ⟨u, hu⟩ := hsomec (0 + k * 4 + t) (by omega)
    exact ⟨by show (w.cell? _).isSome = true; rw [hu]; rfl, hfr _⟩
  -- the world behind the append, behind a name
  obtain ⟨W1, hW1⟩ : ∃ W1, W1 = w.drew.setCells g (0 + k * 4) news := ⟨_, rfl⟩
  have hK1 : Kept [g] w W1 := by
    rw [hW1, ← putAll_eq]
    exact (Kept.of_below (belowN (Below.refl _ _) 1)).trans (putAll_kept _ _ _)
  have hcl : ∀ ty c, (Builtin.clear_ #[23] ty #[.slice (some ⟨g, (n - 1) * 4, none⟩) 1 c]).run Try.prog W1 = .ok (.tuple #[]) (W1.setCells g ((n - 1) * 4) [.string ⟨#[]⟩, .bool false, .slice none 0 0, .slice none 0 0]) := fun ty c =>
    run_clear_mac W1 ty g ((n - 1) * 4) c (fun j hj => by
      rw [hW1]
      obtain ⟨u, hu⟩ := hsomec ((n - 1) * 4 + j) (by omega)
      exact World.isSome_setCells g news _ _ _ (by show (w.cell? _).isSome = true; rw [hu]; rfl)) (fun j hj => by
      rw [hW1, World.frozen?_setCells]
      exact hfr _)
  have e1 : k + (n - (k + 1)) = n - 1 := by omega
  have HE1 := Lib.hid e1
  have hcl' : ∀ ty c, (Builtin.clear_ #[23] ty #[.slice (some ⟨g, (k + (n - (k + 1))) * 4, none⟩) (n - (k + (n - (k + 1)))) c]).run Try.prog W1 = .ok (.tuple #[]) (W1.setCells g ((n - 1) * 4) [.string ⟨#[]⟩, .bool false, .slice none 0 0, .slice none 0 0]) := fun ty c => by
    rw [e1, show n - (n - 1) = 1 by omega]
    exact hcl ty c
  clear hcl e1
  have HF : Hid (RowE sMacro base 35 (.slice (some ⟨g, 0, none⟩) (n - 1) cap) (L.take k ++ L.drop (k + 1)) (W1.setCells g ((n - 1) * 4) [.string ⟨#[]⟩, .bool false, .slice none 0 0, .slice none 0 0])) := by
    refine gone_E H (hK1.trans (by rw [← putAll_eq]; exact putAll_kept _ _ _)) ?_ (by rw [List.length_append, List.length_take, List.length_drop]; omega)
    have hd : w.drew.ownsRow base 35 4 (.slice (some ⟨g, 0, none⟩) n cap) n (L.flatMap (·.cells)) := hrow0
    have := row_gone hd h4 hL hk [.string ⟨#[]⟩, .bool false, .slice none 0 0, .slice none 0 0]
    rw [hW1, hnews, Nat.zero_add]
    exact this
  have HKF : Hid (Kept [g] w (W1.setCells g ((n - 1) * 4) [.string ⟨#[]⟩, .bool false, .slice none 0 0, .slice none 0 0])) := hK1.trans (by rw [← putAll_eq]; exact putAll_kept _ _ _)
  have hW : Hid (W1 = w.drew.setCells g (0 + k * 4) news) := hW1
  have hkc : k ≤ cap := by omega
  have hjc : k + 1 ≤ cap := by omega
  have mixed : Try.prog.follows .mixedOrders = true := by kernel_rfl
  have hne : ¬ (k = k + 1) := by omega
  have hp1 : (0 : Int) ≤ (k : Int) + 1 := by omega
  have hp2 : (k : Int) + 1 ≤ (n : Int) := by omega
  clear hW1 hK1 H hrow0 h4 hnews hlen hblk hcs hsomec hfr hL
  go_enter Try.func28, Try.ntmps28
  go_wp2_with fail
  go_region_law_o (refine step_append_room rfl (.tmp 22) (.tmp 25) 23 rfl 35 i0 4 ti_mac.1 hi0 hz1 g 0 k cap (by simp [Act.eval, Act.put]) A (n - (k + 1)) (cap - (k + 1)) news (by simp [Act.eval, Act.put]) s1.out hsrc.out s2.out (by omega) s3.out ?_; rw [← hW.out])
  go_wp2
  go_ret
  exact ⟨by rw [← HE1.out]; rfl, HF.out, HKF.out⟩

end Go.Proofs.Ythbojipdhgidlab

/- Undefine of the program. -/
namespace Go.Proofs.Ythbojipdhgidlab
open Go.RowKit

theorem names_ne {a b : ByteArray} (h : sLess a b = true) : (a.toList == b.toList) = false := by
  cases e : (a.toList == b.toList)
  · rfl
  · rw [bytes_same e, sLess_irrefl] at h; exact absurd h (by simp)
/-- What is kept of a valid table. -/
theorem keep_low {l : List DMacro} (h : tabOk l = true) (nm : ByteArray) {j : Nat} (hj : j < l.length) : keepN nm l[j] = !(isIn l nm && decide (j = lowAt l nm)) := by
  unfold keepN
  congr 1
  by_cases hlow : lowAt l nm < l.length
  · by_cases e : j = lowAt l nm
    · subst e
      unfold isIn
      rw [dif_pos hj, decide_eq_true rfl, Bool.and_true]
    · rw [decide_eq_false e, Bool.and_false]
      by_cases hl : j < lowAt l nm
      · exact names_ne (by rw [low_iff h nm hj, decide_eq_true hl])
      · have h1 := tab_lt h (show lowAt l nm < j by omega) hj
        cases e2 : (l[j].name.toList == nm.toList)
        · rfl
        · rw [bytes_same e2, low_iff h nm hlow, decide_eq_true_eq] at h1
          omega
  · have hi : isIn l nm = false := by unfold isIn; rw [dif_neg hlow]
    rw [hi, Bool.false_and]
    exact names_ne (by rw [low_iff h nm hj, decide_eq_true (by omega)])
theorem unDef_out {l : List DMacro} {nm : ByteArray} (h : tabOk l = true) (hi : isIn l nm = false) : unDef l nm = l := by
  unfold unDef
  rw [if_pos h, List.filter_eq_self]
  intro m hm
  obtain ⟨j, hj, rfl⟩ := List.getElem_of_mem hm
  rw [keep_low h nm hj, hi]; rfl
theorem isIn_lt {l : List DMacro} {nm : ByteArray} (hi : isIn l nm = true) : lowAt l nm < l.length := by
  by_cases h : lowAt l nm < l.length
  · exact h
  · unfold isIn at hi; rw [dif_neg h] at hi; exact absurd hi (by simp)
theorem unDef_in {l : List DMacro} {nm : ByteArray} (h : tabOk l = true) (hi : isIn l nm = true) : unDef l nm = l.take (lowAt l nm) ++ l.drop (lowAt l nm + 1) := by
  have hlow := isIn_lt hi
  unfold unDef
  rw [if_pos h]
  have hs : l = l.take (lowAt l nm) ++ (l[lowAt l nm] :: l.drop (lowAt l nm + 1)) := by rw [List.getElem_cons_drop, List.take_append_drop]
  conv => lhs; rw [hs]
  rw [List.filter_append, List.filter_cons, if_neg (by rw [keep_low h nm hlow, hi, decide_eq_true rfl]; simp)]
  congr 1
  · rw [List.filter_eq_self]
    intro m hm
    obtain ⟨j, hj, rfl⟩ := List.getElem_of_mem hm
    rw [List.length_take] at hj
    rw [List.getElem_take, keep_low h nm (by omega), decide_eq_false (by omega), Bool.and_false]; rfl
  · rw [List.filter_eq_self]
    intro m hm
    obtain ⟨j, hj, rfl⟩ := List.getElem_of_mem hm
    rw [List.length_drop] at hj
    rw [List.getElem_drop, keep_low h nm (by omega), decide_eq_false (by omega), Bool.and_false]; rfl
theorem tab_cp {l : List DMacro} (h : tabOk l = true) : l.map cpMac = l := by
  refine List.ext_getElem (by simp) fun j h1 h2 => ?_
  rw [List.getElem_map]
  have := (tabOk_at h).2 j h2
  unfold tabAt at this
  rw [dif_pos h2] at this
  exact cpMac_ok (Bool.and_eq_true_iff.1 this).1
theorem own_part {L : List (Elem DMacro)} {w : World} {lo k : Nat} (h : Own w lo (L.flatMap (·.fp))) : Own w lo ((L.take k ++ L.drop (k + 1)).flatMap (·.fp)) := by
  have hs : ((L.take k ++ L.drop (k + 1)).flatMap (·.fp)).Sublist (L.flatMap (·.fp)) := by
    have e : L.flatMap (·.fp) = (L.take k).flatMap (·.fp) ++ (L.drop k).flatMap (·.fp) := by rw [← List.flatMap_append, List.take_append_drop]
    rw [e, List.flatMap_append]
    refine List.Sublist.append (List.Sublist.refl _) ?_
    rw [show L.drop (k + 1) = (L.drop k).drop 1 by rw [List.drop_drop]]
    cases L.drop k with
    | nil => exact List.Sublist.refl _
    | cons x r =>
      rw [List.flatMap_cons]
      exact List.sublist_append_right _ _
  exact ⟨hs.nodup h.1, fun b hb => h.2 b (hs.subset hb)⟩

/-- A table of the call's own, as a slice. -/
def RetOwn (l : List DMacro) (w : World) (e : Ending) (w' : World) : Prop := ∃ v fp, e = .returned v ∧ (sSlice sMacro).R w' [v] l fp ∧ Own w' w.heap.size fp ∧ Below w.heap.size w w'

set_option maxHeartbeats 4000000 in
set_option maxRecDepth 100000 in
theorem impl_Undefine (v : Value) (l : List DMacro) (nm : ByteArray) (fp : List Nat) (w : World) (hl : l.length ≤ 1000000) (hx : ∀ k, (hk : k < l.length) → MacSm l[k]) (H : (sSlice sMacro).R w [v] l fp) :
    Calls Try.prog 7 #[v, .string nm] w (MineTab (unDef l nm) w) := by
  have HT := Lib.hid (impl_TableValid v l fp w H)
  have HC := Lib.hid (fun W (hW : Below w.heap.size w W) => impl_copyTable v l fp W (by omega) hx ((sSlice sMacro).below H hW))
  clear H hx
  by_cases ht : tabOk l = true
  rotate_left
  · have HU : Hid (unDef l nm = []) := by show _ = _; unfold unDef; rw [if_neg ht]
    rw [Bool.eq_false_iff.2 ht] at HT
    clear ht HC
    go_enter Try.func7, Try.ntmps7
    go_wp2_with fail
    refine HT.out.mono ?_
    rintro e w2 ⟨rfl, hb⟩
    go_wp2
    go_ret
    exact ⟨_, [], rfl, RowE.nil _ _ _ _, by rw [HU.out]; rfl, (show Own w2 w.heap.size [] from Own.nil _ _), hb⟩
  · have HTK := Lib.hid ht
    rw [ht] at HT
    rw [tab_cp ht] at HC
    clear ht
    go_enter Try.func7, Try.ntmps7
    go_wp2_with fail
    refine HT.out.mono ?_
    rintro e w2 ⟨rfl, hb2⟩
    go_wp2_with fail
    refine (HC.out _ hb2).mono ?_
    rintro e w3 ⟨v3, L, rfl, hE, hD, hO, hb3⟩
    obtain ⟨a3, c3, rfl, hc3, hm3, hp3⟩ := hE.val
    have HLl : Hid (L.length = l.length) := by show _ = _; rw [← hD, List.length_map]
    have hB3 := hb2.trans (hb3.mono hb2.size)
    obtain ⟨f3, r3, -⟩ := hE.read
    rw [hD] at r3
    have HE := Lib.hid hE
    have HD := Lib.hid hD
    have HO := Lib.hid hO
    have hs3 := hb2.size
    clear hE hD hO hb3 HC HT
    go_wp2_with fail
    refine (impl_placeOf _ l nm f3 _ HTK.out r3).mono ?_
    rintro e w4 ⟨rfl, hb4⟩
    have hE4 := HE.out.below hb4
    have hO4 := HO.out.grow hb4
    have hB4 := hB3.trans (hb4.mono hB3.size)
    clear r3 HE HO
    cases hi : isIn l nm
    · have HU := Lib.hid (unDef_out HTK.out hi)
      have HE4 := Lib.hid (hE4.lower hs3)
      have HO4 := Lib.hid (hO4.lower hs3)
      clear hE4 hO4 hi
      go_wp2
      go_ret
      exact ⟨_, L, rfl, HE4.out, by rw [HU.out]; exact HD.out, HO4.out, hB4⟩
    · have hlow := isIn_lt hi
      have HU := Lib.hid (unDef_in HTK.out hi)
      obtain ⟨g, rfl, hgb, -⟩ := hp3 (by have := HLl.out; omega)
      have HDL := Lib.hid (lib_Delete _ g L.length c3 (lowAt l nm) L w4 (by have := HLl.out; omega) (by have := HLl.out; omega) hE4)
      have HO4 := Lib.hid hO4
      have HE4 := Lib.hid hE4
      have HG := Lib.hid hgb
      generalize hn : lowAt l nm = n at *
      clear hE4 hO4 hi hn
      go_wp2_with fail
      refine HDL.out.mono ?_
      rintro e w5 ⟨rfl, hE5, hK5⟩
      have HF := Lib.hid (hE5.lower hs3)
      have HOF : Hid (Own w5 w.heap.size ((L.take n ++ L.drop (n + 1)).flatMap (·.fp))) := by
        have h1 := own_part (k := n) HO4.out
        refine (h1.kept (fp := [g]) (fun b hb hx => ?_) hK5).lower hs3
        have e : b = g := by simpa using hx
        subst e
        obtain ⟨x, hx', hb'⟩ := List.mem_flatMap.1 hb
        have hm : x ∈ L := by
          rcases List.mem_append.1 hx' with h | h
          · exact List.mem_of_mem_take h
          · exact List.mem_of_mem_drop h
        exact HE4.out.ap hm hb' rfl
      have HDF : Hid ((L.take n ++ L.drop (n + 1)).map (·.d) = unDef l nm) := by
        show _ = _
        rw [HU.out, ← HD.out, List.map_append, List.map_take, List.map_drop]
      have hBF : Below w.heap.size w w5 := ⟨hK5.os.trans hB4.os, hK5.tape.trans hB4.tape, hK5.output.trans hB4.output, Nat.le_trans hB4.size hK5.size, fun b hb => (hK5.block b (Nat.lt_of_lt_of_le hb hB4.size) (by have := HG.out; simp; omega)).trans (hB4.block b hb)⟩
      clear hE5 hK5
      go_wp2
      go_ret
      exact ⟨_, _, rfl, HF.out, HDF.out, HOF.out, hBF⟩

/-! ### As the exact law calls them -/
theorem wtMacroS_sm {l : List DMacro} (h : wtMacroS l ≤ 1048576) : l.length ≤ 1048576 ∧ ∀ k, (hk : k < l.length) → MacSm l[k] := by
  refine ⟨by unfold wtMacroS at h; omega, fun k hk => ?_⟩
  have h1 := wsum_at wtMacro l k hk
  unfold wtMacroS at h
  have h2 : wtMacro l[k] = l[k].name.size + (l[k].params.length + (l[k].params.map (·.size)).sum) + wtTokenS l[k].body := rfl
  have h3 : wtTokenS l[k].body ≤ 1048576 := by omega
  have h4 : l[k].body.length ≤ 1048576 := by unfold wtTokenS at h3; omega
  refine ⟨by omega, h4, fun j hj => ?_⟩
  have h5 := wsum_at wtToken l[k].body j hj
  unfold wtTokenS at h3
  have h6 : wtToken l[k].body[j] = l[k].body[j].text.size + (l[k].body[j].hidden.length + (l[k].body[j].hidden.map (·.size)).sum) := rfl
  omega

end Go.Proofs.Ythbojipdhgidlab

/- A table and a name, drawn; facts on tables. -/
namespace Go.Proofs.Ythbojipdhgidlab
open Go.RowKit

set_option maxHeartbeats 2000000 in
theorem DrawIsDefined (v : Value) (l : List UInt8) (fp : List Nat) (w : World) (H : (sSlice sByte).R w [v] l fp) :
    Calls Try.prog 25 #[v] w fun e w' => ∃ (v' : Value) (t : List DMacro) (fp' : List Nat) (s : ByteArray), e = .returned (.tuple #[v', .string s]) ∧ (sSlice sMacro).R w' [v'] t fp' ∧ (∀ m ∈ t, okMac m) ∧ t.length ≤ 9 ∧ s.size ≤ 10 ∧ Below w.heap.size w w' := by
  go_enter Try.func25, Try.ntmps25
  go_wp2_with fail
  refine (l20Open _ l fp _ H).mono ?_
  rintro e w1 ⟨rb, rfl, hrb, hR, hB⟩
  go_wp2_with fail
  refine (l20Table rb 0 _ _ hR (by omega) (by omega) (by omega)).mono ?_
  rintro e w4 ⟨v', t, fp', q, rfl, hT, hlo, hok, hl, hq, hR4, hK⟩
  have HT := Lib.hid hT
  have HF := Lib.hid (kept_below hB hK hrb hB.size)
  have HOK := Lib.hid hok
  have HLO := Lib.hid hlo
  have hlt := hR.lt
  clear hT hK hok hlo
  go_wp2_with fail
  refine (l20Word rb q _ hR4 (by omega)).mono ?_
  rintro e w5 ⟨s, q5, rfl, hs, -, -, hK5⟩
  have hsz := HF.out.size
  have hnr : Hid (rb ∉ fp') := fun hx => by have := HLO.out rb hx; omega
  have HT5 := Lib.hid ((sSlice sMacro).kept HT.out (fun b hb hx => hnr.out (by have e : b = rb := (by simpa using hx); rw [← e]; exact hb)) hK5)
  have HF5 := Lib.hid (kept_below HF.out hK5 hrb HF.out.size)
  clear hK5 HT HF hR4
  go_wp2
  go_ret2
  exact ⟨v', t, fp', s, rfl, HT5.out, HOK.out, hl, hs, HF5.out⟩
theorem DrawUndefine (v : Value) (l : List UInt8) (fp : List Nat) (w : World) (H : (sSlice sByte).R w [v] l fp) :
    Calls Try.prog 6 #[v] w fun e w' => ∃ (v' : Value) (t : List DMacro) (fp' : List Nat) (s : ByteArray), e = .returned (.tuple #[v', .string s]) ∧ (sSlice sMacro).R w' [v'] t fp' ∧ (∀ m ∈ t, okMac m) ∧ t.length ≤ 9 ∧ s.size ≤ 10 ∧ Below w.heap.size w w' := by
  go_enter Try.func6, Try.ntmps6
  go_wp2_with fail
  refine (DrawIsDefined v l fp _ H).mono ?_
  rintro e w1 ⟨v', t, fp', s, rfl, h1, h2, h3, h4, h5⟩
  have HT := Lib.hid h1
  have HK := Lib.hid h2
  clear h1 h2
  go_wp2
  go_ret2
  exact ⟨v', t, fp', s, rfl, HT.out, HK.out, h3, h4, h5⟩

end Go.Proofs.Ythbojipdhgidlab

/- Tables with a macro less or more: no program. -/
namespace Go.Proofs.Ythbojipdhgidlab
open Go.RowKit

theorem isIn_gone {l : List DMacro} {nm : ByteArray} : isIn (unDef l nm) nm = false := by
  cases hi : isIn (unDef l nm) nm
  · rfl
  · have hlow := isIn_lt hi
    have hm := List.getElem_mem hlow
    unfold isIn at hi
    rw [dif_pos hlow] at hi
    generalize (unDef l nm)[lowAt (unDef l nm) nm] = m at hm hi
    unfold unDef at hm
    split at hm
    · have := (List.mem_filter.1 hm).2
      unfold keepN at this
      rw [hi] at this
      exact absurd this (by simp)
    · simp at hm
def Asc (l : List DMacro) : Prop := l.Pairwise fun a b => sLess a.name b.name = true
theorem tab_parts {l : List DMacro} (h : tabOk l = true) : l.length ≤ 10 ∧ (∀ m ∈ l, macOk m = true) ∧ Asc l := by
  refine ⟨(tabOk_at h).1, fun m hm => ?_, ?_⟩
  · obtain ⟨j, hj, rfl⟩ := List.getElem_of_mem hm
    have := (tabOk_at h).2 j hj
    unfold tabAt at this
    rw [dif_pos hj] at this
    exact (Bool.and_eq_true_iff.1 this).1
  · unfold Asc
    rw [List.pairwise_iff_getElem]
    exact fun i j hi hj hij => tab_lt h hij hj
theorem asc_tab {l : List DMacro} (h1 : l.length ≤ 10) (h2 : ∀ m ∈ l, macOk m = true) (h3 : Asc l) : tabOk l = true := by
  refine tabOk_yes (fun j hj => ?_) h1
  by_cases h0 : j = 0
  · subst h0; exact tabAt_first hj (h2 _ (List.getElem_mem hj))
  · unfold Asc at h3
    rw [List.pairwise_iff_getElem] at h3
    exact tabAt_later hj (h2 _ (List.getElem_mem hj)) (h3 (j - 1) j (by omega) hj (by omega))
theorem tab_filter {l : List DMacro} (h : tabOk l = true) (p : DMacro → Bool) : tabOk (l.filter p) = true := by
  obtain ⟨h1, h2, h3⟩ := tab_parts h
  exact asc_tab (Nat.le_trans (List.length_filter_le _ _) h1) (fun m hm => h2 m (List.mem_filter.1 hm).1) (h3.filter p)
theorem tab_unDef {l : List DMacro} (h : tabOk l = true) (nm : ByteArray) : tabOk (unDef l nm) = true := by
  unfold unDef; rw [if_pos h]; exact tab_filter h _
theorem unDef_twice (l : List DMacro) (nm : ByteArray) : unDef (unDef l nm) nm = unDef l nm := by
  by_cases h : tabOk l = true
  · have h2 := tab_unDef h nm
    rw [unDef, if_pos h2]
    unfold unDef
    rw [if_pos h, List.filter_filter]
    congr 1
    funext m
    simp
  · have : unDef l nm = [] := by unfold unDef; rw [if_neg h]
    rw [this]; rfl
theorem unDef_len {l : List DMacro} (h : tabOk l = true) (nm : ByteArray) : l.length ≤ (unDef l nm).length + 1 := by
  cases hi : isIn l nm
  · rw [unDef_out h hi]; omega
  · have hlow := isIn_lt hi
    rw [unDef_in h hi, List.length_append, List.length_take, List.length_drop]; omega
theorem unDef_mem {l : List DMacro} {nm : ByteArray} {m : DMacro} (h : m ∈ unDef l nm) : m ∈ l := by
  unfold unDef at h
  split at h
  · exact (List.mem_filter.1 h).1
  · simp at h

end Go.Proofs.Ythbojipdhgidlab

/- Macros are compared by the laws. -/
namespace Go.Proofs.Ythbojipdhgidlab
open Go.RowKit

set_option maxHeartbeats 8000000 in
theorem sameMacro_same (cs1 cs2 : List Value) (x : DMacro) (fp1 fp2 : List Nat) (w : World) (H1 : sMacro.R w cs1 x fp1) (H2 : sMacro.R w cs2 x fp2) :
    Calls Try.prog 29 #[.agg cs1.toArray, .agg cs2.toArray] w fun e w' => e = .returned (.bool true) ∧ Below w.heap.size w w' := by
  obtain ⟨h2, h3, fpa2, fpa3, rfl, -, K2, K3, rfl⟩ := H1
  obtain ⟨g2, g3, fpb2, fpb3, rfl, -, L2, L3, rfl⟩ := H2
  obtain ⟨a2, ca2, rfl, -⟩ := open_strs K2
  obtain ⟨a3, ca3, rfl, -⟩ := open_rows K3
  obtain ⟨d2, cd2, rfl, -⟩ := open_strs L2
  obtain ⟨d3, cd3, rfl, -⟩ := open_rows L3
  have b0 := alloc_below' w (.cells #[.string x.name, .bool x.function, .slice a2 x.params.length ca2, .slice a3 x.body.length ca3] 35)
  have b1 := b0.trans ((alloc_below' (w.alloc (.cells #[.string x.name, .bool x.function, .slice a2 x.params.length ca2, .slice a3 x.body.length ca3] 35)) (.cells #[.string x.name, .bool x.function, .slice d2 x.params.length cd2, .slice d3 x.body.length cd3] 35)).mono b0.size)
  have HX := Lib.hid (alloc2_blk w #[.string x.name, .bool x.function, .slice a2 x.params.length ca2, .slice a3 x.body.length ca3] #[.string x.name, .bool x.function, .slice d2 x.params.length cd2, .slice d3 x.body.length cd3] 35 35)
  have HP := Lib.hid (fun W (hW : Below w.heap.size w W) => sameTexts _ _ x.params x.params _ _ W ((sSlice sStr).below K2 hW) ((sSlice sStr).below L2 hW))
  have HB := Lib.hid (fun W (hW : Below w.heap.size w W) => sameTokens_same _ _ x.body _ _ W ((sSlice sTok).below K3 hW) ((sSlice sTok).below L3 hW))
  rw [decide_eq_true (rfl : x.params = x.params)] at HP
  clear K2 K3 L2 L3 b0
  have g0 := bytes_beq (rfl : x.name = x.name)
  have g1 : (x.function == x.function) = true := by simp
  go_enter Try.func29, Try.ntmps29
  go_wp2_with fail
  refine (HP.out _ b1).mono ?_
  rintro e w2 ⟨rfl, n, rfl⟩
  have d2' := belowN b1 n
  replace HX := Lib.hid (blk2 HX.out (belowN (Below.refl _ _) n))
  have qa3 : (((w.alloc (.cells #[.string x.name, .bool x.function, .slice a2 x.params.length ca2, .slice a3 x.body.length ca3] 35)).alloc (.cells #[.string x.name, .bool x.function, .slice d2 x.params.length cd2, .slice d3 x.body.length cd3] 35)).drewN n).cell? ⟨w.heap.size, 3, none⟩ = some (.slice a3 x.body.length ca3) := cell_of_row _ _ 3 _ _ _ HX.out.1
  have qb3 : (((w.alloc (.cells #[.string x.name, .bool x.function, .slice a2 x.params.length ca2, .slice a3 x.body.length ca3] 35)).alloc (.cells #[.string x.name, .bool x.function, .slice d2 x.params.length cd2, .slice d3 x.body.length cd3] 35)).drewN n).cell? ⟨w.heap.size + 1, 3, none⟩ = some (.slice d3 x.body.length cd3) := cell_of_row _ _ 3 _ _ _ HX.out.2
  go_wp2_with fail
  refine (HB.out _ d2').mono ?_
  rintro e w3 ⟨rfl, c3⟩
  go_wp2
  go_ret
  exact ⟨rfl, d2'.trans (c3.mono d2'.size)⟩

end Go.Proofs.Ythbojipdhgidlab
