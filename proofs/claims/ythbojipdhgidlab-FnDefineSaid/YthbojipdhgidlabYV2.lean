/- Texts that the proof of V stands on, in one file. -/
import Derived.Test.YthbojipdhgidlabZPUndefine10
import Derived.Test.YthbojipdhgidlabZPUndefine11
import Derived.Test.YthbojipdhgidlabYV1
set_option linter.unusedVariables false
set_option linter.unusedSimpArgs false
/- A table and a macro, drawn. (Made by gen_pdef.py draw.) -/
namespace Go.Proofs.Ythbojipdhgidlab
open Go.RowKit

theorem results_tmp_cell {fn : Func} {p u : Tmp} {ty : TypeId} (h : fn.results = #[.tmp u, .cell p ty]) (tmps : Array Value) (P : Program) (w : World) :
    (results fn tmps).run P w =
      ((asAddr (tmps.getD p undef)).run P w).andThen fun a w₁ => ((loadVar ty a).run P w₁).andThen fun v w₂ => .ok (.tuple #[tmps.getD u undef, v]) w₂ := by
  simp only [results, h]
  simp [Sem.run_bind, Result.andThen]
theorem results_2cell {P : Program} {fn : Func} {p u : Tmp} {ty : TypeId} (h : fn.results = #[.tmp u, .cell p ty]) (tmps : Array Value) (w : World) (g : Nat) (t : TypeId) (cs : Array Value) (fr : Nat × Nat) (d : TypeDesc)
    (hp : tmps.getD p undef = .pointer (some ⟨g, 0, none⟩)) (hg : w.heap[g]? = some (.cells cs t fr))
    (hu : P.underlying ty = some d) (hd : (match d with | .struct _ | .array _ _ => true | _ => false) = true) (hi : (P.info? ty).map (·.size) = some cs.size) :
    (results fn tmps).run P w = .ok (.tuple #[tmps.getD u undef, .agg cs]) w := by
  have hp' : tmps[p]?.getD undef = .pointer (some ⟨g, 0, none⟩) := by simpa using hp
  rw [results_tmp_cell h]
  simp [hp', asAddr, run_loadVar_row w g t ty cs fr d hg hu hd hi, Result.andThen]
/-- A table and a macro. -/
def DrawnDf (w : World) (e : Ending) (w' : World) : Prop :=
  ∃ (v' : Value) (t : List DMacro) (ft : List Nat) (nm : ByteArray) (f : Bool) (s2 s3 : Value) (ps : List ByteArray) (bd : List Tok) (fp : List Nat), e = .returned (.tuple #[v', .agg #[.string nm, .bool f, s2, s3]]) ∧
    (sSlice sMacro).R w' [v'] t ft ∧ (∀ m ∈ t, okMac m) ∧ t.length ≤ 9 ∧ sMacro.R w' [.string nm, .bool f, s2, s3] ⟨nm, f, ps, bd⟩ fp ∧ okMac ⟨nm, f, ps, bd⟩ ∧ Below w.heap.size w w'

set_option maxHeartbeats 4000000 in
set_option maxRecDepth 100000 in
theorem DrawDefine (v : Value) (l : List UInt8) (fp : List Nat) (w : World) (H : (sSlice sByte).R w [v] l fp) :
    Calls Try.prog 13 #[v] w (DrawnDf w) := by
  have bz := alloc_below' w (.cells #[.string ⟨#[]⟩, .bool false, .slice none 0 0, .slice none 0 0] 35)
  have HZ0 := Lib.hid (heap_alloc_new w (.cells #[.string ⟨#[]⟩, .bool false, .slice none 0 0, .slice none 0 0] 35))
  have HH := Lib.hid ((sSlice sByte).below H bz)
  have hsz : (w.alloc (.cells #[.string ⟨#[]⟩, .bool false, .slice none 0 0, .slice none 0 0] 35)).heap.size = w.heap.size + 1 := Array.size_push _
  clear H
  go_enter Try.func13, Try.ntmps13
  go_wp2_with fail
  refine (l20Open _ l fp _ HH.out).mono ?_
  rintro e w1 ⟨rb, rfl, hrb, hR, hB⟩
  have HZ1 := Lib.hid ((hB.block w.heap.size (by omega)).trans HZ0.out)
  have hs1 := hB.size
  have hr1 := hR.lt
  rw [hsz] at hrb hs1
  have hBw : Below w.heap.size w w1 := bz.trans (hB.mono bz.size)
  clear HH HZ0 bz hB hsz
  go_wp2_with fail
  refine (l20Table rb 0 _ _ hR (by omega) (by omega) (by omega)).mono ?_
  rintro e w2 ⟨v', t, ft, q, rfl, hTab, hlo, hok, hl9, hq, hR2, hK2⟩
  have HZ2 := Lib.hid ((hK2.block w.heap.size (by omega) (by simp; omega)).trans HZ1.out)
  have HB2 := Lib.hid (kept_below hBw hK2 (by omega) hBw.size)
  have HTab := Lib.hid hTab
  have HLO := Lib.hid hlo
  have HOK := Lib.hid hok
  have hs2 := hK2.size
  clear hTab hlo hok hK2 HZ1 hR hBw
  go_wp2_with fail
  refine (l20Macro rb q _ _ hR2 (by omega) (by omega) (by omega)).mono ?_
  rintro e w3 ⟨nm, f, a2, a3, n2, c2, n3, c3, ps, bd, fp', q3, rfl, hT, hokm, hlom, hq3, hR3, hK3⟩
  have hs3 := hK3.size
  have HZ3 := Lib.hid ((hK3.block w.heap.size (by omega) (by simp; omega)).trans HZ2.out)
  have HT0 := hT
  have HB3 := Lib.hid (kept_below HB2.out hK3 (by omega) HB2.out.size)
  have HTab3 := Lib.hid ((sSlice sMacro).kept HTab.out (fun b hb hx => by have := HLO.out b hb; have e : b = rb := (by simpa using hx); omega) hK3)
  obtain ⟨h2', h3', p2, p3, hcs, hnok, K2, K3, hfp⟩ := hT
  simp only [List.cons.injEq, Value.string.injEq, Value.bool.injEq, and_true, true_and] at hcs
  obtain ⟨e2, e3⟩ := hcs
  subst e2 e3
  obtain ⟨b2, d2, hv2, -⟩ := open_strs K2
  obtain ⟨b3, d3, hv3, -⟩ := open_rows K3
  simp only [Value.slice.injEq] at hv2 hv3
  obtain ⟨rfl, rfl, rfl⟩ := hv2
  obtain ⟨rfl, rfl, rfl⟩ := hv3
  clear K2 K3 hfp hnok
  have hnf : w.heap.size ∉ fp' := fun hx => by have := hlom _ hx; omega
  have hnt : w.heap.size ∉ ft := fun hx => by have := HLO.out _ hx; omega
  clear HTab HZ2 HB2 hK3 hR3 hR2 hlom
  have z0 : w3.cell? ⟨w.heap.size, 0, none⟩ = some (.string ⟨#[]⟩) := cell_of_row _ _ 0 _ _ _ HZ3.out
  have z1 : w3.cell? ⟨w.heap.size, 1, none⟩ = some (.bool false) := cell_of_row _ _ 1 _ _ _ HZ3.out
  have z2 : w3.cell? ⟨w.heap.size, 2, none⟩ = some (.slice none 0 0) := cell_of_row _ _ 2 _ _ _ HZ3.out
  have z3 : w3.cell? ⟨w.heap.size, 3, none⟩ = some (.slice none 0 0) := cell_of_row _ _ 3 _ _ _ HZ3.out
  have zf0 : w3.frozen? ⟨w.heap.size, 0, none⟩ = false := frozen_of_row _ _ 0 _ _ HZ3.out
  have zf1 : w3.frozen? ⟨w.heap.size, 1, none⟩ = false := frozen_of_row _ _ 1 _ _ HZ3.out
  have zf2 : w3.frozen? ⟨w.heap.size, 2, none⟩ = false := frozen_of_row _ _ 2 _ _ HZ3.out
  have zf3 : w3.frozen? ⟨w.heap.size, 3, none⟩ = false := frozen_of_row _ _ 3 _ _ HZ3.out
  have HS := Lib.hid (blk_set (blk_set (blk_set (blk_set HZ3.out 0 (.string nm)) 1 (.bool f)) 2 (.slice a2 ps.length c2)) 3 (.slice a3 bd.length c3))
  have HTF := Lib.hid (sMacro.setB (sMacro.setB (sMacro.setB (sMacro.setB HT0 hnf 0 (.string nm)) hnf 1 (.bool f)) hnf 2 (.slice a2 ps.length c2)) hnf 3 (.slice a3 bd.length c3))
  have HAF := Lib.hid ((sSlice sMacro).setB ((sSlice sMacro).setB ((sSlice sMacro).setB ((sSlice sMacro).setB HTab3.out hnt 0 (.string nm)) hnt 1 (.bool f)) hnt 2 (.slice a2 ps.length c2)) hnt 3 (.slice a3 bd.length c3))
  have HBF := Lib.hid ((((HB3.out.setCell (p := ⟨w.heap.size, 0, none⟩) (Nat.le_refl _) (.string nm)).setCell (p := ⟨w.heap.size, 1, none⟩) (Nat.le_refl _) (.bool f)).setCell (p := ⟨w.heap.size, 2, none⟩) (Nat.le_refl _) (.slice a2 ps.length c2)).setCell (p := ⟨w.heap.size, 3, none⟩) (Nat.le_refl _) (.slice a3 bd.length c3))
  clear HZ3 HT0 HTab3 HB3
  go_wp2
  refine bodyPost_ret (results_2cell rfl _ _ w.heap.size _ _ _ _ rfl HS.out Try.underlying35 rfl (by kernel_rfl)) rfl ?_
  exact ⟨v', t, ft, nm, f, _, _, ps, bd, fp', rfl, HAF.out, HOK.out, hl9, HTF.out, hokm, HBF.out⟩

end Go.Proofs.Ythbojipdhgidlab

/- Tables with a macro put in: no program. -/
namespace Go.Proofs.Ythbojipdhgidlab
open Go.RowKit

theorem less_three {a b : ByteArray} (h1 : sLess a b = false) (h2 : (a.toList == b.toList) = false) : sLess b a = true := by
  have h := sLess_no h1
  have h3 : (b.toList == a.toList) = false := by
    cases e : (b.toList == a.toList)
    · rfl
    · have : b.toList = a.toList := by simpa using e
      rw [this] at h2
      simp at h2
  rw [h3, Bool.or_false] at h
  exact h
theorem names_in {l : List DMacro} (h : tabOk l = true) {nm : ByteArray} (hi : isIn l nm = false) {j : Nat} (hj : j < l.length) : (l[j].name.toList == nm.toList) = false := by
  have := keep_low h nm hj
  rw [hi, Bool.false_and, Bool.not_false] at this
  unfold keepN at this
  simpa using this
/-- A macro put in at its place: the names ascend. -/
theorem putAt_asc {l : List DMacro} {m : DMacro} (h : tabOk l = true) (hi : isIn l m.name = false) : Asc (putAt l m (lowAt l m.name)) := by
  obtain ⟨-, -, h3⟩ := tab_parts h
  have hlo : ∀ a ∈ l.take (lowAt l m.name), sLess a.name m.name = true := fun a ha => by
    obtain ⟨j, hj, rfl⟩ := List.getElem_of_mem ha
    rw [List.length_take] at hj
    rw [List.getElem_take, low_iff h m.name (by omega), decide_eq_true (by omega)]
  have hhi : ∀ b ∈ l.drop (lowAt l m.name), sLess m.name b.name = true := fun b hb => by
    obtain ⟨j, hj, rfl⟩ := List.getElem_of_mem hb
    rw [List.length_drop] at hj
    rw [List.getElem_drop]
    refine less_three ?_ (names_in h hi (by omega))
    rw [low_iff h m.name (by omega), decide_eq_false (by omega)]
  unfold Asc putAt at *
  have h4 := h3
  rw [← List.take_append_drop (lowAt l m.name) l, List.pairwise_append] at h4
  obtain ⟨p1, p2, p3⟩ := h4
  rw [List.append_assoc, List.pairwise_append]
  refine ⟨p1, ?_, fun a ha b hb => ?_⟩
  · rw [List.singleton_append, List.pairwise_cons]
    exact ⟨hhi, p2⟩
  · rw [List.singleton_append] at hb
    rcases List.mem_cons.1 hb with rfl | hb
    · exact hlo a ha
    · exact p3 a ha b hb
theorem putAt_mem {l : List DMacro} {m : DMacro} {k : Nat} : m ∈ putAt l m k := by unfold putAt; simp
theorem putAt_of {l : List DMacro} {m x : DMacro} {k : Nat} (h : x ∈ putAt l m k) : x = m ∨ x ∈ l := by
  unfold putAt at h
  simp only [List.mem_append, List.mem_singleton] at h
  rcases h with (h | h) | h
  · exact .inr (List.mem_of_mem_take h)
  · exact .inl h
  · exact .inr (List.mem_of_mem_drop h)
theorem putAt_len {l : List DMacro} {m : DMacro} {k : Nat} : (putAt l m k).length = l.length + 1 := by
  unfold putAt
  rw [List.length_append, List.length_append, List.length_take, List.length_drop, List.length_singleton]; omega
theorem any_isIn {l : List DMacro} (h : tabOk l = true) (nm : ByteArray) : isIn l nm = true ↔ ∃ m ∈ l, m.name = nm := by
  constructor
  · intro hi
    have hlow := isIn_lt hi
    refine ⟨_, List.getElem_mem hlow, ?_⟩
    unfold isIn at hi
    rw [dif_pos hlow] at hi
    exact bytes_same hi
  · rintro ⟨m, hm, rfl⟩
    cases hi : isIn l m.name
    · obtain ⟨j, hj, rfl⟩ := List.getElem_of_mem hm
      have := names_in h hi hj
      simp at this
    · rfl
/-- There is but one macro with a name. -/
theorem tab_one {l : List DMacro} (h : tabOk l = true) {a b : DMacro} (ha : a ∈ l) (hb : b ∈ l) (hn : a.name = b.name) : a = b := by
  obtain ⟨i, hi, rfl⟩ := List.getElem_of_mem ha
  obtain ⟨j, hj, rfl⟩ := List.getElem_of_mem hb
  rcases Nat.lt_trichotomy i j with hij | rfl | hij
  · have := tab_lt h hij hj
    rw [hn, sLess_irrefl] at this
    exact absurd this (by simp)
  · rfl
  · have := tab_lt h hij hi
    rw [hn, sLess_irrefl] at this
    exact absurd this (by simp)
theorem sameMac_me (x : DMacro) : sameMac x x = true := sameMac_yes rfl rfl rfl (bodySame_yes (by unfold sameTx; rw [decide_eq_true rfl]) rfl)
/-- What holds where Define says true. -/
theorem def_facts {l : List DMacro} {m : DMacro} (h : (defM l m).2 = true) :
    tabOk l = true ∧ macOk m = true ∧ tabOk (defM l m).1 = true ∧ isIn (defM l m).1 m.name = true ∧ defM (defM l m).1 m = ((defM l m).1, true) ∧ unDef (defM l m).1 m.name = unDef l m.name := by
  by_cases ht : tabOk l = true
  rotate_left
  · unfold defM at h; rw [if_neg ht] at h; exact absurd h (by simp)
  by_cases hm : macOk m = true
  rotate_left
  · unfold defM at h; rw [if_pos ht, if_neg hm] at h; exact absurd h (by simp)
  by_cases hi : isIn l m.name = true
  · have hlow := isIn_lt hi
    have e : defM l m = (l, sameMac l[lowAt l m.name] m) := by unfold defM; rw [if_pos ht, if_pos hm, if_pos hi, dif_pos hlow]
    rw [e] at h
    have hs : sameMac l[lowAt l m.name] m = true := h
    rw [hs] at e
    refine ⟨ht, hm, by rw [e]; exact ht, by rw [e]; exact hi, by rw [e]; exact e, by rw [e]⟩
  · have hif : isIn l m.name = false := by simpa using hi
    by_cases h10 : l.length = 10
    · unfold defM at h; rw [if_pos ht, if_pos hm, hif, if_neg (by simp), if_pos h10] at h; exact absurd h (by simp)
    · have e : defM l m = (putAt l m (lowAt l m.name), true) := by unfold defM; rw [if_pos ht, if_pos hm, hif, if_neg (by simp), if_neg h10]
      obtain ⟨p1, p2, -⟩ := tab_parts ht
      have hT : tabOk (putAt l m (lowAt l m.name)) = true := asc_tab (by rw [putAt_len]; omega) (fun x hx => by
        rcases putAt_of hx with rfl | hx
        · exact hm
        · exact p2 x hx) (putAt_asc ht hif)
      have hI : isIn (putAt l m (lowAt l m.name)) m.name = true := (any_isIn hT m.name).2 ⟨m, putAt_mem, rfl⟩
      have hlow := isIn_lt hI
      have hone : (putAt l m (lowAt l m.name))[lowAt (putAt l m (lowAt l m.name)) m.name] = m := by
        refine tab_one hT (List.getElem_mem hlow) putAt_mem ?_
        unfold isIn at hI
        rw [dif_pos hlow] at hI
        exact bytes_same hI
      rw [e]
      refine ⟨ht, hm, hT, hI, ?_, ?_⟩
      · show defM (putAt l m (lowAt l m.name)) m = _
        rw [defM, if_pos hT, if_pos hm, if_pos hI, dif_pos hlow, hone, sameMac_me]
      · show unDef (putAt l m (lowAt l m.name)) m.name = _
        unfold unDef
        rw [if_pos hT, if_pos ht]
        unfold putAt
        have hk : keepN m.name m = false := by unfold keepN; simp
        rw [List.filter_append, List.filter_append, List.filter_cons, if_neg (by rw [hk]; simp), List.filter_nil, List.append_nil, ← List.filter_append, List.take_append_drop]
theorem def_no {l : List DMacro} {m : DMacro} (h : (defM l m).2 = false) : (defM l m).1 = l ∨ ((defM l m).1 = [] ∧ 0 < l.length) := by
  by_cases ht : tabOk l = true
  · left
    unfold defM at h ⊢
    rw [if_pos ht] at h ⊢
    by_cases hm : macOk m = true
    · rw [if_pos hm] at h ⊢
      by_cases hi : isIn l m.name = true
      · rw [if_pos hi]
      · rw [if_neg hi] at h ⊢
        by_cases h10 : l.length = 10
        · rw [if_pos h10]
        · rw [if_neg h10] at h; exact absurd h (by simp)
    · rw [if_neg hm]
  · right
    refine ⟨by unfold defM; rw [if_neg ht], ?_⟩
    cases l with
    | nil => exact absurd (show tabOk [] = true by decide) ht
    | cons a l => simp

end Go.Proofs.Ythbojipdhgidlab
