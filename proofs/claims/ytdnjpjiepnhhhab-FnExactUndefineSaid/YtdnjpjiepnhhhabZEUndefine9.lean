/- Texts that the proof of EUndefine stands on, in one file. -/
import Derived.Test.YtdnjpjiepnhhhabZEUndefine6
import Derived.Test.YtdnjpjiepnhhhabZEUndefine8
import Derived.Deep.RegionLaw
import Derived.Lib.SliceRun
import Derived.Test.YtdnjpjiepnhhhabZEUndefine5
import Derived.Test.YtdnjpjiepnhhhabZEUndefine7
import Derived.Deep.Cut
import Derived.Deep.CutRange
import Derived.Laws.ResultCell
set_option linter.unusedVariables false
set_option linter.unusedSimpArgs false
/- A macro's copy, and a table's, of the program.  -/
namespace Go.Proofs.Ytdnjpjiepnhhhab
open Go.RowKit

/-- What a copy of a macro reads as. -/
def cpMac (x : DMacro) : DMacro := ⟨x.name, x.function, x.params, bodyFrom x.body 0⟩
theorem bodyFrom_len0 (l : List Tok) : (bodyFrom l 0).length = l.length := by unfold bodyFrom; simp
theorem cpMac_ok {x : DMacro} (h : macOk x = true) : cpMac x = x := by
  obtain ⟨_, _, h7⟩ := macOk_facts h
  have e : bodyFrom x.body 0 = x.body := by
    refine List.ext_getElem (bodyFrom_len0 _) fun i h1 h2 => ?_
    obtain ⟨_, b2, b3⟩ := bodOk_facts h2 (h7 i h2)
    unfold bodyFrom
    simp only [List.drop_zero, List.getElem_mapIdx]
    have hs : (x.body[i].spaced && decide (0 < i)) = x.body[i].spaced := by
      by_cases h0 : i = 0
      · rw [b3 h0, Bool.false_and]
      · rw [decide_eq_true (by omega), Bool.and_true]
    rw [hs]
    exact (show (⟨x.body[i].kind, x.body[i].text, x.body[i].spaced, []⟩ : Tok) = x.body[i] by rw [← b2])
  unfold cpMac
  rw [e]
/-- A copy of the call's own. -/
def CopyMac (x : DMacro) (w : World) (e : Ending) (w' : World) : Prop :=
  ∃ (a2 a3 : Option Addr) (c2 c3 : Nat) (fp : List Nat), e = .returned (.agg #[.string x.name, .bool x.function, .slice a2 x.params.length c2, .slice a3 x.body.length c3]) ∧ sMacro.R w' [.string x.name, .bool x.function, .slice a2 x.params.length c2, .slice a3 x.body.length c3] (cpMac x) fp ∧
    Own w' w.heap.size fp ∧ NoMac w' fp ∧ Below w.heap.size w w'

set_option maxHeartbeats 8000000 in
set_option maxRecDepth 100000 in
theorem impl_copyMacro (cs : List Value) (x : DMacro) (fp : List Nat) (w : World) (hp : x.params.length ≤ 2000000) (hl : x.body.length ≤ 1048576) (H : sMacro.R w cs x fp) :
    Calls Try.prog 61 #[.agg cs.toArray] w (CopyMac x w) := by
  obtain ⟨h2, h3, p2, p3, rfl, hok, K2, K3, rfl⟩ := H
  obtain ⟨a2, c2, rfl, -, -, -, hsz⟩ := open_strs K2
  obtain ⟨a3, c3, rfl, -⟩ := open_rows K3
  have b0 := alloc_below' w (.cells #[.string x.name, .bool x.function, .slice a2 x.params.length c2, .slice a3 x.body.length c3] 35)
  have b1 := b0.trans ((alloc_below' (w.alloc (.cells #[.string x.name, .bool x.function, .slice a2 x.params.length c2, .slice a3 x.body.length c3] 35)) (.cells #[.string ⟨#[]⟩, .bool false, .slice none 0 0, .slice none 0 0] 35)).mono b0.size)
  have HG := Lib.hid (alloc2_blk w #[.string x.name, .bool x.function, .slice a2 x.params.length c2, .slice a3 x.body.length c3] #[.string ⟨#[]⟩, .bool false, .slice none 0 0, .slice none 0 0] 35 35)
  have HW2 : Hid (((w.alloc (.cells #[.string x.name, .bool x.function, .slice a2 x.params.length c2, .slice a3 x.body.length c3] 35)).alloc (.cells #[.string ⟨#[]⟩, .bool false, .slice none 0 0, .slice none 0 0] 35)).heap.size = w.heap.size + 2) := by
    show ((w.heap.push _).push _).size = _
    simp
  have HK2 := Lib.hid ((sSlice sStr).below K2 b1)
  have HK3 := Lib.hid ((sSlice sTok).below K3 b1)
  have HSZ := Lib.hid hsz
  have HB1 := Lib.hid b1
  clear K2 K3 hsz b0 b1
  obtain ⟨hv, HV⟩ : ∃ hv : Value, Hid (hv = Value.slice a2 x.params.length c2) := ⟨_, rfl⟩
  go_enter Try.func61, Try.ntmps61
  go_upto_region 2 with fail
  generalize ((w.alloc (.cells #[.string x.name, .bool x.function, .slice a2 x.params.length c2, .slice a3 x.body.length c3] 35)).alloc (.cells #[.string ⟨#[]⟩, .bool false, .slice none 0 0, .slice none 0 0] 35)) = W2 at *
  have c02 : W2.cell? ⟨w.heap.size, 2, none⟩ = some hv := by
    rw [HV.out]
    exact cell_of_row _ _ 2 _ _ _ HG.out.1
  have HKV : Hid ((sSlice sStr).R W2 [hv] x.params p2) := by show (sSlice sStr).R _ _ _ _; rw [HV.out]; exact HK2.out
  go_wp2_with (
    at_builtin
    refine wp_append_strsR rfl (.tmp 4) (.tmp 6) rfl W2.heap.size (.slice none 0 0) hv [] x.params _ rfl (World.ownsRow_nil _ _ _ _) rfl HKV.out (by simp; omega) (Nat.le_refl _) ?_
    intro v5 w1 hown hgrow
    rw [List.nil_append] at hown
    obtain ⟨fp1, R1, O1, hfp⟩ := own_flat (ok := okStr) hown HSZ.out
    have hbW : Below W2.heap.size W2 w1 := (Below.refl W2.heap.size W2).grown hgrow (Nat.le_refl _) (fun b hb => by simp [Value.ownBlock] at hb)
    have hN1 : NoMac w1 fp1 := fun b hb' => by
      have hv := hfp b hb'
      rcases hown.2 with ⟨rfl, _⟩ | ⟨g, cap, cur, rfl, _, hg, _⟩
      · simp [Value.ownBlock] at hv
      · simp only [Value.ownBlock, Option.some.injEq] at hv
        subst hv
        exact ⟨_, _, _, hg, by decide⟩
    obtain ⟨a1, cap1, rfl, hq⟩ := open_rows R1
    clear hq
    have HALL := Lib.hid (And.intro R1 (And.intro O1 (And.intro hN1 hbW)))
    clear hown hgrow R1 O1 hfp hbW hN1 c02)
  obtain ⟨R1, O1, hN1, hbW⟩ := HALL.out
  have hw2 := HW2.out
  have hs1 := hbW.size
  have HG1 : Hid (w1.heap[w.heap.size]? = some (.cells #[.string x.name, .bool x.function, .slice a2 x.params.length c2, .slice a3 x.body.length c3] 35 (0, 0)) ∧ w1.heap[w.heap.size + 1]? = some (.cells #[.string ⟨#[]⟩, .bool false, .slice none 0 0, .slice none 0 0] 35 (0, 0))) := ⟨(hbW.block _ (by omega)).trans HG.out.1, (hbW.block _ (by omega)).trans HG.out.2⟩
  have HB2 := Lib.hid (HB1.out.trans (hbW.mono HB1.out.size))
  have HK4 := Lib.hid ((sSlice sTok).below HK3.out hbW)
  clear HALL HG HKV HK2 HK3 HV HB1 hbW
  have hd : Below w1.heap.size w1 w1.drew := belowN (Below.refl _ _) 1
  refine wp_region_noPanic ?_
  refine wp_region_held_drew (S := fun w' => w'.heap[w.heap.size]? = some (.cells #[.string x.name, .bool x.function, .slice a2 x.params.length c2, .slice a3 x.body.length c3] 35 (0, 0))) (by kernel_rfl) (by exact HG1.out.1) (fun hHeld => ?_)
  have HZd := Lib.hid (show w1.drew.heap[w.heap.size + 1]? = _ from HG1.out.2)
  have HRd := Lib.hid ((sSlice sStr).below R1 hd)
  have HOd := Lib.hid (O1.grow hd)
  have HNd := Lib.hid (hN1.below hd)
  have HKd := Lib.hid ((sSlice sTok).below HK4.out hd)
  have HBd := Lib.hid (HB2.out.trans (hd.mono HB2.out.size))
  have hsd : w1.heap.size ≤ w1.drew.heap.size := hd.size
  clear R1 O1 hN1 HG1 HK4 HB2 hd
  generalize w1.drew = wd at *
  refine takeH 0 8 (v := ?_) rfl rfl (by kernel_rfl) (by kernel_rfl) (by kernel_rfl) (fun _ _ _ h => h) (by rfl) (by assumption) ?_ ?_
  rotate_left
  · intro w hSw; have s0 := cell_of_row _ _ 0 _ _ _ hSw; have s1 := cell_of_row _ _ 1 _ _ _ hSw; have s2 := cell_of_row _ _ 2 _ _ _ hSw; have s3 := cell_of_row _ _ 3 _ _ _ hSw; go_simp; (first | done | with_reducible rfl)
  try simp only [Act.put, List.setIfInBounds_toArray, List.set_cons_zero, List.set_cons_succ]
  refine takeH 1 9 (v := ?_) rfl rfl (by kernel_rfl) (by kernel_rfl) (by kernel_rfl) (fun _ _ _ h => h) (by rfl) (by assumption) ?_ ?_
  rotate_left
  · intro w hSw; have s0 := cell_of_row _ _ 0 _ _ _ hSw; have s1 := cell_of_row _ _ 1 _ _ _ hSw; have s2 := cell_of_row _ _ 2 _ _ _ hSw; have s3 := cell_of_row _ _ 3 _ _ _ hSw; go_simp; (first | done | with_reducible rfl)
  try simp only [Act.put, List.setIfInBounds_toArray, List.set_cons_zero, List.set_cons_succ]
  refine takeH 2 10 (v := ?_) rfl rfl (by kernel_rfl) (by kernel_rfl) (by kernel_rfl) (fun _ _ _ h => h) (by rfl) (by assumption) ?_ ?_
  rotate_left
  · intro w hSw; have s0 := cell_of_row _ _ 0 _ _ _ hSw; have s1 := cell_of_row _ _ 1 _ _ _ hSw; have s2 := cell_of_row _ _ 2 _ _ _ hSw; have s3 := cell_of_row _ _ 3 _ _ _ hSw; go_simp; (first | done | with_reducible rfl)
  try simp only [Act.put, List.setIfInBounds_toArray, List.set_cons_zero, List.set_cons_succ]
  refine takeH 3 11 (v := ?_) rfl rfl (by kernel_rfl) (by kernel_rfl) (by kernel_rfl) (fun _ _ _ h => h) (by rfl) (by assumption) ?_ ?_
  rotate_left
  · intro w hSw; have s0 := cell_of_row _ _ 0 _ _ _ hSw; have s1 := cell_of_row _ _ 1 _ _ _ hSw; have s2 := cell_of_row _ _ 2 _ _ _ hSw; have s3 := cell_of_row _ _ 3 _ _ _ hSw; go_simp; (first | done | with_reducible rfl)
  try simp only [Act.put, List.setIfInBounds_toArray, List.set_cons_zero, List.set_cons_succ]
  refine takeH 4 12 (v := ?_) rfl rfl (by kernel_rfl) (by kernel_rfl) (by kernel_rfl) (fun _ _ _ h => h) (by rfl) (by assumption) ?_ ?_
  rotate_left
  · intro w hSw; have s0 := cell_of_row _ _ 0 _ _ _ hSw; have s1 := cell_of_row _ _ 1 _ _ _ hSw; have s2 := cell_of_row _ _ 2 _ _ _ hSw; have s3 := cell_of_row _ _ 3 _ _ _ hSw; go_simp; (first | done | with_reducible rfl)
  try simp only [Act.put, List.setIfInBounds_toArray, List.set_cons_zero, List.set_cons_succ]
  refine takeH 5 13 (v := ?_) rfl rfl (by kernel_rfl) (by kernel_rfl) (by kernel_rfl) (fun _ _ _ h => h) (by rfl) (by assumption) ?_ ?_
  rotate_left
  · intro w hSw; have s0 := cell_of_row _ _ 0 _ _ _ hSw; have s1 := cell_of_row _ _ 1 _ _ _ hSw; have s2 := cell_of_row _ _ 2 _ _ _ hSw; have s3 := cell_of_row _ _ 3 _ _ _ hSw; go_simp; (first | done | with_reducible rfl)
  try simp only [Act.put, List.setIfInBounds_toArray, List.set_cons_zero, List.set_cons_succ]
  refine takeH 6 14 (v := ?_) rfl rfl (by kernel_rfl) (by kernel_rfl) (by kernel_rfl) (fun _ _ _ h => h) (by rfl) (by assumption) ?_ ?_
  rotate_left
  · intro w hSw; have s0 := cell_of_row _ _ 0 _ _ _ hSw; have s1 := cell_of_row _ _ 1 _ _ _ hSw; have s2 := cell_of_row _ _ 2 _ _ _ hSw; have s3 := cell_of_row _ _ 3 _ _ _ hSw; go_simp; (first | done | with_reducible rfl)
  try simp only [Act.put, List.setIfInBounds_toArray, List.set_cons_zero, List.set_cons_succ]
  refine wpAnyH_ready (rs := [7]) (by kernel_rfl) (by simp) ?_
  refine AllReadyH.cons rfl (fun K hK => ?_) AllReadyH.nil
  go_simp
  refine (impl_bodyOf_t _ x.body p3 wd hl HKd.out).mono ?_
  rintro e w3 ⟨v3, fp3, rfl, R3, O3, hn3, hb3⟩
  obtain ⟨a4, c4, rfl, -⟩ := open_rows R3
  rw [bodyFrom_len0]
  have hs3 := hb3.size
  have HZ3 := Lib.hid ((hb3.block (w.heap.size + 1) (by omega)).trans HZd.out)
  have HM3 := Lib.hid ((hb3.block w.heap.size (by omega)).trans hHeld)
  rw [bodyFrom_len0] at R3
  have hd1 : ∀ b ∈ fp1, w.heap.size + 2 ≤ b ∧ b < wd.heap.size := fun b hb => ⟨by have := (HOd.out.2 b hb).1; omega, HOd.out.lt b hb⟩
  have hd3 : ∀ b ∈ fp3, wd.heap.size ≤ b := fun b hb => (O3.2 b hb).1
  have HRF : Hid (sMacro.R (setM w3 (w.heap.size + 1) (.string x.name) (.bool x.function) (.slice a1 x.params.length cap1) (.slice a4 x.body.length c4)) [.string x.name, .bool x.function, .slice a1 x.params.length cap1, .slice a4 x.body.length c4] (cpMac x) (fp1 ++ fp3)) :=
    ⟨_, _, fp1, fp3, rfl, hok, (sSlice sStr).frame (fun b hb => setM_far (by have := (hd1 b hb).1; omega) _ _ _ _) ((sSlice sStr).below HRd.out hb3), (sSlice sTok).frame (fun b hb => setM_far (by have := hd3 b hb; omega) _ _ _ _) R3, rfl⟩
  have HOF : Hid (Own (setM w3 (w.heap.size + 1) (.string x.name) (.bool x.function) (.slice a1 x.params.length cap1) (.slice a4 x.body.length c4)) w.heap.size (fp1 ++ fp3)) := by
    have h1 : Own w3 w.heap.size fp1 := (HOd.out.grow hb3).lower (by omega)
    have h3 : Own w3 w.heap.size fp3 := O3.lower (by omega)
    have h := h1.app h3 (fun b hb hx => by have h1 := (hd1 b hb).2; have h2 := hd3 b hx; omega)
    exact (((h.setCell _ _).setCell _ _).setCell _ _).setCell _ _
  have HNF : Hid (NoMac (setM w3 (w.heap.size + 1) (.string x.name) (.bool x.function) (.slice a1 x.params.length cap1) (.slice a4 x.body.length c4)) (fp1 ++ fp3)) :=
    NoMac.app ((HNd.out.below hb3).same fun b hb _ => setM_far (by have := (hd1 b hb).1; omega) _ _ _ _) (hn3.same fun b hb _ => setM_far (by have := hd3 b hb; omega) _ _ _ _)
  have HBF := Lib.hid (setM_below (g := w.heap.size + 1) (HBd.out.trans (hb3.mono HBd.out.size)) (by omega) (.string x.name) (.bool x.function) (.slice a1 x.params.length cap1) (.slice a4 x.body.length c4))
  have HSF := Lib.hid (setM_at HZ3.out (.string x.name) (.bool x.function) (.slice a1 x.params.length cap1) (.slice a4 x.body.length c4))
  refine hK.out _ _ HM3.out (fun hHeld => ?_)
  clear hK K
  try simp only [Act.put, List.setIfInBounds_toArray, List.set_cons_zero, List.set_cons_succ]
  clear HZd HRd HOd HNd HKd HBd R3 O3 hn3 hb3 hd1 hd3
  refine takeH 8 16 (v := ?_) rfl rfl (by kernel_rfl) (by kernel_rfl) (by kernel_rfl) (fun _ _ _ h => h) (by rfl) (by assumption) ?_ ?_
  rotate_left
  · intro w hSw; have s0 := cell_of_row _ _ 0 _ _ _ hSw; have s1 := cell_of_row _ _ 1 _ _ _ hSw; have s2 := cell_of_row _ _ 2 _ _ _ hSw; have s3 := cell_of_row _ _ 3 _ _ _ hSw; go_simp; (first | done | with_reducible rfl)
  try simp only [Act.put, List.setIfInBounds_toArray, List.set_cons_zero, List.set_cons_succ]
  have z0 := cell_of_row w3 (w.heap.size + 1) 0 _ _ _ HZ3.out
  have zf0 : w3.frozen? ⟨w.heap.size + 1, 0, none⟩ = false := frozen_of_row _ _ 0 _ _ HZ3.out
  have z1 := cell_of_row w3 (w.heap.size + 1) 1 _ _ _ HZ3.out
  have zf1 : w3.frozen? ⟨w.heap.size + 1, 1, none⟩ = false := frozen_of_row _ _ 1 _ _ HZ3.out
  have z2 := cell_of_row w3 (w.heap.size + 1) 2 _ _ _ HZ3.out
  have zf2 : w3.frozen? ⟨w.heap.size + 1, 2, none⟩ = false := frozen_of_row _ _ 2 _ _ HZ3.out
  have z3 := cell_of_row w3 (w.heap.size + 1) 3 _ _ _ HZ3.out
  have zf3 : w3.frozen? ⟨w.heap.size + 1, 3, none⟩ = false := frozen_of_row _ _ 3 _ _ HZ3.out
  refine wpAnyH_ready (rs := [9]) (by kernel_rfl) (by simp) ?_
  refine AllReadyH.cons rfl (fun K hK => ?_) AllReadyH.nil
  go_simp
  change K _ (setM w3 (w.heap.size + 1) (.string x.name) (.bool x.function) (.slice a1 x.params.length cap1) (.slice a4 x.body.length c4))
  refine hK.out _ _ ((setM_far (by omega) _ _ _ _).trans HM3.out) (fun hHeld => ?_)
  clear hK K
  try simp only [Act.put, List.setIfInBounds_toArray, List.set_cons_zero, List.set_cons_succ]
  refine wpAnyH_done (by kernel_rfl) ?_ _
  refine NoPanic.normal ?_
  clear hHeld
  go_wp2
  refine bodyPost_ret (results_cell_row rfl _ _ (w.heap.size + 1) _ _ _ _ rfl HSF.out Try.underlying35 rfl (by kernel_rfl)) rfl ?_
  exact ⟨a1, a4, cap1, c4, fp1 ++ fp3, rfl, HRF.out, HOF.out, HNF.out, HBF.out⟩

end Go.Proofs.Ytdnjpjiepnhhhab

/- A table's copy, of the program. -/
namespace Go.Proofs.Ytdnjpjiepnhhhab
open Go.RowKit

/-- A table of the call's own. -/
def MineTab (l : List DMacro) (w : World) (e : Ending) (w' : World) : Prop :=
  ∃ (v : Value) (L : List (Elem DMacro)), e = .returned v ∧ RowE sMacro w.heap.size 35 v L w' ∧ L.map (·.d) = l ∧ Own w' w.heap.size (L.flatMap (·.fp)) ∧ Below w.heap.size w w'
theorem own_grown {w w' : World} {lo : Nat} {fp : List Nat} {r : Option Nat} (h : Own w lo fp) (hg : w.grownBy w' r) (hn : ∀ b ∈ fp, some b ≠ r) : Own w' lo fp :=
  ⟨h.1, fun b hb => ⟨(h.2 b hb).1, by
    obtain ⟨cur, e, h1⟩ := (h.2 b hb).2
    exact ⟨cur, e, (hg.block b (h.lt b hb) (hn b hb)).trans h1⟩⟩⟩

set_option maxHeartbeats 4000000 in
set_option maxRecDepth 100000 in
theorem impl_copyTable (v : Value) (l : List DMacro) (fp : List Nat) (w : World) (hl : l.length ≤ 1048576) (hx : ∀ k, (hk : k < l.length) → MacSm l[k]) (H : (sSlice sMacro).R w [v] l fp) :
    Calls Try.prog 33 #[v] w (MineTab (l.map cpMac) w) := by
  obtain ⟨a, cap, rfl, hc, hm, hrow⟩ := open_rows H
  unfold maxLen at hm
  clear H
  have HX := Lib.hid hx
  clear hx
  go_enter Try.func33, Try.ntmps33
  go_wp2
  go_loopw [3, 8] (fun o i wr => ∃ (k : Nat) (L : List (Elem DMacro)), k ≤ l.length ∧ i = .int .i64 k ∧ Hid (RowE sMacro w.heap.size 35 o L wr) ∧ Hid (L.map (·.d) = (l.take k).map cpMac) ∧ Hid (Own wr w.heap.size (L.flatMap (·.fp))) ∧ Below w.heap.size w wr) (fun _ i _ => l.length - (intOf i).toNat)
  case atStart => exact ⟨0, [], by omega, rfl, RowE.nil _ _ _ _, rfl, (show Own w w.heap.size [] from Own.nil _ _), Below.refl _ _⟩
  case round =>
    obtain ⟨k, L, hk, rfl, HE, HD, HO, hb⟩ := hrel
    by_cases hlt : k < l.length
    · obtain ⟨b1, off1, fps1, rfl, hb1, -, he1⟩ := hrow (by omega)
      obtain ⟨es1, hE1, hR1⟩ := he1 k hlt
      clear hrow he1
      have hR1' := sMacro.below hR1 hb
      obtain ⟨h2, h3, p2, p3, rfl, _, K2, K3, _⟩ := hR1
      obtain ⟨q2, d2, rfl, -⟩ := open_strs K2
      obtain ⟨q3, d3, rfl, -⟩ := open_rows K3
      clear K2 K3
      replace hE1 := hE1.frame (hb.block b1 hb1)
      have c10 : wr.cell? ⟨b1, off1 + k * 4, none⟩ = some _ := elem_cell0 hE1 (by decide) rfl
      have c11 : wr.cell? ⟨b1, off1 + k * 4 + 1, none⟩ = some _ := elem_cell (j := 1) hE1 (by decide) rfl
      have c12 : wr.cell? ⟨b1, off1 + k * 4 + 2, none⟩ = some _ := elem_cell (j := 2) hE1 (by decide) rfl
      have c13 : wr.cell? ⟨b1, off1 + k * 4 + 3, none⟩ = some _ := elem_cell (j := 3) hE1 (by decide) rfl
      clear hE1
      have hba := alloc_below' wr (.cells #[.string l[k].name, .bool l[k].function, .slice q2 l[k].params.length d2, .slice q3 l[k].body.length d3] 35)
      have HC := Lib.hid (impl_copyMacro _ l[k] _ (wr.alloc (.cells #[.string l[k].name, .bool l[k].function, .slice q2 l[k].params.length d2, .slice q3 l[k].body.length d3] 35)) (HX.out k hlt).1 (HX.out k hlt).2.1 (sMacro.below hR1' hba))
      have HLl : Hid (L.length = k) := by have := congrArg List.length HD.out; simp at this; show _ = _; omega
      have HE1 := Lib.hid (HE.out.below hba)
      have HO1 := Lib.hid (HO.out.grow hba)
      have hbw1 := hb.trans (hba.mono hb.size)
      clear HE HO hba hR1'
      go_wp2_with fail
      refine HC.out.mono ?_
      rintro e w2 ⟨a2, a3, c2, c3, fp2, rfl, hR2, hO2, hN2, hb2⟩
      obtain ⟨ar, capr, rfl, -⟩ := HE1.out.val
      have hE2 := HE1.out.below hb2
      have hO1 := HO1.out.grow hb2
      have hbw := hbw1.trans (hb2.mono hbw1.size)
      have hlo3 : ∀ b ∈ fp2, w.heap.size ≤ b := fun b hx => Nat.le_trans hbw1.size (hO2.2 b hx).1
      have hapt : ∀ b ∈ L.flatMap (·.fp), b ∉ fp2 := fun b hb hx => by
        have h1 := HO1.out.lt b hb
        have h2 := (hO2.2 b hx).1
        omega
      have hOO := hO1.app (hO2.lower hbw1.size) hapt
      have hap : ∀ b ∈ L.flatMap (·.fp) ++ fp2, some b ≠ (Value.slice ar L.length capr).ownBlock := fun b hb e => by
        rcases List.mem_append.1 hb with h | h
        · obtain ⟨x, hx, hb'⟩ := List.mem_flatMap.1 h
          exact hE2.ap hx hb' e.symm
        · rcases hE2.row.2 with ⟨h0, _⟩ | ⟨g, capg, curg, q1, q2, q3, -⟩
          · rw [h0] at e; simp [Value.ownBlock] at e
          · rw [q1] at e
            simp only [Value.ownBlock, Option.some.injEq] at e
            subst e
            obtain ⟨cur, t, fr, h1, h2⟩ := hN2 b h
            rw [h1] at q3
            simp only [Option.some.injEq, Obj.cells.injEq] at q3
            exact h2 q3.2.1
      clear c10 c11 c12 c13 HC HE1 HO1 hO1 hapt
      go_wp2_with (at_builtin; refine wp_append_macE rfl (.tmp 12) (.tmp 15) rfl w.heap.size (.slice ar L.length capr) L rfl hE2 l[k].name l[k].function a2 a3 l[k].params.length c2 l[k].body.length c3 (cpMac l[k]) fp2 rfl hR2 hlo3 hN2 (by have := HLl.out; omega) hbw.size ?_; intro v3 w3 hE3 hg3)
      have hb3 : Below w.heap.size w w3 := hbw.grown hg3 hbw.size (fun b hb => (hE2.row.lt b hb).1)
      have HE3 := Lib.hid hE3
      have HO3 : Hid (Own w3 w.heap.size ((L ++ [(⟨[.string l[k].name, .bool l[k].function, .slice a2 l[k].params.length c2, .slice a3 l[k].body.length c3], cpMac l[k], fp2⟩ : Elem DMacro)]).flatMap (·.fp))) := by
        show Own _ _ _
        rw [List.flatMap_append]
        have := own_grown hOO hg3 hap
        simpa using this
      have HD3 : Hid ((L ++ [(⟨[.string l[k].name, .bool l[k].function, .slice a2 l[k].params.length c2, .slice a3 l[k].body.length c3], cpMac l[k], fp2⟩ : Elem DMacro)]).map (·.d) = (l.take (k + 1)).map cpMac) := by
        show _ = _
        rw [List.map_append, HD.out, List.take_succ_eq_append_getElem hlt, List.map_append]; rfl
      clear hE2 hE3 hg3 hR2 hN2 hO2 hlo3 hb2 hOO hap
      go_roundw
      case rel => exact ⟨k + 1, _, by omega, by go_num, HE3, HD3, HO3, hb3⟩
      case measure => simp [intOf]; omega
    · have HDF : Hid (L.map (·.d) = l.map cpMac) := by
        show _ = _
        rw [HD.out, List.take_of_length_le (by omega)]
      clear HD
      go_wp2
      go_ret
      exact ⟨_, L, rfl, HE.out, HDF.out, HO.out, hb⟩

end Go.Proofs.Ytdnjpjiepnhhhab

/- slices.Delete of one macro, of a row of the call's own. -/
namespace Go.Proofs.Ytdnjpjiepnhhhab
open Go.RowKit

theorem zero_mac (w : World) : (zeroValue 35).run Try.prog w = .ok (.agg #[.string ⟨#[]⟩, .bool false, .slice none 0 0, .slice none 0 0]) w := Try.zeroValue35 w
theorem run_clear_mac (w : World) (ty : TypeId) (b o c : Nat) (hc : ∀ j, j < 4 → (w.cell? ⟨b, o + j, none⟩).isSome = true) (hf : ∀ j, j < 4 → w.frozen? ⟨b, o + j, none⟩ = false) :
    (Builtin.clear_ #[25] ty #[.slice (some ⟨b, o, none⟩) 1 c]).run Try.prog w = .ok (.tuple #[]) (w.setCells b o [.string ⟨#[]⟩, .bool false, .slice none 0 0, .slice none 0 0]) := by
  have hzc : (Builtin.zeroCells (Value.agg #[.string ⟨#[]⟩, .bool false, .slice none 0 0, .slice none 0 0]).cells 1).toList = [.string ⟨#[]⟩, .bool false, .slice none 0 0, .slice none 0 0] := by kernel_rfl
  have hst := run_storeCells_cells (P := Try.prog) b o [.string ⟨#[]⟩, .bool false, .slice none 0 0, .slice none 0 0] 0 w (by simpa using hc) (by simpa using hf) (by simp [Value.oneCell'])
  simp only [Nat.add_zero] at hst
  simp [Builtin.clear_, run_underlying ti_mac.1, zero_mac, hzc, hst]
theorem putAll_eq (b : Nat) : ∀ (vs : List Value) (w : World) (o : Nat), putAll w b o vs = w.setCells b o vs
  | [], _, _ => rfl
  | v :: vs, w, o => putAll_eq b vs _ (o + 1)
theorem setFrom_len : ∀ (cs xs : List Value) (o : Nat), (setFrom xs o cs).length = xs.length
  | [], _, _ => rfl
  | c :: cs, xs, o => by unfold setFrom; rw [setFrom_len cs]; simp
theorem setFrom_take : ∀ (cs xs : List Value) (o n : Nat), n ≤ o → (setFrom xs o cs).take n = xs.take n
  | [], _, _, _, _ => rfl
  | c :: cs, xs, o, n, h => by
    unfold setFrom
    rw [setFrom_take cs _ (o + 1) n (by omega)]
    exact List.take_set_of_le h
/-- What a row's cells read as with an element gone. -/
theorem row_gone {base e : Nat} {g n cap k : Nat} {L : List (Elem DMacro)} {w : World} (hrow : w.ownsRow base e 4 (.slice (some ⟨g, 0, none⟩) n cap) n (L.flatMap (·.cells))) (h4 : ∀ x ∈ L, x.cells.length = 4) (hL : L.length = n) (hk : k < n) (zs : List Value) :
    ((w.setCells g (k * 4) ((L.drop (k + 1)).flatMap (·.cells))).setCells g ((n - 1) * 4) zs).ownsRow base e 4 (.slice (some ⟨g, 0, none⟩) (n - 1) cap) (n - 1) ((L.take k ++ L.drop (k + 1)).flatMap (·.cells)) := by
  rw [← putAll_eq, ← putAll_eq]
  have h1 := putAll_row ((L.drop (k + 1)).flatMap (·.cells)) w _ (k * 4) hrow
  have h2 := putAll_row zs _ _ ((n - 1) * 4) h1
  have hlen := flatMap_len (f := Elem.cells) h4
  have hA : ((L.take k).flatMap (·.cells)).length = k * 4 := by rw [flatMap_len (f := Elem.cells) (m := 4) (fun x hx => h4 x (List.mem_of_mem_take hx)), List.length_take]; congr 1; omega
  have hD : ((L.drop (k + 1)).flatMap (·.cells)).length = (n - 1 - k) * 4 := by rw [flatMap_len (f := Elem.cells) (m := 4) (fun x hx => h4 x (List.mem_of_mem_drop hx)), List.length_drop]; congr 1; omega
  have hsplit : L.flatMap (·.cells) = (L.take k).flatMap (·.cells) ++ ((L.drop k).flatMap (·.cells)) := by rw [← List.flatMap_append, List.take_append_drop]
  have hDk : ((L.drop k).flatMap (·.cells)).length = (n - k) * 4 := by rw [flatMap_len (f := Elem.cells) (m := 4) (fun x hx => h4 x (List.mem_of_mem_drop hx)), List.length_drop, hL]
  have key : (setFrom (setFrom (L.flatMap (·.cells)) (k * 4) ((L.drop (k + 1)).flatMap (·.cells))) ((n - 1) * 4) zs).take ((n - 1) * 4) = (L.take k ++ L.drop (k + 1)).flatMap (·.cells) := by
    rw [setFrom_take _ _ _ _ (Nat.le_refl _), hsplit, ← hA]
    have hz : (L.drop k).flatMap (·.cells) = ((L.drop k).flatMap (·.cells)).take ((n - 1 - k) * 4) ++ ((L.drop k).flatMap (·.cells)).drop ((n - 1 - k) * 4) := by rw [List.take_append_drop]
    rw [hz, setFrom_app _ _ _ _ (by rw [List.length_take, hD, hDk]; omega), ← List.append_assoc, List.flatMap_append]
    rw [List.take_append_of_le_length (by rw [List.length_append, hA, hD]; omega), List.take_of_length_le (by rw [List.length_append, hA, hD]; omega)]
  refine ⟨?_, .inr ?_⟩
  · rw [← key, List.length_take, setFrom_len, setFrom_len, hlen, hL]; omega
  · rcases h2.2 with ⟨h0, _⟩ | ⟨g', cap', cur, q1, q2, q3, q4, q5, q6, q7⟩
    · cases h0
    · simp only [Value.slice.injEq, Option.some.injEq, Addr.mk.injEq, and_true, true_and] at q1
      obtain ⟨rfl, rfl⟩ := q1
      refine ⟨g, cap, cur, rfl, q2, q3, by omega, q5, q6, ?_⟩
      rw [← key, ← q7, List.take_take, Nat.min_eq_left (by omega)]

theorem gone_E {base g n cap k : Nat} {L : List (Elem DMacro)} {w w' : World} (H : RowE sMacro base 35 (.slice (some ⟨g, 0, none⟩) n cap) L w) (hK : Kept [g] w w')
    (hrow : w'.ownsRow base 35 4 (.slice (some ⟨g, 0, none⟩) (n - 1) cap) (n - 1) ((L.take k ++ L.drop (k + 1)).flatMap (·.cells))) (hl : (L.take k ++ L.drop (k + 1)).length = n - 1) :
    RowE sMacro base 35 (.slice (some ⟨g, 0, none⟩) (n - 1) cap) (L.take k ++ L.drop (k + 1)) w' := by
  have hm : ∀ x ∈ L.take k ++ L.drop (k + 1), x ∈ L := fun x hx => by
    rcases List.mem_append.1 hx with h | h
    · exact List.mem_of_mem_take h
    · exact List.mem_of_mem_drop h
  have hb : ∀ x ∈ L, ∀ b ∈ x.fp, w'.heap[b]? = w.heap[b]? := fun x hx b hb => hK.block b (sMacro.lt (H.el x hx) b hb) (by
    have := H.ap hx hb
    simp only [Value.ownBlock, ne_eq, Option.some.injEq] at this
    simp only [List.mem_singleton]
    exact fun e => this e.symm)
  refine ⟨by rw [hl]; exact hrow, fun x hx => H.len x (hm x hx), fun x hx => sMacro.frame (hb x (hm x hx)) (H.el x (hm x hx)), fun x hx => H.lo x (hm x hx), fun x hx b hb' => ?_⟩
  obtain ⟨cur, t, fr, h1, h2⟩ := H.ty x (hm x hx) b hb'
  exact ⟨cur, t, fr, (hb x (hm x hx) b hb').trans h1, h2⟩

set_option maxHeartbeats 4000000 in
set_option maxRecDepth 100000 in
theorem lib_Delete (base g n cap k : Nat) (L : List (Elem DMacro)) (w : World) (hk : k < n) (hn : n ≤ 1000000) (H : RowE sMacro base 35 (.slice (some ⟨g, 0, none⟩) n cap) L w) :
    Calls Try.prog 34 #[.slice (some ⟨g, 0, none⟩) n cap, .int .i64 k, .int .i64 ((k : Int) + 1)] w fun e w' =>
      e = .returned (.slice (some ⟨g, 0, none⟩) (n - 1) cap) ∧ RowE sMacro base 35 (.slice (some ⟨g, 0, none⟩) (n - 1) cap) (L.take k ++ L.drop (k + 1)) w' ∧ Kept [g] w w' := by
  have hL : L.length = n := by
    rcases H.row.2 with ⟨h', _⟩ | ⟨g', cap', cur, h', _⟩
    · cases h'
    · simp only [Value.slice.injEq] at h'; exact h'.2.1.symm
  obtain ⟨curs, hcur⟩ : ∃ cur, w.heap[g]? = some (.cells cur 35 (0, 0)) ∧ n ≤ cap ∧ cap ≤ maxLen ∧ cur.size = cap * 4 := by
    rcases H.row.2 with ⟨h', _⟩ | ⟨g', cap', cur, h', _, h1, h2, h3, h4, _⟩
    · cases h'
    · simp only [Value.slice.injEq, Option.some.injEq, Addr.mk.injEq, and_true, true_and] at h'
      obtain ⟨e1, -, e3⟩ := h'
      subst e1
      subst e3
      exact ⟨cur, h1, by omega, h3, h4⟩
  obtain ⟨hblk, hnc, hcm, hcs⟩ := hcur
  unfold maxLen at hcm
  obtain ⟨i0, hi0, hz0, hz1, hz2⟩ := info_parts ti_mac.2
  have h4 : ∀ x ∈ L, x.cells.length = 4 := H.len
  have hrow0 := H.row
  rw [hL] at hrow0
  -- the cells that are moved to the left
  obtain ⟨news, hnews⟩ : ∃ news, news = (L.drop (k + 1)).flatMap (·.cells) := ⟨_, rfl⟩
  have hlen : news.length = (n - (k + 1)) * 4 := by rw [hnews, flatMap_len (f := Elem.cells) (m := 4) (fun x hx => h4 x (List.mem_of_mem_drop hx)), List.length_drop, hL]
  have hsomec : ∀ j, j < cap * 4 → ∃ u, w.cell? ⟨g, j, none⟩ = some u := fun j hj => ⟨curs[j]'(by omega), by rw [cell_of_row w g j _ _ _ hblk]; simp [Array.getElem?_eq_getElem (show j < curs.size by omega)]⟩
  have hfr : ∀ j, w.frozen? ⟨g, j, none⟩ = false := fun j => frozen_of_row w g j _ _ hblk
  obtain ⟨A, hA, hsrc⟩ : ∃ A : Addr, (if cap = k + 1 then some (⟨g, 0, none⟩ : Addr) else some ⟨g, (k + 1) * 4, none⟩) = some A ∧ Hid (∀ t u, news[t]? = some u → w.drew.cell? (A.add t) = some u) := by
    by_cases h : cap = k + 1
    · refine ⟨⟨g, 0, none⟩, by simp [h], fun t u hu => ?_⟩
      have h0 : news.length = 0 := by rw [hlen]; omega
      rw [List.length_eq_zero_iff.1 h0] at hu
      simp at hu
    · refine ⟨⟨g, (k + 1) * 4, none⟩, by simp [h], fun t u hu => ?_⟩
      have ht : t < (n - (k + 1)) * 4 := by
        have := (List.getElem?_eq_some_iff.1 hu).1
        rwa [hlen] at this
      rw [Addr.add_lit]
      show w.cell? _ = _
      rw [hrow0.cellAt ((k + 1) * 4 + t) (by show (k + 1) * 4 + t < n * 4; omega)]
      have hsp : L.flatMap (·.cells) = (L.take (k + 1)).flatMap (·.cells) ++ news := by rw [hnews, ← List.flatMap_append, List.take_append_drop]
      have hA' : ((L.take (k + 1)).flatMap (·.cells)).length = (k + 1) * 4 := by rw [flatMap_len (f := Elem.cells) (m := 4) (fun x hx => h4 x (List.mem_of_mem_take hx)), List.length_take]; congr 1; omega
      rw [hsp, List.getElem?_append_right (by rw [hA']; omega), hA', Nat.add_sub_cancel_left]
      exact hu
  have s1 : Hid (news.length = (n - (k + 1)) * 4) := hlen
  have s2 : Hid (∀ u ∈ news, u.oneCell' = true) := fun u hu => by
    rw [hnews] at hu
    obtain ⟨x, hx, hu⟩ := List.mem_flatMap.1 hu
    exact mac_one _ _ _ _ (H.el x (List.mem_of_mem_drop hx)) u hu
  have s3 : Hid (∀ t, t < news.length → (w.drew.cell? ⟨g, 0 + k * 4 + t, none⟩).isSome = true ∧ w.drew.frozen? ⟨g, 0 + k * 4 + t, none⟩ = false) := fun t ht => by
    rw [hlen] at ht
    obtain ⟨u, hu⟩ := hsomec (0 + k * 4 + t) (by omega)
    exact ⟨by show (w.cell? _).isSome = true; rw [hu]; rfl, hfr _⟩
  -- the world behind the append, behind a name
  obtain ⟨W1, hW1⟩ : ∃ W1, W1 = w.drew.setCells g (0 + k * 4) news := ⟨_, rfl⟩
  have hK1 : Kept [g] w W1 := by
    rw [hW1, ← putAll_eq]
    exact (Kept.of_below (belowN (Below.refl _ _) 1)).trans (putAll_kept _ _ _)
  have hcl : ∀ ty c, (Builtin.clear_ #[25] ty #[.slice (some ⟨g, (n - 1) * 4, none⟩) 1 c]).run Try.prog W1 = .ok (.tuple #[]) (W1.setCells g ((n - 1) * 4) [.string ⟨#[]⟩, .bool false, .slice none 0 0, .slice none 0 0]) := fun ty c =>
    run_clear_mac W1 ty g ((n - 1) * 4) c (fun j hj => by
      rw [hW1]
      obtain ⟨u, hu⟩ := hsomec ((n - 1) * 4 + j) (by omega)
      exact World.isSome_setCells g news _ _ _ (by show (w.cell? _).isSome = true; rw [hu]; rfl)) (fun j hj => by
      rw [hW1, World.frozen?_setCells]
      exact hfr _)
  have e1 : k + (n - (k + 1)) = n - 1 := by omega
  have HE1 := Lib.hid e1
  have hcl' : ∀ ty c, (Builtin.clear_ #[25] ty #[.slice (some ⟨g, (k + (n - (k + 1))) * 4, none⟩) (n - (k + (n - (k + 1)))) c]).run Try.prog W1 = .ok (.tuple #[]) (W1.setCells g ((n - 1) * 4) [.string ⟨#[]⟩, .bool false, .slice none 0 0, .slice none 0 0]) := fun ty c => by
    rw [e1, show n - (n - 1) = 1 by omega]
    exact hcl ty c
  clear hcl e1
  have HF : Hid (RowE sMacro base 35 (.slice (some ⟨g, 0, none⟩) (n - 1) cap) (L.take k ++ L.drop (k + 1)) (W1.setCells g ((n - 1) * 4) [.string ⟨#[]⟩, .bool false, .slice none 0 0, .slice none 0 0])) := by
    refine gone_E H (hK1.trans (by rw [← putAll_eq]; exact putAll_kept _ _ _)) ?_ (by rw [List.length_append, List.length_take, List.length_drop]; omega)
    have hd : w.drew.ownsRow base 35 4 (.slice (some ⟨g, 0, none⟩) n cap) n (L.flatMap (·.cells)) := hrow0
    have := row_gone hd h4 hL hk [.string ⟨#[]⟩, .bool false, .slice none 0 0, .slice none 0 0]
    rw [hW1, hnews, Nat.zero_add]
    exact this
  have HKF : Hid (Kept [g] w (W1.setCells g ((n - 1) * 4) [.string ⟨#[]⟩, .bool false, .slice none 0 0, .slice none 0 0])) := hK1.trans (by rw [← putAll_eq]; exact putAll_kept _ _ _)
  have hW : Hid (W1 = w.drew.setCells g (0 + k * 4) news) := hW1
  have hkc : k ≤ cap := by omega
  have hjc : k + 1 ≤ cap := by omega
  have mixed : Try.prog.follows .mixedOrders = true := by kernel_rfl
  have hne : ¬ (k = k + 1) := by omega
  have hp1 : (0 : Int) ≤ (k : Int) + 1 := by omega
  have hp2 : (k : Int) + 1 ≤ (n : Int) := by omega
  clear hW1 hK1 H hrow0 h4 hnews hlen hblk hcs hsomec hfr hL
  go_enter Try.func34, Try.ntmps34
  go_wp2_with fail
  go_region_law_o (refine step_append_room rfl (.tmp 22) (.tmp 25) 25 rfl 35 i0 4 ti_mac.1 hi0 hz1 g 0 k cap (by simp [Act.eval, Act.put]) A (n - (k + 1)) (cap - (k + 1)) news (by simp [Act.eval, Act.put]) s1.out hsrc.out s2.out (by omega) s3.out ?_; rw [← hW.out])
  go_wp2
  go_ret
  exact ⟨by rw [← HE1.out]; rfl, HF.out, HKF.out⟩

end Go.Proofs.Ytdnjpjiepnhhhab

/- Undefine of the program. -/
namespace Go.Proofs.Ytdnjpjiepnhhhab
open Go.RowKit

theorem names_ne {a b : ByteArray} (h : sLess a b = true) : (a.toList == b.toList) = false := by
  cases e : (a.toList == b.toList)
  · rfl
  · rw [bytes_same e, sLess_irrefl] at h; exact absurd h (by simp)
/-- What is kept of a valid table. -/
theorem keep_low {l : List DMacro} (h : tabOk l = true) (nm : ByteArray) {j : Nat} (hj : j < l.length) : keepN nm l[j] = !(isIn l nm && decide (j = lowAt l nm)) := by
  unfold keepN
  congr 1
  by_cases hlow : lowAt l nm < l.length
  · by_cases e : j = lowAt l nm
    · subst e
      unfold isIn
      rw [dif_pos hj, decide_eq_true rfl, Bool.and_true]
    · rw [decide_eq_false e, Bool.and_false]
      by_cases hl : j < lowAt l nm
      · exact names_ne (by rw [low_iff h nm hj, decide_eq_true hl])
      · have h1 := tab_lt h (show lowAt l nm < j by omega) hj
        cases e2 : (l[j].name.toList == nm.toList)
        · rfl
        · rw [bytes_same e2, low_iff h nm hlow, decide_eq_true_eq] at h1
          omega
  · have hi : isIn l nm = false := by unfold isIn; rw [dif_neg hlow]
    rw [hi, Bool.false_and]
    exact names_ne (by rw [low_iff h nm hj, decide_eq_true (by omega)])
theorem unDef_out {l : List DMacro} {nm : ByteArray} (h : tabOk l = true) (hi : isIn l nm = false) : unDef l nm = l := by
  unfold unDef
  rw [if_pos h, List.filter_eq_self]
  intro m hm
  obtain ⟨j, hj, rfl⟩ := List.getElem_of_mem hm
  rw [keep_low h nm hj, hi]; rfl
theorem isIn_lt {l : List DMacro} {nm : ByteArray} (hi : isIn l nm = true) : lowAt l nm < l.length := by
  by_cases h : lowAt l nm < l.length
  · exact h
  · unfold isIn at hi; rw [dif_neg h] at hi; exact absurd hi (by simp)
theorem unDef_in {l : List DMacro} {nm : ByteArray} (h : tabOk l = true) (hi : isIn l nm = true) : unDef l nm = l.take (lowAt l nm) ++ l.drop (lowAt l nm + 1) := by
  have hlow := isIn_lt hi
  unfold unDef
  rw [if_pos h]
  have hs : l = l.take (lowAt l nm) ++ (l[lowAt l nm] :: l.drop (lowAt l nm + 1)) := by rw [List.getElem_cons_drop, List.take_append_drop]
  conv => lhs; rw [hs]
  rw [List.filter_append, List.filter_cons, if_neg (by rw [keep_low h nm hlow, hi, decide_eq_true rfl]; simp)]
  congr 1
  · rw [List.filter_eq_self]
    intro m hm
    obtain ⟨j, hj, rfl⟩ := List.getElem_of_mem hm
    rw [List.length_take] at hj
    rw [List.getElem_take, keep_low h nm (by omega), decide_eq_false (by omega), Bool.and_false]; rfl
  · rw [List.filter_eq_self]
    intro m hm
    obtain ⟨j, hj, rfl⟩ := List.getElem_of_mem hm
    rw [List.length_drop] at hj
    rw [List.getElem_drop, keep_low h nm (by omega), decide_eq_false (by omega), Bool.and_false]; rfl
theorem tab_cp {l : List DMacro} (h : tabOk l = true) : l.map cpMac = l := by
  refine List.ext_getElem (by simp) fun j h1 h2 => ?_
  rw [List.getElem_map]
  have := (tabOk_at h).2 j h2
  unfold tabAt at this
  rw [dif_pos h2] at this
  exact cpMac_ok (Bool.and_eq_true_iff.1 this).1
theorem own_part {L : List (Elem DMacro)} {w : World} {lo k : Nat} (h : Own w lo (L.flatMap (·.fp))) : Own w lo ((L.take k ++ L.drop (k + 1)).flatMap (·.fp)) := by
  have hs : ((L.take k ++ L.drop (k + 1)).flatMap (·.fp)).Sublist (L.flatMap (·.fp)) := by
    have e : L.flatMap (·.fp) = (L.take k).flatMap (·.fp) ++ (L.drop k).flatMap (·.fp) := by rw [← List.flatMap_append, List.take_append_drop]
    rw [e, List.flatMap_append]
    refine List.Sublist.append (List.Sublist.refl _) ?_
    rw [show L.drop (k + 1) = (L.drop k).drop 1 by rw [List.drop_drop]]
    cases L.drop k with
    | nil => exact List.Sublist.refl _
    | cons x r =>
      rw [List.flatMap_cons]
      exact List.sublist_append_right _ _
  exact ⟨hs.nodup h.1, fun b hb => h.2 b (hs.subset hb)⟩

/-- A table of the call's own, as a slice. -/
def RetOwn (l : List DMacro) (w : World) (e : Ending) (w' : World) : Prop := ∃ v fp, e = .returned v ∧ (sSlice sMacro).R w' [v] l fp ∧ Own w' w.heap.size fp ∧ Below w.heap.size w w'

set_option maxHeartbeats 4000000 in
set_option maxRecDepth 100000 in
theorem impl_Undefine (v : Value) (l : List DMacro) (nm : ByteArray) (fp : List Nat) (w : World) (hl : l.length ≤ 1000000) (hx : ∀ k, (hk : k < l.length) → MacSm l[k]) (H : (sSlice sMacro).R w [v] l fp) :
    Calls Try.prog 18 #[v, .string nm] w (MineTab (unDef l nm) w) := by
  have HT := Lib.hid (impl_TableValid v l fp w H)
  have HC := Lib.hid (fun W (hW : Below w.heap.size w W) => impl_copyTable v l fp W (by omega) hx ((sSlice sMacro).below H hW))
  clear H hx
  by_cases ht : tabOk l = true
  rotate_left
  · have HU : Hid (unDef l nm = []) := by show _ = _; unfold unDef; rw [if_neg ht]
    rw [Bool.eq_false_iff.2 ht] at HT
    clear ht HC
    go_enter Try.func18, Try.ntmps18
    go_wp2_with fail
    refine HT.out.mono ?_
    rintro e w2 ⟨rfl, hb⟩
    go_wp2
    go_ret
    exact ⟨_, [], rfl, RowE.nil _ _ _ _, by rw [HU.out]; rfl, (show Own w2 w.heap.size [] from Own.nil _ _), hb⟩
  · have HTK := Lib.hid ht
    rw [ht] at HT
    rw [tab_cp ht] at HC
    clear ht
    go_enter Try.func18, Try.ntmps18
    go_wp2_with fail
    refine HT.out.mono ?_
    rintro e w2 ⟨rfl, hb2⟩
    go_wp2_with fail
    refine (HC.out _ hb2).mono ?_
    rintro e w3 ⟨v3, L, rfl, hE, hD, hO, hb3⟩
    obtain ⟨a3, c3, rfl, hc3, hm3, hp3⟩ := hE.val
    have HLl : Hid (L.length = l.length) := by show _ = _; rw [← hD, List.length_map]
    have hB3 := hb2.trans (hb3.mono hb2.size)
    obtain ⟨f3, r3, -⟩ := hE.read
    rw [hD] at r3
    have HE := Lib.hid hE
    have HD := Lib.hid hD
    have HO := Lib.hid hO
    have hs3 := hb2.size
    clear hE hD hO hb3 HC HT
    go_wp2_with fail
    refine (impl_placeOf _ l nm f3 _ HTK.out r3).mono ?_
    rintro e w4 ⟨rfl, hb4⟩
    have hE4 := HE.out.below hb4
    have hO4 := HO.out.grow hb4
    have hB4 := hB3.trans (hb4.mono hB3.size)
    clear r3 HE HO
    cases hi : isIn l nm
    · have HU := Lib.hid (unDef_out HTK.out hi)
      have HE4 := Lib.hid (hE4.lower hs3)
      have HO4 := Lib.hid (hO4.lower hs3)
      clear hE4 hO4 hi
      go_wp2
      go_ret
      exact ⟨_, L, rfl, HE4.out, by rw [HU.out]; exact HD.out, HO4.out, hB4⟩
    · have hlow := isIn_lt hi
      have HU := Lib.hid (unDef_in HTK.out hi)
      obtain ⟨g, rfl, hgb, -⟩ := hp3 (by have := HLl.out; omega)
      have HDL := Lib.hid (lib_Delete _ g L.length c3 (lowAt l nm) L w4 (by have := HLl.out; omega) (by have := HLl.out; omega) hE4)
      have HO4 := Lib.hid hO4
      have HE4 := Lib.hid hE4
      have HG := Lib.hid hgb
      generalize hn : lowAt l nm = n at *
      clear hE4 hO4 hi hn
      go_wp2_with fail
      refine HDL.out.mono ?_
      rintro e w5 ⟨rfl, hE5, hK5⟩
      have HF := Lib.hid (hE5.lower hs3)
      have HOF : Hid (Own w5 w.heap.size ((L.take n ++ L.drop (n + 1)).flatMap (·.fp))) := by
        have h1 := own_part (k := n) HO4.out
        refine (h1.kept (fp := [g]) (fun b hb hx => ?_) hK5).lower hs3
        have e : b = g := by simpa using hx
        subst e
        obtain ⟨x, hx', hb'⟩ := List.mem_flatMap.1 hb
        have hm : x ∈ L := by
          rcases List.mem_append.1 hx' with h | h
          · exact List.mem_of_mem_take h
          · exact List.mem_of_mem_drop h
        exact HE4.out.ap hm hb' rfl
      have HDF : Hid ((L.take n ++ L.drop (n + 1)).map (·.d) = unDef l nm) := by
        show _ = _
        rw [HU.out, ← HD.out, List.map_append, List.map_take, List.map_drop]
      have hBF : Below w.heap.size w w5 := ⟨hK5.os.trans hB4.os, hK5.tape.trans hB4.tape, hK5.output.trans hB4.output, Nat.le_trans hB4.size hK5.size, fun b hb => (hK5.block b (Nat.lt_of_lt_of_le hb hB4.size) (by have := HG.out; simp; omega)).trans (hB4.block b hb)⟩
      clear hE5 hK5
      go_wp2
      go_ret
      exact ⟨_, _, rfl, HF.out, HDF.out, HOF.out, hBF⟩

/-! ### As the exact law calls them -/
theorem wtMacroS_sm {l : List DMacro} (h : wtMacroS l ≤ 1048576) : l.length ≤ 1048576 ∧ ∀ k, (hk : k < l.length) → MacSm l[k] := by
  refine ⟨by unfold wtMacroS at h; omega, fun k hk => ?_⟩
  have h1 := wsum_at wtMacro l k hk
  unfold wtMacroS at h
  have h2 : wtMacro l[k] = l[k].name.size + (l[k].params.length + (l[k].params.map (·.size)).sum) + wtTokenS l[k].body := rfl
  have h3 : wtTokenS l[k].body ≤ 1048576 := by omega
  have h4 : l[k].body.length ≤ 1048576 := by unfold wtTokenS at h3; omega
  refine ⟨by omega, h4, fun j hj => ?_⟩
  have h5 := wsum_at wtToken l[k].body j hj
  unfold wtTokenS at h3
  have h6 : wtToken l[k].body[j] = l[k].body[j].text.size + (l[k].body[j].hidden.length + (l[k].body[j].hidden.map (·.size)).sum) := rfl
  omega

end Go.Proofs.Ytdnjpjiepnhhhab

/- The program's reading of parameters. -/
namespace Go.Proofs.Ytdnjpjiepnhhhab
open Go.RowKit

theorem cl_ways (l : List Tok) (k : Nat) : idxCl l k = -1 ∨ ∃ e : Nat, idxCl l k = (e : Int) ∧ k ≤ e ∧ e < l.length := by
  induction k using idxCl.induct (l := l) with
  | case1 k h hc => exact .inr ⟨k, cl_hit h hc, Nat.le_refl _, h⟩
  | case2 k h hc ih =>
    rw [cl_miss h (by simpa using hc)]
    rcases ih with h1 | ⟨e, h1, h2, h3⟩
    · exact .inl h1
    · exact .inr ⟨e, h1, by omega, h3⟩
  | case3 k h => exact .inl (cl_end (by omega))
/-- The texts at even places, of the first k. -/
def evs (ins : List Tok) : Nat → List ByteArray
  | 0 => []
  | k + 1 => if h : k < ins.length then (if k % 2 = 0 then evs ins k ++ [ins[k].text] else evs ins k) else evs ins k
/-- Whether those at odd places, of the first k, are commas. -/
def coms (ins : List Tok) : Nat → Bool
  | 0 => true
  | k + 1 => coms ins k && (if h : k < ins.length then (k % 2 == 0 || ins[k].text.toList == [44]) else true)
def insOf (l : List Tok) (e : Nat) : List Tok := (l.take e).drop 1
/-- What the program reads: the parameters, and the place behind them, or -1. -/
def rpRes (l : List Tok) : List ByteArray × Int :=
  if idxCl l 0 < 0 then ([], -1) else
    (if 0 < (insOf l (idxCl l 0).toNat).length ∧ (insOf l (idxCl l 0).toNat).length % 2 = 0 then ([], -1) else
      (if coms (insOf l (idxCl l 0).toNat) (insOf l (idxCl l 0).toNat).length = true then (evs (insOf l (idxCl l 0).toNat) (insOf l (idxCl l 0).toNat).length, idxCl l 0 + 1) else ([], -1)))
theorem evs_even {ins : List Tok} {k : Nat} (h : k < ins.length) (h2 : k % 2 = 0) : evs ins (k + 1) = evs ins k ++ [ins[k].text] := by rw [evs, dif_pos h, if_pos h2]
theorem evs_odd {ins : List Tok} {k : Nat} (h2 : ¬ k % 2 = 0) : evs ins (k + 1) = evs ins k := by rw [evs]; split <;> simp [h2]
theorem evs_len (ins : List Tok) : ∀ k, (evs ins k).length ≤ k
  | 0 => Nat.le_refl _
  | k + 1 => by
    have := evs_len ins k
    rw [evs]
    split
    · split
      · rw [List.length_append]; simp; omega
      · omega
    · omega
theorem coms_even {ins : List Tok} {k : Nat} (h2 : k % 2 = 0) : coms ins (k + 1) = coms ins k := by rw [coms]; split <;> simp [h2]
theorem coms_odd {ins : List Tok} {k : Nat} (h : k < ins.length) (h2 : ¬ k % 2 = 0) : coms ins (k + 1) = (coms ins k && ins[k].text.toList == [44]) := by
  rw [coms, dif_pos h]
  have : (k % 2 == 0) = false := by simp [h2]
  rw [this, Bool.false_or]
theorem coms_no {ins : List Tok} {k : Nat} (h : coms ins k = false) : ∀ j, k ≤ j → coms ins j = false := by
  intro j hj
  induction j with
  | zero => have : k = 0 := by omega
            subst this; exact h
  | succ j ih =>
    by_cases e : k = j + 1
    · subst e; exact h
    · rw [coms, ih (by omega), Bool.false_and]
theorem ins_len {l : List Tok} {e : Nat} (h : e < l.length) : (insOf l e).length = e - 1 := by unfold insOf; simp; omega
theorem ins_get {l : List Tok} {e k : Nat} (h : e < l.length) (hk : k < (insOf l e).length) : (insOf l e)[k] = l[k + 1]'(by have := ins_len h; omega) := by
  unfold insOf
  simp [Nat.add_comm]

/-- What is read, as a contract. -/
def RP (l : List Tok) (w : World) (e : Ending) (w' : World) : Prop := ∃ v' fp', e = .returned (.tuple #[v', .int .i64 (rpRes l).2]) ∧ (sSlice sStr).R w' [v'] (rpRes l).1 fp' ∧ Own w' w.heap.size fp' ∧ Below w.heap.size w w'
theorem rp_none {l : List Tok} {w w' : World} (h : rpRes l = ([], -1)) (hb : Below w.heap.size w w') : RP l w (.returned (.tuple #[.slice none 0 0, .int .i64 (-1)])) w' :=
  ⟨.slice none 0 0, [], by rw [h], by rw [h]; exact slice_empty sStr w' none 0 (by simp), Own.nil _ _, hb⟩

end Go.Proofs.Ytdnjpjiepnhhhab

/- Parameters as they are read: the model. -/
namespace Go.Proofs.Ytdnjpjiepnhhhab
open Go.RowKit

def parRes (l : List Tok) : List ByteArray × Int := match parsOf l with | some p => (p.1, (p.2 : Int)) | none => ([], -1)
theorem parRes_some {l : List Tok} {p : List ByteArray × Nat} (h : parsOf l = some p) : parRes l = (p.1, (p.2 : Int)) := by unfold parRes; rw [h]
theorem parRes_none {l : List Tok} (h : parsOf l = none) : parRes l = ([], -1) := by unfold parRes; rw [h]
def PMade (l : List Tok) (w : World) (e : Ending) (w' : World) : Prop :=
  ∃ (pv : Value) (fp : List Nat), e = .returned (.tuple #[pv, .int .i64 (parRes l).2]) ∧ (sSlice sStr).R w' [pv] (parRes l).1 fp ∧ Own w' w.heap.size fp ∧ Below w.heap.size w w'
theorem pm_none {l : List Tok} {w w1 : World} (h : parsOf l = none) (hb : Below w.heap.size w w1) : PMade l w (.returned (.tuple #[.slice (some ⟨w1.heap.size, 0, none⟩) 0 0, .int .i64 (-1)])) (w1.alloc (.cells #[] 9)) :=
  ⟨_, [], by rw [parRes_none h], by rw [parRes_none h]; exact slice_empty sStr _ _ _ (by simp), Own.nil _ _, hb.trans ((alloc_below' w1 _).mono hb.size)⟩
theorem pm_some {l : List Tok} {w w1 : World} {v : Value} {L : List ByteArray} {n : Int} {p : List ByteArray × Nat} (h : parsOf l = some p) (h1 : p.1 = L) (h2 : (p.2 : Int) = n) (hb : Below w.heap.size w w1) (ho : w1.ownsRow w.heap.size 9 1 v L.length (L.map Value.string))
    (hs : ∀ i, (hi : i < L.length) → L[i].size ≤ maxLen) : PMade l w (.returned (.tuple #[v, .int .i64 n])) w1 := by
  obtain ⟨fp, h3, h4, _⟩ := own_flat (ok := okStr) ho hs
  exact ⟨v, fp, by rw [parRes_some h, h2], by rw [parRes_some h]; show (sSlice sStr).R w1 [v] p.1 fp; rw [h1]; exact h3, h4, hb⟩
theorem pa_kind {l : List Tok} {k : Nat} (h : k + 1 < l.length) (h1 : (l[k]'(by omega)).kind ≠ 1) : parsAt l k = none := by rw [parsAt, dif_pos h, if_neg h1]
theorem pa_close {l : List Tok} {k : Nat} (h : k + 1 < l.length) (h1 : (l[k]'(by omega)).kind = 1) (h2 : l[k + 1].text = closeB) : parsAt l k = some ([(l[k]'(by omega)).text], k + 2) := by rw [parsAt, dif_pos h, if_pos h1, if_pos h2]
theorem pa_comma {l : List Tok} {k : Nat} (h : k + 1 < l.length) (h1 : (l[k]'(by omega)).kind = 1) (h2 : l[k + 1].text ≠ closeB) (h3 : l[k + 1].text = commaB) : parsAt l k = (parsAt l (k + 2)).map (fun p => ((l[k]'(by omega)).text :: p.1, p.2)) := by rw [parsAt, dif_pos h, if_pos h1, if_neg h2, if_pos h3]
theorem pa_other {l : List Tok} {k : Nat} (h : k + 1 < l.length) (h1 : (l[k]'(by omega)).kind = 1) (h2 : l[k + 1].text ≠ closeB) (h3 : l[k + 1].text ≠ commaB) : parsAt l k = none := by rw [parsAt, dif_pos h, if_pos h1, if_neg h2, if_neg h3]
theorem pa_end {l : List Tok} {k : Nat} (h : ¬ k + 1 < l.length) : parsAt l k = none := by rw [parsAt, dif_neg h]
theorem snoc_row {w : World} {base e : Nat} {v : Value} {L : List ByteArray} {x : ByteArray} (h : w.ownsRow base e 1 v (L.length + 1) (L.map Value.string ++ [.string x])) : w.ownsRow base e 1 v (L ++ [x]).length ((L ++ [x]).map Value.string) := by
  simpa using h
theorem snoc_size {L : List ByteArray} {x : ByteArray} (h : ∀ i, (hi : i < L.length) → L[i].size ≤ maxLen) (hx : x.size ≤ maxLen) : ∀ i, (hi : i < (L ++ [x]).length) → (L ++ [x])[i].size ≤ maxLen := by
  intro i hi
  by_cases h1 : i < L.length
  · rw [List.getElem_append_left h1]; exact h i h1
  · have : i = L.length := by simp at hi; omega
    subst this; simp [hx]


set_option maxHeartbeats 16000000 in
set_option maxRecDepth 100000 in
theorem spec_l5Params (v : Value) (l : List Tok) (fp : List Nat) (w : World) (hl : l.length ≤ 60) (H : (sSlice sTok).R w [v] l fp) :
    Calls Try.prog 82 #[v] w (PMade l w) := by
  obtain ⟨a, cap, rfl, hc, hm, hrow⟩ := open_rows H
  unfold maxLen at hm
  clear H
  have hlit : Hid ((w.alloc (.cells #[] 9)).ownsRow w.heap.size 9 1 (.slice (some ⟨w.heap.size, 0, none⟩) 0 0) ([] : List ByteArray).length (([] : List ByteArray).map Value.string)) :=
    World.ownsRow_lit (base := w.heap.size) (e := 9) (size := 1) w #[] 0 (Nat.le_refl _) (by simp) rfl
  have hba := alloc_below' w (.cells #[] 9)
  have fin : (¬ ∃ h : 2 < l.length, l[2].text = closeB ∧ l[2].kind = 4) → Hid (parsOf l = (parsAt l 2).map (fun p => (([] : List ByteArray) ++ p.1, p.2))) := fun hne => by
    show _ = _
    have e : (fun p : List ByteArray × Nat => (([] : List ByteArray) ++ p.1, p.2)) = id := by funext p; simp
    rw [e, Option.map_id]
    unfold parsOf
    by_cases h2 : 2 < l.length
    · rw [dif_pos h2, if_neg (fun h => hne ⟨h2, h⟩)]; rfl
    · rw [dif_neg h2, pa_end (by omega)]; rfl
  by_cases h2 : 2 < l.length
  · obtain ⟨b1, off1, fps1, rfl, hb1, hfp, he1⟩ := hrow (by omega)
    obtain ⟨es1, hE1, hR1⟩ := he1 2 h2
    obtain ⟨hh, rfl, -, -, -⟩ := hR1
    have hrow : Hid (0 < l.length → ∃ b off fps, (some ⟨b1, off1, none⟩ : Option Addr) = some ⟨b, off, none⟩ ∧ b < w.heap.size ∧ fp = b :: (List.range l.length).flatMap fps ∧ ∀ i, (hi : i < l.length) → ∃ es, ElemAt w b off sTok.m i es ∧ sTok.R w es l[i] (fps i)) := fun _ => ⟨b1, off1, fps1, rfl, hb1, hfp, he1⟩
    have hE2 := hE1.frame (hba.block b1 hb1)
    have c0 : (w.alloc (.cells #[] 9)).cell? ⟨b1, off1 + 8, none⟩ = some (.int .i64 l[2].kind) := elem_cell0 (i := 2) (m := 4) hE2 (by decide) rfl
    have c1 : (w.alloc (.cells #[] 9)).cell? ⟨b1, off1 + 8 + 1, none⟩ = some (.string l[2].text) := elem_cell (i := 2) (m := 4) (j := 1) hE2 (by decide) rfl
    have f3 : (2 : Int) < (l.length : Int) := by omega
    clear hE1 hE2 he1
    by_cases h3 : l[2].text = closeB
    · have f1 := txt_t (l := [41]) h3
      by_cases h4 : l[2].kind = 4
      · have f2 : (l[2].kind == 4) = true := by simp [h4]
        have HP : Hid (parsOf l = some ([], 3)) := by show _ = _; unfold parsOf; rw [dif_pos h2, if_pos ⟨h3, h4⟩]
        clear h3 h4 fin
        go_enter Try.func82, Try.ntmps82
        go_wp2
        go_ret2
        exact pm_some (p := ([], 3)) HP.out rfl rfl hba hlit.out (by simp)
      · have f2 : (l[2].kind == 4) = false := by simp [h4]
        have HPA := fin (by rintro ⟨_, _, h⟩; exact h4 h)
        clear h3 h4 fin
        go_enter Try.func82, Try.ntmps82
        go_wp2
        go_loopw [4, 5] (fun o i wr => ∃ (k : Nat) (L : List ByteArray), k ≤ l.length + 2 ∧ L.length ≤ k ∧ i = .int .i64 k ∧ Hid (wr.ownsRow w.heap.size 9 1 o L.length (L.map Value.string)) ∧ Hid (∀ i, (hi : i < L.length) → L[i].size ≤ maxLen) ∧ Hid (parsOf l = (parsAt l k).map (fun p => (L ++ p.1, p.2))) ∧ Below w.heap.size w wr) (fun _ i _ => l.length + 2 - (intOf i).toNat)
        case atStart => exact ⟨2, [], by omega, by simp, rfl, hlit, by intro i hi; simp at hi, HPA, hba⟩
        case round =>
          clear hlit hba HPA
          obtain ⟨k, L, hk, hLk, rfl, HO, HS, HP, hb⟩ := hrel
          by_cases hlt : k + 1 < l.length
          · obtain ⟨b1, off1, fps1, heq, hb1, -, he1⟩ := hrow.out (by omega)
            first
              | subst heq
              | (simp only [Option.some.injEq, Addr.mk.injEq, and_true] at heq; obtain ⟨rfl, rfl⟩ := heq)
            obtain ⟨es1, hE1, hR1⟩ := he1 k (by omega)
            obtain ⟨es2, hE2, hR2⟩ := he1 (k + 1) hlt
            clear hrow he1
            obtain ⟨h1', rfl, -, okt, -⟩ := hR1
            obtain ⟨h2', rfl, -, -, -⟩ := hR2
            have hE1' := hE1.frame (hb.block b1 hb1)
            have hE2' := hE2.frame (hb.block b1 hb1)
            have c0 : wr.cell? ⟨b1, off1 + k * 4, none⟩ = some _ := elem_cell0 hE1' (by decide) rfl
            have c1 : wr.cell? ⟨b1, off1 + k * 4 + 1, none⟩ = some _ := elem_cell (j := 1) hE1' (by decide) rfl
            have d1 : wr.cell? ⟨b1, off1 + (k + 1) * 4 + 1, none⟩ = some _ := elem_cell (j := 1) hE2' (by decide) rfl
            have d1w : w.cell? ⟨b1, off1 + (k + 1) * 4 + 1, none⟩ = some _ := elem_cell (j := 1) hE2 (by decide) rfl
            clear hE1 hE2 hE1' hE2'
            obtain ⟨fpo, hRo, -, -⟩ := own_flat (ok := okStr) HO.out HS.out
            obtain ⟨ao, co, rfl, -⟩ := open_strs hRo
            clear hRo
            have h6 : ((k : Int) + 1).toNat = k + 1 := by omega
            have hk1 : (k : Int) + 1 < (l.length : Int) := by omega
            by_cases e1 : (l[k]'(by omega)).kind = 1
            · have g1 : ((l[k]'(by omega)).kind != 1) = false := by simp [e1]
              have OKT := Lib.hid okt
              by_cases e2 : l[k + 1].text = closeB
              · have g2 := txt_t (l := [41]) e2
                have HN := Lib.hid (HP.out.trans (by rw [pa_close hlt e1 e2]; try rfl))
                clear e1 e2 okt
                go_wp2_with (
                  at_builtin
                  refine wp_append_one ti27 rfl _ (.string (l[k]'(by omega)).text) rfl rfl (.tmp 39) (.tmp 45) rfl w.heap.size (.slice ao L.length co) L.length _ rfl HO.out rfl (by unfold maxLen; omega) (by omega) hb.size ?_
                  intro v3 w3 hown hgrow
                  have hb3 := hb.grown hgrow hb.size (fun b hb' => (HO.out.lt b hb').1)
                  have d3 := (hb3.cell (p := ⟨b1, off1 + (k + 1) * 4 + 1, none⟩) hb1).trans d1w
                  have HB3 := Lib.hid hb3
                  have HOW := Lib.hid (snoc_row hown)
                  clear hgrow hown)
                go_ret2
                exact pm_some HN.out rfl (by go_num) HB3.out HOW.out (snoc_size HS.out OKT.out)
              · have g2 := txt_f (l := [41]) e2
                by_cases e3 : l[k + 1].text = commaB
                · have g3 := txt_t (l := [44]) e3
                  have HN : Hid (parsOf l = (parsAt l (k + 2)).map (fun p => ((L ++ [(l[k]'(by omega)).text]) ++ p.1, p.2))) := by
                    show _ = _
                    rw [HP.out, pa_comma hlt e1 e2 e3, Option.map_map]
                    congr 1
                    funext p
                    simp
                  clear e1 e2 e3 okt
                  go_wp2_with (
                    at_builtin
                    refine wp_append_one ti27 rfl _ (.string (l[k]'(by omega)).text) rfl rfl (.tmp 39) (.tmp 45) rfl w.heap.size (.slice ao L.length co) L.length _ rfl HO.out rfl (by unfold maxLen; omega) (by omega) hb.size ?_
                    intro v3 w3 hown hgrow
                    have hb3 := hb.grown hgrow hb.size (fun b hb' => (HO.out.lt b hb').1)
                    have d3 := (hb3.cell (p := ⟨b1, off1 + (k + 1) * 4 + 1, none⟩) hb1).trans d1w
                    have HB3 := Lib.hid hb3
                    have HOW := Lib.hid (snoc_row hown)
                    clear hgrow hown)
                  go_roundw
                  case rel => exact ⟨k + 2, _, by omega, by simp; omega, by go_num, HOW, snoc_size HS.out OKT.out, HN, HB3.out⟩
                  case measure => simp [intOf]; omega
                · have g3 := txt_f (l := [44]) e3
                  have HN := Lib.hid (HP.out.trans (by rw [pa_other hlt e1 e2 e3]; try rfl))
                  clear e1 e2 e3 okt
                  go_wp2_with (
                    at_builtin
                    refine wp_append_one ti27 rfl _ (.string (l[k]'(by omega)).text) rfl rfl (.tmp 39) (.tmp 45) rfl w.heap.size (.slice ao L.length co) L.length _ rfl HO.out rfl (by unfold maxLen; omega) (by omega) hb.size ?_
                    intro v3 w3 hown hgrow
                    have hb3 := hb.grown hgrow hb.size (fun b hb' => (HO.out.lt b hb').1)
                    have d3 := (hb3.cell (p := ⟨b1, off1 + (k + 1) * 4 + 1, none⟩) hb1).trans d1w
                    have HB3 := Lib.hid hb3
                    clear hgrow hown)
                  go_ret2
                  exact pm_none HN.out HB3.out
            · have g1 : ((l[k]'(by omega)).kind != 1) = true := by simp [e1]
              have HN := Lib.hid (HP.out.trans (by rw [pa_kind hlt e1]; try rfl))
              clear e1
              go_wp2
              go_ret2
              exact pm_none HN.out hb
          · have HN := Lib.hid (HP.out.trans (by rw [pa_end hlt]; try rfl))
            have hk1 : ¬ (k : Int) + 1 < (l.length : Int) := by omega
            go_wp2
            go_ret2
            exact pm_none HN.out hb
    · have f1 := txt_f (l := [41]) h3
      have HPA := fin (by rintro ⟨_, h, _⟩; exact h3 h)
      clear h3 fin
      go_enter Try.func82, Try.ntmps82
      go_wp2
      go_loopw [4, 5] (fun o i wr => ∃ (k : Nat) (L : List ByteArray), k ≤ l.length + 2 ∧ L.length ≤ k ∧ i = .int .i64 k ∧ Hid (wr.ownsRow w.heap.size 9 1 o L.length (L.map Value.string)) ∧ Hid (∀ i, (hi : i < L.length) → L[i].size ≤ maxLen) ∧ Hid (parsOf l = (parsAt l k).map (fun p => (L ++ p.1, p.2))) ∧ Below w.heap.size w wr) (fun _ i _ => l.length + 2 - (intOf i).toNat)
      case atStart => exact ⟨2, [], by omega, by simp, rfl, hlit, by intro i hi; simp at hi, HPA, hba⟩
      case round =>
        clear hlit hba HPA
        obtain ⟨k, L, hk, hLk, rfl, HO, HS, HP, hb⟩ := hrel
        by_cases hlt : k + 1 < l.length
        · obtain ⟨b1, off1, fps1, heq, hb1, -, he1⟩ := hrow.out (by omega)
          first
            | subst heq
            | (simp only [Option.some.injEq, Addr.mk.injEq, and_true] at heq; obtain ⟨rfl, rfl⟩ := heq)
          obtain ⟨es1, hE1, hR1⟩ := he1 k (by omega)
          obtain ⟨es2, hE2, hR2⟩ := he1 (k + 1) hlt
          clear hrow he1
          obtain ⟨h1', rfl, -, okt, -⟩ := hR1
          obtain ⟨h2', rfl, -, -, -⟩ := hR2
          have hE1' := hE1.frame (hb.block b1 hb1)
          have hE2' := hE2.frame (hb.block b1 hb1)
          have c0 : wr.cell? ⟨b1, off1 + k * 4, none⟩ = some _ := elem_cell0 hE1' (by decide) rfl
          have c1 : wr.cell? ⟨b1, off1 + k * 4 + 1, none⟩ = some _ := elem_cell (j := 1) hE1' (by decide) rfl
          have d1 : wr.cell? ⟨b1, off1 + (k + 1) * 4 + 1, none⟩ = some _ := elem_cell (j := 1) hE2' (by decide) rfl
          have d1w : w.cell? ⟨b1, off1 + (k + 1) * 4 + 1, none⟩ = some _ := elem_cell (j := 1) hE2 (by decide) rfl
          clear hE1 hE2 hE1' hE2'
          obtain ⟨fpo, hRo, -, -⟩ := own_flat (ok := okStr) HO.out HS.out
          obtain ⟨ao, co, rfl, -⟩ := open_strs hRo
          clear hRo
          have h6 : ((k : Int) + 1).toNat = k + 1 := by omega
          have hk1 : (k : Int) + 1 < (l.length : Int) := by omega
          by_cases e1 : (l[k]'(by omega)).kind = 1
          · have g1 : ((l[k]'(by omega)).kind != 1) = false := by simp [e1]
            have OKT := Lib.hid okt
            by_cases e2 : l[k + 1].text = closeB
            · have g2 := txt_t (l := [41]) e2
              have HN := Lib.hid (HP.out.trans (by rw [pa_close hlt e1 e2]; try rfl))
              clear e1 e2 okt
              go_wp2_with (
                at_builtin
                refine wp_append_one ti27 rfl _ (.string (l[k]'(by omega)).text) rfl rfl (.tmp 39) (.tmp 45) rfl w.heap.size (.slice ao L.length co) L.length _ rfl HO.out rfl (by unfold maxLen; omega) (by omega) hb.size ?_
                intro v3 w3 hown hgrow
                have hb3 := hb.grown hgrow hb.size (fun b hb' => (HO.out.lt b hb').1)
                have d3 := (hb3.cell (p := ⟨b1, off1 + (k + 1) * 4 + 1, none⟩) hb1).trans d1w
                have HB3 := Lib.hid hb3
                have HOW := Lib.hid (snoc_row hown)
                clear hgrow hown)
              go_ret2
              exact pm_some HN.out rfl (by go_num) HB3.out HOW.out (snoc_size HS.out OKT.out)
            · have g2 := txt_f (l := [41]) e2
              by_cases e3 : l[k + 1].text = commaB
              · have g3 := txt_t (l := [44]) e3
                have HN : Hid (parsOf l = (parsAt l (k + 2)).map (fun p => ((L ++ [(l[k]'(by omega)).text]) ++ p.1, p.2))) := by
                  show _ = _
                  rw [HP.out, pa_comma hlt e1 e2 e3, Option.map_map]
                  congr 1
                  funext p
                  simp
                clear e1 e2 e3 okt
                go_wp2_with (
                  at_builtin
                  refine wp_append_one ti27 rfl _ (.string (l[k]'(by omega)).text) rfl rfl (.tmp 39) (.tmp 45) rfl w.heap.size (.slice ao L.length co) L.length _ rfl HO.out rfl (by unfold maxLen; omega) (by omega) hb.size ?_
                  intro v3 w3 hown hgrow
                  have hb3 := hb.grown hgrow hb.size (fun b hb' => (HO.out.lt b hb').1)
                  have d3 := (hb3.cell (p := ⟨b1, off1 + (k + 1) * 4 + 1, none⟩) hb1).trans d1w
                  have HB3 := Lib.hid hb3
                  have HOW := Lib.hid (snoc_row hown)
                  clear hgrow hown)
                go_roundw
                case rel => exact ⟨k + 2, _, by omega, by simp; omega, by go_num, HOW, snoc_size HS.out OKT.out, HN, HB3.out⟩
                case measure => simp [intOf]; omega
              · have g3 := txt_f (l := [44]) e3
                have HN := Lib.hid (HP.out.trans (by rw [pa_other hlt e1 e2 e3]; try rfl))
                clear e1 e2 e3 okt
                go_wp2_with (
                  at_builtin
                  refine wp_append_one ti27 rfl _ (.string (l[k]'(by omega)).text) rfl rfl (.tmp 39) (.tmp 45) rfl w.heap.size (.slice ao L.length co) L.length _ rfl HO.out rfl (by unfold maxLen; omega) (by omega) hb.size ?_
                  intro v3 w3 hown hgrow
                  have hb3 := hb.grown hgrow hb.size (fun b hb' => (HO.out.lt b hb').1)
                  have d3 := (hb3.cell (p := ⟨b1, off1 + (k + 1) * 4 + 1, none⟩) hb1).trans d1w
                  have HB3 := Lib.hid hb3
                  clear hgrow hown)
                go_ret2
                exact pm_none HN.out HB3.out
          · have g1 : ((l[k]'(by omega)).kind != 1) = true := by simp [e1]
            have HN := Lib.hid (HP.out.trans (by rw [pa_kind hlt e1]; try rfl))
            clear e1
            go_wp2
            go_ret2
            exact pm_none HN.out hb
        · have HN := Lib.hid (HP.out.trans (by rw [pa_end hlt]; try rfl))
          have hk1 : ¬ (k : Int) + 1 < (l.length : Int) := by omega
          go_wp2
          go_ret2
          exact pm_none HN.out hb
  · have f3 : ¬ (2 : Int) < (l.length : Int) := by omega
    have HPA := fin (by rintro ⟨h, _⟩; exact h2 h)
    have hrow := Lib.hid hrow
    clear fin
    go_enter Try.func82, Try.ntmps82
    go_wp2
    go_loopw [4, 5] (fun o i wr => ∃ (k : Nat) (L : List ByteArray), k ≤ l.length + 2 ∧ L.length ≤ k ∧ i = .int .i64 k ∧ Hid (wr.ownsRow w.heap.size 9 1 o L.length (L.map Value.string)) ∧ Hid (∀ i, (hi : i < L.length) → L[i].size ≤ maxLen) ∧ Hid (parsOf l = (parsAt l k).map (fun p => (L ++ p.1, p.2))) ∧ Below w.heap.size w wr) (fun _ i _ => l.length + 2 - (intOf i).toNat)
    case atStart => exact ⟨2, [], by omega, by simp, rfl, hlit, by intro i hi; simp at hi, HPA, hba⟩
    case round =>
      clear hlit hba HPA
      obtain ⟨k, L, hk, hLk, rfl, HO, HS, HP, hb⟩ := hrel
      by_cases hlt : k + 1 < l.length
      · obtain ⟨b1, off1, fps1, heq, hb1, -, he1⟩ := hrow.out (by omega)
        first
          | subst heq
          | (simp only [Option.some.injEq, Addr.mk.injEq, and_true] at heq; obtain ⟨rfl, rfl⟩ := heq)
        obtain ⟨es1, hE1, hR1⟩ := he1 k (by omega)
        obtain ⟨es2, hE2, hR2⟩ := he1 (k + 1) hlt
        clear hrow he1
        obtain ⟨h1', rfl, -, okt, -⟩ := hR1
        obtain ⟨h2', rfl, -, -, -⟩ := hR2
        have hE1' := hE1.frame (hb.block b1 hb1)
        have hE2' := hE2.frame (hb.block b1 hb1)
        have c0 : wr.cell? ⟨b1, off1 + k * 4, none⟩ = some _ := elem_cell0 hE1' (by decide) rfl
        have c1 : wr.cell? ⟨b1, off1 + k * 4 + 1, none⟩ = some _ := elem_cell (j := 1) hE1' (by decide) rfl
        have d1 : wr.cell? ⟨b1, off1 + (k + 1) * 4 + 1, none⟩ = some _ := elem_cell (j := 1) hE2' (by decide) rfl
        have d1w : w.cell? ⟨b1, off1 + (k + 1) * 4 + 1, none⟩ = some _ := elem_cell (j := 1) hE2 (by decide) rfl
        clear hE1 hE2 hE1' hE2'
        obtain ⟨fpo, hRo, -, -⟩ := own_flat (ok := okStr) HO.out HS.out
        obtain ⟨ao, co, rfl, -⟩ := open_strs hRo
        clear hRo
        have h6 : ((k : Int) + 1).toNat = k + 1 := by omega
        have hk1 : (k : Int) + 1 < (l.length : Int) := by omega
        by_cases e1 : (l[k]'(by omega)).kind = 1
        · have g1 : ((l[k]'(by omega)).kind != 1) = false := by simp [e1]
          have OKT := Lib.hid okt
          by_cases e2 : l[k + 1].text = closeB
          · have g2 := txt_t (l := [41]) e2
            have HN := Lib.hid (HP.out.trans (by rw [pa_close hlt e1 e2]; try rfl))
            clear e1 e2 okt
            go_wp2_with (
              at_builtin
              refine wp_append_one ti27 rfl _ (.string (l[k]'(by omega)).text) rfl rfl (.tmp 39) (.tmp 45) rfl w.heap.size (.slice ao L.length co) L.length _ rfl HO.out rfl (by unfold maxLen; omega) (by omega) hb.size ?_
              intro v3 w3 hown hgrow
              have hb3 := hb.grown hgrow hb.size (fun b hb' => (HO.out.lt b hb').1)
              have d3 := (hb3.cell (p := ⟨b1, off1 + (k + 1) * 4 + 1, none⟩) hb1).trans d1w
              have HB3 := Lib.hid hb3
              have HOW := Lib.hid (snoc_row hown)
              clear hgrow hown)
            go_ret2
            exact pm_some HN.out rfl (by go_num) HB3.out HOW.out (snoc_size HS.out OKT.out)
          · have g2 := txt_f (l := [41]) e2
            by_cases e3 : l[k + 1].text = commaB
            · have g3 := txt_t (l := [44]) e3
              have HN : Hid (parsOf l = (parsAt l (k + 2)).map (fun p => ((L ++ [(l[k]'(by omega)).text]) ++ p.1, p.2))) := by
                show _ = _
                rw [HP.out, pa_comma hlt e1 e2 e3, Option.map_map]
                congr 1
                funext p
                simp
              clear e1 e2 e3 okt
              go_wp2_with (
                at_builtin
                refine wp_append_one ti27 rfl _ (.string (l[k]'(by omega)).text) rfl rfl (.tmp 39) (.tmp 45) rfl w.heap.size (.slice ao L.length co) L.length _ rfl HO.out rfl (by unfold maxLen; omega) (by omega) hb.size ?_
                intro v3 w3 hown hgrow
                have hb3 := hb.grown hgrow hb.size (fun b hb' => (HO.out.lt b hb').1)
                have d3 := (hb3.cell (p := ⟨b1, off1 + (k + 1) * 4 + 1, none⟩) hb1).trans d1w
                have HB3 := Lib.hid hb3
                have HOW := Lib.hid (snoc_row hown)
                clear hgrow hown)
              go_roundw
              case rel => exact ⟨k + 2, _, by omega, by simp; omega, by go_num, HOW, snoc_size HS.out OKT.out, HN, HB3.out⟩
              case measure => simp [intOf]; omega
            · have g3 := txt_f (l := [44]) e3
              have HN := Lib.hid (HP.out.trans (by rw [pa_other hlt e1 e2 e3]; try rfl))
              clear e1 e2 e3 okt
              go_wp2_with (
                at_builtin
                refine wp_append_one ti27 rfl _ (.string (l[k]'(by omega)).text) rfl rfl (.tmp 39) (.tmp 45) rfl w.heap.size (.slice ao L.length co) L.length _ rfl HO.out rfl (by unfold maxLen; omega) (by omega) hb.size ?_
                intro v3 w3 hown hgrow
                have hb3 := hb.grown hgrow hb.size (fun b hb' => (HO.out.lt b hb').1)
                have d3 := (hb3.cell (p := ⟨b1, off1 + (k + 1) * 4 + 1, none⟩) hb1).trans d1w
                have HB3 := Lib.hid hb3
                clear hgrow hown)
              go_ret2
              exact pm_none HN.out HB3.out
        · have g1 : ((l[k]'(by omega)).kind != 1) = true := by simp [e1]
          have HN := Lib.hid (HP.out.trans (by rw [pa_kind hlt e1]; try rfl))
          clear e1
          go_wp2
          go_ret2
          exact pm_none HN.out hb
      · have HN := Lib.hid (HP.out.trans (by rw [pa_end hlt]; try rfl))
        have hk1 : ¬ (k : Int) + 1 < (l.length : Int) := by omega
        go_wp2
        go_ret2
        exact pm_none HN.out hb

end Go.Proofs.Ytdnjpjiepnhhhab

/- A region that draws its order, walked by an invariant over what is done; and one in which all only reads but a literal, an append of it, and the store of the result. Over any program. -/
namespace Go.Proofs.Ytdnjpjiepnhhhab
open Go.RowKit

/-- Whatever comes up, the invariant holds. -/
theorem wp_region_inv {P : Program} {ops : Array Oper} {Q : Exit → Act → World → Prop} {id : Nat} {a : Act} {w : World} (hm : P.follows .mixedOrders = true) (hok : regionOk ops = true)
    (J : Array Bool → List Value → World → Prop)
    (hJ : J (Array.replicate ops.size false) (origs a (ops.toList.map (·.dst))) { w with drawn := w.drawn + 1 })
    (step : ∀ (i : Nat) (o : Oper), ops[i]? = some o → ∀ (L : Array Bool) (xs : List Value) (w' : World), L.size = ops.size → xs.length = ops.size → L.getD i false = false →
      (∀ e ∈ o.after, Region.binds .any e = true → L.getD e.on false = true) → J L xs w' →
      ∀ K : Act → World → Prop, (∀ v w'', J (L.setIfInBounds i true) (xs.set i v) w'' → K ((fill a (ops.toList.map (·.dst)) xs).put o.dst v) w'') → wpList P ops (Sw K) [o] (fill a (ops.toList.map (·.dst)) xs) w')
    (done : ∀ (L : Array Bool) (xs : List Value) (w' : World), xs.length = ops.size → (∀ i, i < ops.size → L.getD i false = true) → J L xs w' → Q .normal (fill a (ops.toList.map (·.dst)) xs) w') :
    (Code.region id ops true).wp P Q a w := by
  refine wp_region_any hm ?_
  have hd : apartDsts (ops.toList.map (·.dst)) = true := by unfold regionOk at hok; rw [Bool.and_eq_true] at hok; exact hok.1
  have hlist : ∀ (L : Array Bool), L.size = ops.size → Region.ready .any ops L = [] → ∀ i, i < ops.size → L.getD i false = true := by
    intro L hL hr i
    induction i using Nat.strongRecOn with
    | ind i ih =>
      intro hi
      cases hb : L.getD i false with
      | true => rfl
      | false =>
        exfalso
        have hm : i ∈ Region.ready .any ops L := by
          rw [mem_ready]
          exact ⟨getD_tf (by omega) hb, ops[i], Array.getElem?_eq_getElem hi, fun e he _ => by
            have hlt := regionOk_after hok (Array.getElem?_eq_getElem hi) e he
            exact ih e.on hlt (by omega)⟩
        rw [hr] at hm
        cases hm
  have main : ∀ (fuel : Nat) (L : Array Bool) (b : Act) (w' : World) (xs : List Value), fuel + cnt ops.size L = ops.size → L.size = ops.size → xs.length = ops.size → b = fill a (ops.toList.map (·.dst)) xs → J L xs w' → wpAny P .any ops Q fuel L b w' := by
    intro fuel
    induction fuel with
    | zero =>
      intro L b w' xs hf hs hx hb hI
      have hall : ∀ i, i < ops.size → L.getD i false = true := fun i hi => by
        cases hb : L.getD i false with
        | true => rfl
        | false => have := cnt_lt hi hb; omega
      refine ⟨?_, ?_⟩
      · cases hr : Region.ready .any ops L with
        | nil => rfl
        | cons i r =>
          have hi : i ∈ Region.ready .any ops L := by rw [hr]; simp
          rw [mem_ready] at hi
          obtain ⟨h0, o, ho, _⟩ := hi
          have := hall i (Array.getElem?_eq_some_iff.1 ho).1
          rw [getD_ft h0] at this
          cases this
      · rw [hb]; exact done L xs w' hx hall hI
    | succ fuel ih =>
      intro L b w' xs hf hs hx hb hI
      refine ⟨fun hr => ?_, fun i hi => ?_⟩
      · rw [hb]; exact done L xs w' hx (hlist L hs hr) hI
      · obtain ⟨h0, o, ho, hafter⟩ := mem_ready.1 hi
        have hlt := (Array.getElem?_eq_some_iff.1 ho).1
        refine sw_op ho ?_
        rw [hb]
        refine step i o ho L xs w' hs hx (getD_ft h0) hafter hI _ (fun v w'' h1 => ?_)
        have hds : (ops.toList.map (·.dst))[i]? = some o.dst := by simp [ho]
        rw [fill_put _ hd _ _ i _ _ (by simpa using hx) hds]
        have hset : cnt ops.size (L.setIfInBounds i true) = cnt ops.size L + 1 := cnt_set hlt hs h0
        exact ih _ _ _ (xs.set i v) (by omega) (by simpa using hs) (by simpa using hx) rfl h1
  refine main ops.size _ _ _ (origs a (ops.toList.map (·.dst))) ?_ (by simp) (by simp [origs]) (fill_self _ a).symm hJ
  have hz : ∀ i, (Array.replicate ops.size false).getD i false = false := by intro i; simp [Array.getD]
  have hc : cnt ops.size (Array.replicate ops.size false) = 0 := by
    unfold cnt
    rw [List.countP_eq_zero]
    intro i _; simp only [hz i]; simp
  rw [hc]; omega

/-- What is known while such a region runs. -/
structure AppJ (n ia ib ic : Nat) (vals : List (Option Value)) (va : Value) (og : List Value) (w0 w1 : World) (App Fin : Value → World → Prop) (L : Array Bool) (xs : List Value) (w : World) : Prop where
  con : ∀ i, i < n → i ≠ ia → i ≠ ib → i ≠ ic → L.getD i false = true → ∀ u, vals[i]? = some (some u) → xs[i]? = some u
  a : L.getD ia false = true → xs[ia]? = some va
  ab : L.getD ib false = true → L.getD ia false = true
  bc : L.getD ic false = true → L.getD ib false = true
  s0 : L.getD ia false = false → w = w0
  s1 : L.getD ia false = true → L.getD ib false = false → w = w1
  s2 : L.getD ib false = true → L.getD ic false = false → ∃ v, xs[ib]? = some v ∧ App v w
  s3 : L.getD ic false = true → ∃ v, xs[ib]? = some v ∧ Fin v w
  old : ∀ i, i < n → L.getD i false = false → xs[i]? = og[i]?
  fin : L.getD ic false = true → ∀ i, i < n → L.getD i false = true

/-- An operation whose guard does not hold. -/
theorem sw_skip {P : Program} {ops : Array Oper} {K : Act → World → Prop} {o : Oper} {a : Act} {w : World} (hw : Region.wanted o (yielded ops a.tmps) = false) (h : K (a.put o.dst undef) w) : wpList P ops (Sw K) [o] a w := by
  unfold wpList
  rw [if_neg (by simp [hw])]
  exact h
/-- An operation that only reads: what it finds, what it owes. -/
def ConOk (P : Program) (ops : Array Oper) (a : Act) (vals : List (Option Value)) (Base : World → Prop) (ia ib ic i : Nat) (o : Oper) : Prop :=
  ∀ (xs : List Value) (w' : World), xs.length = ops.size → xs[i]? = (origs a (ops.toList.map (·.dst)))[i]? → (∀ e ∈ o.after, Region.binds .any e = true → e.on ≠ ia → e.on ≠ ib → e.on ≠ ic → ∀ u, vals[e.on]? = some (some u) → xs[e.on]? = some u) → Base w' →
    ∀ K : Act → World → Prop, (∀ v, (∀ u, vals[i]? = some (some u) → v = u) → K ((fill a (ops.toList.map (·.dst)) xs).put o.dst v) w') → wpList P ops (Sw K) [o] (fill a (ops.toList.map (·.dst)) xs) w'
def ConsFrom (P : Program) (ops : Array Oper) (a : Act) (vals : List (Option Value)) (Base : World → Prop) (ia ib ic : Nat) : Nat → List Oper → Prop
  | _, [] => True
  | k, o :: os => (k = ia ∨ k = ib ∨ k = ic ∨ ConOk P ops a vals Base ia ib ic k o) ∧ ConsFrom P ops a vals Base ia ib ic (k + 1) os
theorem cons_of {P : Program} {ops : Array Oper} {a : Act} {vals : List (Option Value)} {Base : World → Prop} {ia ib ic : Nat} : ∀ (l : List Oper) (k : Nat), (∀ j, l[j]? = ops[k + j]?) → ConsFrom P ops a vals Base ia ib ic k l → ∀ i o, k ≤ i → ops[i]? = some o → i = ia ∨ i = ib ∨ i = ic ∨ ConOk P ops a vals Base ia ib ic i o := by
  intro l
  induction l with
  | nil =>
    intro k h _ i o hk hi
    have := h (i - k)
    rw [show k + (i - k) = i by omega, hi] at this
    simp at this
  | cons x l ih =>
    intro k h hs i o hk hi
    by_cases e : i = k
    · subst e
      have h0 := h 0
      rw [Nat.add_zero, hi] at h0
      simp only [List.getElem?_cons_zero, Option.some.injEq] at h0
      subst h0
      exact hs.1
    · exact ih (k + 1) (fun j => by have := h (j + 1); rw [List.getElem?_cons_succ] at this; rw [this]; congr 1; omega) hs.2 i o (by omega) hi
theorem cons_all {P : Program} {ops : Array Oper} {a : Act} {vals : List (Option Value)} {Base : World → Prop} {ia ib ic : Nat} (h : ConsFrom P ops a vals Base ia ib ic 0 ops.toList) :
    ∀ i o, ops[i]? = some o → i = ia ∨ i = ib ∨ i = ic ∨ ConOk P ops a vals Base ia ib ic i o := fun i o hi => cons_of ops.toList 0 (fun j => by simp) h i o (Nat.zero_le _) hi

theorem wp_region_app {P : Program} {ops : Array Oper} {Q : Exit → Act → World → Prop} {id : Nat} {a : Act} {w : World} (hm : P.follows .mixedOrders = true) (hok : regionOk ops = true)
    (ia ib ic : Nat) (hab : ((ops[ib]?).map fun o => o.after.any fun e => Region.binds .any e && e.on == ia) = some true) (hcov : ((ops[ic]?).map fun o => covers o ic ops.size) = some true)
    (hne : ia ≠ ib ∧ ib ≠ ic ∧ ia ≠ ic) (hlt : ia < ops.size ∧ ib < ops.size ∧ ic < ops.size) {oA oB oC : Oper} (hA : ops[ia]? = some oA) (hB : ops[ib]? = some oB) (hC : ops[ic]? = some oC)
    (vals : List (Option Value)) (va : Value) (w1 : World) (App Fin : Value → World → Prop) (Base : World → Prop)
    (hb0 : Base { w with drawn := w.drawn + 1 }) (hb1 : Base w1) (hb2 : ∀ v w2, App v w2 → Base w2)
    (con : ∀ (i : Nat) (o : Oper), ops[i]? = some o → i = ia ∨ i = ib ∨ i = ic ∨ ConOk P ops a vals Base ia ib ic i o)
    (stA : ∀ xs : List Value, xs.length = ops.size → (∀ e ∈ oA.after, Region.binds .any e = true → e.on ≠ ia → e.on ≠ ib → e.on ≠ ic → ∀ u, vals[e.on]? = some (some u) → xs[e.on]? = some u) →
      ∀ K : Act → World → Prop, K ((fill a (ops.toList.map (·.dst)) xs).put oA.dst va) w1 → wpList P ops (Sw K) [oA] (fill a (ops.toList.map (·.dst)) xs) { w with drawn := w.drawn + 1 })
    (stB : ∀ xs : List Value, xs.length = ops.size → (∀ e ∈ oB.after, Region.binds .any e = true → e.on ≠ ia → e.on ≠ ib → e.on ≠ ic → ∀ u, vals[e.on]? = some (some u) → xs[e.on]? = some u) → xs[ia]? = some va →
      ∀ K : Act → World → Prop, (∀ v w2, App v w2 → K ((fill a (ops.toList.map (·.dst)) xs).put oB.dst v) w2) → wpList P ops (Sw K) [oB] (fill a (ops.toList.map (·.dst)) xs) w1)
    (stC : ∀ (xs : List Value) (v : Value) (w2 : World), xs.length = ops.size → (∀ e ∈ oC.after, Region.binds .any e = true → e.on ≠ ia → e.on ≠ ib → e.on ≠ ic → ∀ u, vals[e.on]? = some (some u) → xs[e.on]? = some u) → xs[ib]? = some v → App v w2 →
      ∀ K : Act → World → Prop, (∀ u w3, Fin v w3 → K ((fill a (ops.toList.map (·.dst)) xs).put oC.dst u) w3) → wpList P ops (Sw K) [oC] (fill a (ops.toList.map (·.dst)) xs) w2)
    (done : ∀ (xs : List Value) (v : Value) (w' : World), xs.length = ops.size → (∀ i, i < ops.size → i ≠ ia → i ≠ ib → i ≠ ic → ∀ u, vals[i]? = some (some u) → xs[i]? = some u) → xs[ia]? = some va → xs[ib]? = some v → Fin v w' → Q .normal (fill a (ops.toList.map (·.dst)) xs) w') :
    (Code.region id ops true).wp P Q a w := by
  obtain ⟨n1, n2, n3⟩ := hne
  obtain ⟨l1, l2, l3⟩ := hlt
  refine wp_region_inv hm hok (AppJ ops.size ia ib ic vals va (origs a (ops.toList.map (·.dst))) { w with drawn := w.drawn + 1 } w1 App Fin) ?_ ?_ ?_
  · have hz : ∀ i, (Array.replicate ops.size false).getD i false = false := by intro i; simp [Array.getD]
    have hf : ∀ i, (Array.replicate ops.size false).getD i false = true → False := fun i h => by rw [hz] at h; cases h
    exact ⟨fun i _ _ _ _ h => (hf i h).elim, fun h => (hf _ h).elim, fun h => (hf _ h).elim, fun h => (hf _ h).elim, fun _ => rfl, fun h _ => (hf _ h).elim, fun h _ => (hf _ h).elim, fun h => (hf _ h).elim, fun _ _ _ => rfl, fun h => (hf _ h).elim⟩
  · intro i o ho L xs w' hs hx hL hafter hJ K hK
    have hi := (Array.getElem?_eq_some_iff.1 ho).1
    have hdep : ∀ e ∈ o.after, Region.binds .any e = true → e.on ≠ ia → e.on ≠ ib → e.on ≠ ic → ∀ u, vals[e.on]? = some (some u) → xs[e.on]? = some u := fun e he hb h1 h2 h3 => by
      have hdone := hafter e he hb
      have hsz : e.on < ops.size := by
        have := regionOk_after hok ho e he
        omega
      exact hJ.con e.on hsz h1 h2 h3 hdone
    have hp : ∀ j, (L.setIfInBounds i true).getD j false = (decide (j = i) || L.getD j false) := fun j => getD_put (by rw [hs]; exact hi)
    have hxs : ∀ (v : Value) (j : Nat), j ≠ i → (xs.set i v)[j]? = xs[j]? := fun v j hj => List.getElem?_set_ne (fun h => hj h.symm)
    have hxi : ∀ (v : Value), (xs.set i v)[i]? = some v := fun v => List.getElem?_set_self (by omega)
    have hold : ∀ (v : Value) (j : Nat), j < ops.size → (L.setIfInBounds i true).getD j false = false → (xs.set i v)[j]? = (origs a (ops.toList.map (·.dst)))[j]? := fun v j hj hf => by
      rw [hp, Bool.or_eq_false_iff, decide_eq_false_iff_not] at hf
      rw [hxs v j hf.1]
      exact hJ.old j hj hf.2
    by_cases ea : i = ia
    · subst ea
      have hA' := hA
      have hbf : L.getD ib false = false := by
        cases h : L.getD ib false
        · rfl
        · rw [hJ.ab h] at hL; cases hL
      have hcf : L.getD ic false = false := by
        cases h : L.getD ic false
        · rfl
        · rw [hJ.bc h] at hbf; cases hbf
      obtain rfl := hJ.s0 hL
      rw [hA] at ho; cases ho
      refine stA xs hx hdep K (hK va w1 ⟨?_, fun _ => hxi va, fun _ => by rw [hp]; simp, fun h => ?_, fun h => ?_, fun _ _ => rfl, fun h => ?_, fun h => ?_, hold va, fun h => ?_⟩)
      · intro j hj h1 h2 h3 hd u hu
        rw [hp, Bool.or_eq_true, decide_eq_true_eq] at hd
        rw [hxs _ _ h1]
        exact hJ.con j hj h1 h2 h3 (hd.resolve_left h1) u hu
      · rw [hp, hcf] at h; simp at h; exact absurd h.symm n3
      · rw [hp] at h; simp at h
      · rw [hp, hbf] at h; simp at h; exact absurd h.symm n1
      · rw [hp, hcf] at h; simp at h; exact absurd h.symm n3
      · rw [hp, hcf] at h; simp at h; exact absurd h.symm n3
    · by_cases eb : i = ib
      · subst eb
        obtain ⟨e, he, hbd, hon⟩ : ∃ e ∈ o.after, Region.binds .any e = true ∧ e.on = ia := by
          rw [ho, Option.map_some, Option.some.injEq, Array.any_eq_true'] at hab
          obtain ⟨e, h1, h2⟩ := hab
          rw [Bool.and_eq_true, beq_iff_eq] at h2
          exact ⟨e, h1, h2.1, h2.2⟩
        have hat : L.getD ia false = true := hon ▸ hafter e he hbd
        have hcf : L.getD ic false = false := by
          cases h : L.getD ic false
          · rfl
          · rw [hJ.bc h] at hL; cases hL
        obtain rfl := hJ.s1 hat hL
        rw [hB] at ho; cases ho
        refine stB xs hx hdep (hJ.a hat) K (fun v w2 hApp => hK v w2 ⟨?_, fun _ => ?_, fun _ => ?_, fun h => ?_, fun h => ?_, fun _ h => ?_, fun _ _ => ⟨v, hxi v, hApp⟩, fun h => ?_, hold v, fun h => ?_⟩)
        · intro j hj h1 h2 h3 hd u hu
          rw [hp, Bool.or_eq_true, decide_eq_true_eq] at hd
          rw [hxs _ _ h2]
          exact hJ.con j hj h1 h2 h3 (hd.resolve_left h2) u hu
        · rw [hxs _ _ n1]; exact hJ.a hat
        · rw [hp, hat]; simp
        · rw [hp, hcf] at h; simp at h; exact absurd h.symm n2
        · rw [hp, hat] at h; simp at h
        · rw [hp] at h; simp at h
        · rw [hp, hcf] at h; simp at h; exact absurd h.symm n2
        · rw [hp, hcf] at h; simp at h; exact absurd h.symm n2
      · by_cases ec : i = ic
        · subst ec
          have hall : ∀ j, j < ops.size → j ≠ i → L.getD j false = true := fun j hj hji => by
            have hc := hcov
            rw [ho, Option.map_some, Option.some.injEq] at hc
            unfold covers at hc
            rw [List.all_eq_true] at hc
            have := hc j (by simpa using hj)
            rw [Bool.or_eq_true, beq_iff_eq] at this
            rcases this with h | h
            · exact absurd h hji
            · rw [Array.any_eq_true'] at h
              obtain ⟨d, hd1, hd2⟩ := h
              rw [Bool.and_eq_true, beq_iff_eq] at hd2
              rw [← hd2.2]; exact hafter d hd1 hd2.1
          have hbt : L.getD ib false = true := hall ib l2 n2
          have hat := hJ.ab hbt
          obtain ⟨v, hv, hApp⟩ := hJ.s2 hbt hL
          rw [hC] at ho; cases ho
          refine stC xs v w' hx hdep hv hApp K (fun u w3 hF => hK u w3 ⟨?_, fun _ => ?_, fun _ => ?_, fun _ => ?_, fun h => ?_, fun _ h => ?_, fun _ h => ?_, fun _ => ⟨v, ?_, hF⟩, hold u, fun _ j hj => ?_⟩)
          · intro j hj h1 h2 h3 hd u hu
            rw [hp, Bool.or_eq_true, decide_eq_true_eq] at hd
            rw [hxs _ _ h3]
            exact hJ.con j hj h1 h2 h3 (hd.resolve_left h3) u hu
          · rw [hxs _ _ n3]; exact hJ.a hat
          · rw [hp, hat]; simp
          · rw [hp, hbt]; simp
          · rw [hp, hat] at h; simp at h
          · rw [hp, hbt] at h; simp at h
          · rw [hp] at h; simp at h
          · rw [hxs _ _ n2]; exact hv
          · rw [hp, Bool.or_eq_true, decide_eq_true_eq]
            by_cases e : j = i
            · exact .inl e
            · exact .inr (hall j hj e)
        · have hbase : Base w' := by
            cases hA : L.getD ia false
            · rw [hJ.s0 hA]; exact hb0
            · cases hB : L.getD ib false
              · rw [hJ.s1 hA hB]; exact hb1
              · cases hC : L.getD ic false
                · obtain ⟨v, _, h⟩ := hJ.s2 hB hC; exact hb2 v _ h
                · rw [hJ.fin hC i hi] at hL; cases hL
          have hpa : (L.setIfInBounds i true).getD ia false = L.getD ia false := by rw [hp, decide_eq_false (fun h => ea h.symm), Bool.false_or]
          have hpb : (L.setIfInBounds i true).getD ib false = L.getD ib false := by rw [hp, decide_eq_false (fun h => eb h.symm), Bool.false_or]
          have hpc : (L.setIfInBounds i true).getD ic false = L.getD ic false := by rw [hp, decide_eq_false (fun h => ec h.symm), Bool.false_or]
          refine ((((con i o ho).resolve_left ea).resolve_left eb).resolve_left ec) xs w' hx (hJ.old i hi hL) hdep hbase K (fun v hv => hK v w' ⟨?_, fun h => ?_, fun h => ?_, fun h => ?_, fun h => ?_, fun h1 h2 => ?_, fun h1 h2 => ?_, fun h => ?_, hold v, fun h => ?_⟩)
          · intro j hj h1 h2 h3 hd u hu
            by_cases ej : j = i
            · subst ej; rw [hxi, hv u hu]
            · rw [hp, Bool.or_eq_true, decide_eq_true_eq] at hd
              rw [hxs _ _ ej]
              exact hJ.con j hj h1 h2 h3 (hd.resolve_left ej) u hu
          · rw [hpa] at h; rw [hxs _ _ (fun h => ea h.symm)]; exact hJ.a h
          · rw [hpb] at h; rw [hpa]; exact hJ.ab h
          · rw [hpc] at h; rw [hpb]; exact hJ.bc h
          · rw [hpa] at h; exact hJ.s0 h
          · rw [hpa] at h1; rw [hpb] at h2; exact hJ.s1 h1 h2
          · rw [hpb] at h1; rw [hpc] at h2; rw [hxs _ _ (fun h => eb h.symm)]; exact hJ.s2 h1 h2
          · rw [hpc] at h; rw [hxs _ _ (fun h => eb h.symm)]; exact hJ.s3 h
          · rw [hpc] at h; rw [hJ.fin h i hi] at hL; cases hL
  · intro L xs w' hx hall hJ
    obtain ⟨v, hv, hF⟩ := hJ.s3 (hall ic l3)
    exact done xs v w' hx (fun i hi h1 h2 h3 => hJ.con i hi h1 h2 h3 (hall i hi)) (hJ.a (hall ia l1)) hv hF

end Go.Proofs.Ytdnjpjiepnhhhab

/- MacroOf of the model. (Made by gen_mac10.py.) -/
namespace Go.Proofs.Ytdnjpjiepnhhhab
open Go.RowKit

/-! ### The model's theorem, way by way -/
theorem of_no {l : List Tok} (h : toksOk l = false) : macOf l = (zeroMac, false) := by unfold macOf; rw [dif_neg (fun x => by rw [h] at x; exact absurd x.1 (by simp))]
theorem of_nil {l : List Tok} (h : ¬ 0 < l.length) : macOf l = (zeroMac, false) := by unfold macOf; rw [dif_neg (fun x => h x.2)]
theorem of_plain {l : List Tok} (h : toksOk l = true) (h0 : 0 < l.length) (ho : opens2 l = false) : macOf l = macChk ⟨l[0].text, false, [], bodyFrom l 1⟩ := by unfold macOf; rw [dif_pos ⟨h, h0⟩, if_neg (by simp [ho])]
theorem of_pno {l : List Tok} (h : toksOk l = true) (h0 : 0 < l.length) (ho : opens2 l = true) (hp : parsOf l = none) : macOf l = (zeroMac, false) := by unfold macOf; rw [dif_pos ⟨h, h0⟩, if_pos ho, hp]
theorem of_pars {l : List Tok} (h : toksOk l = true) (h0 : 0 < l.length) (ho : opens2 l = true) {p : List ByteArray × Nat} (hp : parsOf l = some p) : macOf l = macChk ⟨l[0].text, true, p.1, bodyFrom l p.2⟩ := by unfold macOf; rw [dif_pos ⟨h, h0⟩, if_pos ho, hp]
theorem chk_no {m : DMacro} (h : macOk m = false) : macChk m = (zeroMac, false) := by unfold macChk; rw [if_neg (by simp [h])]
theorem chk_yes {m : DMacro} (h : macOk m = true) : macChk m = (m, true) := by unfold macChk; rw [if_pos h]
theorem pat_le (l : List Tok) (k : Nat) : ∀ p, parsAt l k = some p → p.2 ≤ l.length := by
  induction k using parsAt.induct (l := l) with
  | case1 k h h1 h2 => intro p hp; rw [pa_close h h1 h2] at hp; cases hp; show k + 2 ≤ _; omega
  | case2 k h h1 h2 h3 ih =>
    intro p hp
    rw [pa_comma h h1 h2 h3, Option.map_eq_some_iff] at hp
    obtain ⟨q, hq, rfl⟩ := hp
    exact ih q hq
  | case3 k h h1 h2 h3 => intro p hp; rw [pa_other h h1 h2 h3] at hp; cases hp
  | case4 k h h1 => intro p hp; rw [pa_kind h h1] at hp; cases hp
  | case5 k h => intro p hp; rw [pa_end h] at hp; cases hp
theorem pars_le {l : List Tok} {p : List ByteArray × Nat} (h : parsOf l = some p) : p.2 ≤ l.length := by
  unfold parsOf at h
  split at h
  · split at h
    · cases h; show 3 ≤ _; omega
    · exact pat_le l 2 p h
  · cases h
theorem op_short {l : List Tok} (h : ¬ 1 < l.length) : opens2 l = false := by unfold opens2; rw [dif_neg h]
theorem op_other {l : List Tok} (h : 1 < l.length) (h1 : l[1].text ≠ openB) : opens2 l = false := by unfold opens2; rw [dif_pos h, decide_eq_false h1]; rfl
theorem op_spaced {l : List Tok} (h : 1 < l.length) (h1 : l[1].spaced = true) : opens2 l = false := by unfold opens2; rw [dif_pos h, h1]; simp
theorem op_yes {l : List Tok} (h : 1 < l.length) (h1 : l[1].text = openB) (h2 : l[1].spaced = false) : opens2 l = true := by unfold opens2; rw [dif_pos h, decide_eq_true h1, h2]; rfl
theorem body_take {l : List Tok} {n k : Nat} (h1 : n ≤ k) (h2 : k < l.length) : (bodyFrom l n).take (k + 1 - n) = (bodyFrom l n).take (k - n) ++ [⟨l[k].kind, l[k].text, l[k].spaced && decide (n < k), []⟩] := by
  have hl : (bodyFrom l n).length = l.length - n := bodyFrom_len l n
  have hk : k - n < (bodyFrom l n).length := by omega
  rw [show k + 1 - n = k - n + 1 by omega, List.take_succ_eq_append_getElem hk, bodyFrom_get]
  have e : n + (k - n) = k := by omega
  simp only [e]
  have e2 : decide (0 < k - n) = decide (n < k) := decide_eq_decide.2 (by omega)
  rw [e2]

theorem results_cell2 {P : Program} {fn : Func} {p u : Tmp} {ty : TypeId} (h : fn.results = #[.cell p ty, .tmp u]) (tmps : Array Value) (w : World) (g : Nat) (t : TypeId) (cs : Array Value) (fr : Nat × Nat) (d : TypeDesc)
    (hp : tmps.getD p undef = .pointer (some ⟨g, 0, none⟩)) (hg : w.heap[g]? = some (.cells cs t fr))
    (hu : P.underlying ty = some d) (hd : (match d with | .struct _ | .array _ _ => true | _ => false) = true) (hi : (P.info? ty).map (·.size) = some cs.size) :
    (results fn tmps).run P w = .ok (.tuple #[.agg cs, tmps.getD u undef]) w := by
  have hp' : tmps[p]?.getD undef = .pointer (some ⟨g, 0, none⟩) := by simpa using hp
  rw [results_cell_tmp h]
  simp [hp', asAddr, run_loadVar_row w g t ty cs fr d hg hu hd hi, Result.andThen]

/-- A macro that is read out of tokens. -/
def MOf (l : List Tok) (w : World) (e : Ending) (w' : World) : Prop :=
  ∃ (cs : List Value) (fp : List Nat), e = .returned (.tuple #[.agg cs.toArray, .bool (macOf l).2]) ∧ sMacro.R w' cs (macOf l).1 fp ∧ Own w' w.heap.size fp ∧ Below w.heap.size w w'
theorem mof_no {l : List Tok} {w w' : World} (h : macOf l = (zeroMac, false)) (hb : Below w.heap.size w w') : MOf l w (.returned (.tuple #[.agg #[.string ⟨#[]⟩, .bool false, .slice none 0 0, .slice none 0 0], .bool false])) w' :=
  ⟨[.string ⟨#[]⟩, .bool false, .slice none 0 0, .slice none 0 0], [], by rw [h], by rw [h]; exact ⟨_, _, [], [], rfl, by show (0 : Nat) ≤ _; simp [maxLen], slice_empty sStr _ _ _ (by simp), slice_empty sTok _ _ _ (by simp), rfl⟩, Own.nil _ _, hb⟩
theorem mof_yes {l : List Tok} {m : DMacro} {w w' : World} {cs : List Value} {fp : List Nat} (h : macOf l = (m, true)) (hR : sMacro.R w' cs m fp) (ho : Own w' w.heap.size fp) (hb : Below w.heap.size w w') : MOf l w (.returned (.tuple #[.agg cs.toArray, .bool true])) w' :=
  ⟨cs, fp, by rw [h], by rw [h]; exact hR, ho, hb⟩
theorem mbox {w : World} {g : Nat} {arr : Array Value} {ty : TypeId} (h : w.heap[g]? = some (.cells arr ty (0, 0))) {w' : World} (hb : Below w.heap.size w w') : w'.heap[g]? = some (.cells arr ty (0, 0)) :=
  (hb.block g (Array.getElem?_eq_some_iff.1 h).1).trans h
theorem mlt {w : World} {g : Nat} {o : Obj} (h : w.heap[g]? = some o) : g < w.heap.size := (Array.getElem?_eq_some_iff.1 h).1
/-- Rows whose elements have nothing behind them: the blocks that a row's slice reads are the row's. -/
theorem rowE_own {α : Type} {S : Shape α} {base : Nat} {e : TypeId} {v : Value} {L : List (Elem α)} {w : World} (h : RowE S base e v L w) (hf : ∀ x ∈ L, x.fp = []) : ∃ fp, (sSlice S).R w [v] (L.map (·.d)) fp ∧ Own w base fp := by
  obtain ⟨fp, h1, _, h3⟩ := slice_of_row h.row fun x hx => ⟨h.len x hx, h.el x hx⟩
  have e0 : L.flatMap (·.fp) = [] := by rw [List.flatMap_eq_nil_iff]; exact hf
  rw [e0] at h3
  exact ⟨fp, h1, h3 (Own.nil _ _) (by simp)⟩

set_option maxHeartbeats 32000000 in
set_option maxRecDepth 100000 in
theorem spec_MacroOf (v : Value) (l : List Tok) (fp : List Nat) (w : World) (hl : l.length ≤ 1048576) (hx : ∀ k, (hk : k < l.length) → l[k].hidden.length ≤ 2000000) (H : (sSlice sTok).R w [v] l fp) :
    Calls Try.prog 71 #[v] w (MOf l w) := by
  have hz0 := alloc_below' w (.cells #[.string ⟨#[]⟩, .bool false, .slice none 0 0, .slice none 0 0] 35)
  have HZ := Lib.hid (heap_alloc_new w (.cells #[.string ⟨#[]⟩, .bool false, .slice none 0 0, .slice none 0 0] 35))
  have HCP := Lib.hid (spec_l1OwnTokenList v l fp _ hl hx ((sSlice sTok).below H hz0))
  clear H hx
  go_enter Try.func71, Try.ntmps71
  go_wp2_with fail
  refine HCP.out.mono ?_
  rintro e w1 ⟨v1, fp1, rfl, HL, hb1⟩
  have hB1 := hz0.trans (hb1.mono hz0.size)
  replace HZ := Lib.hid (mbox HZ.out hb1)
  clear hb1 hz0 HCP
  have HV := Lib.hid (spec_TokensValid v1 l fp1 w1 HL)
  obtain ⟨a, cap, rfl, hc, hm, hrow⟩ := open_rows HL
  unfold maxLen at hm
  go_wp2_with fail
  refine HV.out.mono ?_
  rintro e w2 ⟨rfl, hb2⟩
  have hB2 := hB1.trans (hb2.mono hB1.size)
  replace HZ := Lib.hid (mbox HZ.out hb2)
  have HLL := Lib.hid ((sSlice sTok).below HL hb2)
  clear HL HV
  cases hv : toksOk l
  · have HF := Lib.hid (of_no hv)
    clear hv
    have z0 : w2.cell? ⟨w.heap.size, 0, none⟩ = some (.string ⟨#[]⟩) := cell_of_row _ _ 0 _ _ _ HZ.out
    have zf0 : w2.frozen? ⟨w.heap.size, 0, none⟩ = false := frozen_of_row _ _ 0 _ _ HZ.out
    have z1 : w2.cell? ⟨w.heap.size, 1, none⟩ = some (.bool false) := cell_of_row _ _ 1 _ _ _ HZ.out
    have zf1 : w2.frozen? ⟨w.heap.size, 1, none⟩ = false := frozen_of_row _ _ 1 _ _ HZ.out
    have z2 : w2.cell? ⟨w.heap.size, 2, none⟩ = some (.slice none 0 0) := cell_of_row _ _ 2 _ _ _ HZ.out
    have zf2 : w2.frozen? ⟨w.heap.size, 2, none⟩ = false := frozen_of_row _ _ 2 _ _ HZ.out
    have z3 : w2.cell? ⟨w.heap.size, 3, none⟩ = some (.slice none 0 0) := cell_of_row _ _ 3 _ _ _ HZ.out
    have zf3 : w2.frozen? ⟨w.heap.size, 3, none⟩ = false := frozen_of_row _ _ 3 _ _ HZ.out
    have HS := Lib.hid (blk_set (blk_set (blk_set (blk_set HZ.out 0 (.string ⟨#[]⟩)) 1 (.bool false)) 2 (.slice none 0 0)) 3 (.slice none 0 0))
    have HBF := Lib.hid ((((hB2.setCell (p := ⟨w.heap.size, 0, none⟩) (Nat.le_refl _) (.string ⟨#[]⟩)).setCell (p := ⟨w.heap.size, 1, none⟩) (Nat.le_refl _) (.bool false)).setCell (p := ⟨w.heap.size, 2, none⟩) (Nat.le_refl _) (.slice none 0 0)).setCell (p := ⟨w.heap.size, 3, none⟩) (Nat.le_refl _) (.slice none 0 0))
    go_wp2
    refine bodyPost_ret (results_cell2 rfl _ _ w.heap.size _ _ _ _ rfl HS.out Try.underlying35 rfl (by kernel_rfl)) rfl ?_
    exact mof_no HF.out HBF.out
  by_cases h0 : 0 < l.length
  rotate_left
  · have HF := Lib.hid (of_nil h0)
    have hz : l.length = 0 := by omega
    have hz1 : ((l.length : Int) == 0) = true := by simp [List.length_eq_zero_iff.1 hz]
    clear hv
    have z0 : w2.cell? ⟨w.heap.size, 0, none⟩ = some (.string ⟨#[]⟩) := cell_of_row _ _ 0 _ _ _ HZ.out
    have zf0 : w2.frozen? ⟨w.heap.size, 0, none⟩ = false := frozen_of_row _ _ 0 _ _ HZ.out
    have z1 : w2.cell? ⟨w.heap.size, 1, none⟩ = some (.bool false) := cell_of_row _ _ 1 _ _ _ HZ.out
    have zf1 : w2.frozen? ⟨w.heap.size, 1, none⟩ = false := frozen_of_row _ _ 1 _ _ HZ.out
    have z2 : w2.cell? ⟨w.heap.size, 2, none⟩ = some (.slice none 0 0) := cell_of_row _ _ 2 _ _ _ HZ.out
    have zf2 : w2.frozen? ⟨w.heap.size, 2, none⟩ = false := frozen_of_row _ _ 2 _ _ HZ.out
    have z3 : w2.cell? ⟨w.heap.size, 3, none⟩ = some (.slice none 0 0) := cell_of_row _ _ 3 _ _ _ HZ.out
    have zf3 : w2.frozen? ⟨w.heap.size, 3, none⟩ = false := frozen_of_row _ _ 3 _ _ HZ.out
    have HS := Lib.hid (blk_set (blk_set (blk_set (blk_set HZ.out 0 (.string ⟨#[]⟩)) 1 (.bool false)) 2 (.slice none 0 0)) 3 (.slice none 0 0))
    have HBF := Lib.hid ((((hB2.setCell (p := ⟨w.heap.size, 0, none⟩) (Nat.le_refl _) (.string ⟨#[]⟩)).setCell (p := ⟨w.heap.size, 1, none⟩) (Nat.le_refl _) (.bool false)).setCell (p := ⟨w.heap.size, 2, none⟩) (Nat.le_refl _) (.slice none 0 0)).setCell (p := ⟨w.heap.size, 3, none⟩) (Nat.le_refl _) (.slice none 0 0))
    go_wp2
    refine bodyPost_ret (results_cell2 rfl _ _ w.heap.size _ _ _ _ rfl HS.out Try.underlying35 rfl (by kernel_rfl)) rfl ?_
    exact mof_no HF.out HBF.out
  have hl60 := (toksOk_facts hv).1
  have hz1 : ((l.length : Int) == 0) = false := by simp; intro h; rw [h] at h0; exact absurd h0 (by simp)
  have hz2 : (0 : Int) < (l.length : Int) := by omega
  obtain ⟨b1, off1, fps1, rfl, hb1w, -, he1⟩ := hrow h0
  obtain ⟨nm, HNM⟩ : ∃ s : ByteArray, Hid (s = (l[0]'h0).text) := ⟨_, rfl⟩
  have HEL : Hid (∀ i, (hi : i < l.length) → ∃ hh, ElemAt w2 b1 off1 4 i [.int .i64 l[i].kind, .string l[i].text, .bool l[i].spaced, hh] ∧ okInt l[i].kind ∧ okStr l[i].text) := fun i hi => by
    obtain ⟨es, hE, hR⟩ := he1 i hi
    obtain ⟨hh, rfl, k1, k2, -⟩ := hR
    exact ⟨hh, hE.frame (hb2.block b1 hb1w), k1, k2⟩
  have hb1s : b1 < w2.heap.size := Nat.lt_of_lt_of_le hb1w hb2.size
  have hb1l : w1.heap.size ≤ w2.heap.size := hb2.size
  have okn : okStr nm := by rw [HNM.out]; obtain ⟨_, _, _, h⟩ := HEL.out 0 h0; exact h
  clear hrow he1 hb2
  have c01 : w2.cell? ⟨b1, off1 + 1, none⟩ = some (.string nm) := by
    rw [HNM.out]
    obtain ⟨hh, hE, _, _⟩ := HEL.out 0 h0
    have := elem_cell (i := 0) (j := 1) hE (by decide) rfl
    simpa using this
  have hbx := alloc_below' w2 (.cells #[.string nm, .bool false, .slice none 0 0, .slice none 0 0] 35)
  have HMX := Lib.hid (heap_alloc_new w2 (.cells #[.string nm, .bool false, .slice none 0 0, .slice none 0 0] 35))
  have hs2 : (w2.alloc (.cells #[.string nm, .bool false, .slice none 0 0, .slice none 0 0] 35)).heap.size = w2.heap.size + 1 := Array.size_push _
  have HS2 := Lib.hid hs2
  have hBX := hB2.trans (hbx.mono hB2.size)
  have HZX := Lib.hid (mbox HZ.out hbx)
  have hg0 := mlt HZ.out
  have HLX := Lib.hid ((sSlice sTok).below HLL.out hbx)
  have HVD := Lib.hid hv
  have HX1 : 1 < l.length → ((w2.alloc (.cells #[.string nm, .bool false, .slice none 0 0, .slice none 0 0] 35)).cell? ⟨b1, off1 + 4 + 1, none⟩ = some (.string (l[1]?.getD (⟨0, ⟨#[]⟩, false, []⟩ : Tok)).text) ∧ (w2.alloc (.cells #[.string nm, .bool false, .slice none 0 0, .slice none 0 0] 35)).cell? ⟨b1, off1 + 4 + 2, none⟩ = some (.bool (l[1]?.getD (⟨0, ⟨#[]⟩, false, []⟩ : Tok)).spaced)) := fun h1 => by
    obtain ⟨hh, hE, _, _⟩ := HEL.out 1 h1
    have hE' := hE.frame (hbx.block b1 hb1s)
    rw [List.getElem?_eq_getElem h1]
    exact ⟨by have := elem_cell (i := 1) (j := 1) hE' (by decide) rfl; simpa using this, by have := elem_cell (i := 1) (j := 2) hE' (by decide) rfl; simpa using this⟩
  replace HX1 := Lib.hid HX1
  clear hv hs2
  go_upto_region 6 with fail
  go_cut [41] from 25 to 41 (fun c wx => c = .bool (opens2 l) ∧ wx = (w2.alloc (.cells #[.string nm, .bool false, .slice none 0 0, .slice none 0 0] 35)))
  case first =>
    by_cases h1 : 1 < l.length
    · have h11 : (1 : Int) < (l.length : Int) := by omega
      obtain ⟨c11, c12⟩ := HX1.out h1
      rw [List.getElem?_eq_getElem h1] at c11 c12
      simp only [Option.getD_some] at c11 c12
      by_cases h2 : l[1].text = openB
      · have e2 := txt_t (l := [40]) h2
        cases h3 : l[1].spaced
        · rw [h3] at c12
          have HO := Lib.hid (op_yes h1 h2 h3)
          clear h2 h3
          go_wp2
          go_meet
          case rel => exact ⟨by rw [HO.out], rfl⟩
        · rw [h3] at c12
          have HO := Lib.hid (op_spaced h1 h3)
          clear h2 h3
          go_wp2
          go_meet
          case rel => exact ⟨by rw [HO.out], rfl⟩
      · have e2 := txt_f (l := [40]) h2
        have HO := Lib.hid (op_other h1 h2)
        clear h2
        go_wp2
        go_meet
        case rel => exact ⟨by rw [HO.out], rfl⟩
    · have h11 : ¬ (1 : Int) < (l.length : Int) := by omega
      have HO := Lib.hid (op_short h1)
      go_wp2
      go_meet
      case rel => exact ⟨by rw [HO.out], rfl⟩
  case rest =>
    obtain ⟨rfl, rfl⟩ := hcut
    go_upto_if 41 with fail
    go_cut [5] from 6 to 54 (fun c wx => ∃ (n : Nat) (fn : Bool) (ap : Option Addr) (cp : Nat) (ps : List ByteArray) (fpp : List Nat), c = .int .i64 n ∧ n ≤ l.length ∧ Hid (macOf l = macChk ⟨nm, fn, ps, bodyFrom l n⟩) ∧ Hid (wx.heap[w2.heap.size]? = some (.cells #[.string nm, .bool fn, .slice ap ps.length cp, .slice none 0 0] 35 (0, 0))) ∧ Hid ((sSlice sStr).R wx [.slice ap ps.length cp] ps fpp) ∧ Hid (Own wx (w2.heap.size + 1) fpp) ∧ Hid (Kept [w2.heap.size] (w2.alloc (.cells #[.string nm, .bool false, .slice none 0 0, .slice none 0 0] 35)) wx))
    case first =>
      have HPP := Lib.hid (spec_l5Params _ l _ _ hl60 HLX.out)
      cases ho : opens2 l
      · have HF := Lib.hid (of_plain HVD.out h0 ho)
        rw [← HNM.out] at HF
        clear ho
        go_wp2
        go_meet
        case rel => exact ⟨1, false, none, 0, [], [], rfl, by omega, HF, HMX.out, slice_empty sStr _ _ _ (by simp), Own.nil _ _, Kept.refl _ _⟩
      · have HOP := Lib.hid ho
        clear ho
        cases hp : parsOf l with
        | none =>
          unfold PMade at HPP
          rw [parRes_none hp] at HPP
          have HF := Lib.hid (of_pno HVD.out h0 HOP.out hp)
          clear hp
          go_wp2_with fail
          refine HPP.out.mono ?_
          rintro e w3 ⟨pv, fpp, rfl, -, -, hb3⟩
          have hB3 := hBX.trans (hb3.mono hBX.size)
          have HZ3 := Lib.hid (mbox HZX.out hb3)
          clear hb3
          have z0 : w3.cell? ⟨w.heap.size, 0, none⟩ = some (.string ⟨#[]⟩) := cell_of_row _ _ 0 _ _ _ HZ3.out
          have zf0 : w3.frozen? ⟨w.heap.size, 0, none⟩ = false := frozen_of_row _ _ 0 _ _ HZ3.out
          have z1 : w3.cell? ⟨w.heap.size, 1, none⟩ = some (.bool false) := cell_of_row _ _ 1 _ _ _ HZ3.out
          have zf1 : w3.frozen? ⟨w.heap.size, 1, none⟩ = false := frozen_of_row _ _ 1 _ _ HZ3.out
          have z2 : w3.cell? ⟨w.heap.size, 2, none⟩ = some (.slice none 0 0) := cell_of_row _ _ 2 _ _ _ HZ3.out
          have zf2 : w3.frozen? ⟨w.heap.size, 2, none⟩ = false := frozen_of_row _ _ 2 _ _ HZ3.out
          have z3 : w3.cell? ⟨w.heap.size, 3, none⟩ = some (.slice none 0 0) := cell_of_row _ _ 3 _ _ _ HZ3.out
          have zf3 : w3.frozen? ⟨w.heap.size, 3, none⟩ = false := frozen_of_row _ _ 3 _ _ HZ3.out
          have HS := Lib.hid (blk_set (blk_set (blk_set (blk_set HZ3.out 0 (.string ⟨#[]⟩)) 1 (.bool false)) 2 (.slice none 0 0)) 3 (.slice none 0 0))
          have HBF := Lib.hid ((((hB3.setCell (p := ⟨w.heap.size, 0, none⟩) (Nat.le_refl _) (.string ⟨#[]⟩)).setCell (p := ⟨w.heap.size, 1, none⟩) (Nat.le_refl _) (.bool false)).setCell (p := ⟨w.heap.size, 2, none⟩) (Nat.le_refl _) (.slice none 0 0)).setCell (p := ⟨w.heap.size, 3, none⟩) (Nat.le_refl _) (.slice none 0 0))
          go_wp2
          refine bodyPost_ret (results_cell2 rfl _ _ w.heap.size _ _ _ _ rfl HS.out Try.underlying35 rfl (by kernel_rfl)) rfl ?_
          exact mof_no HF.out HBF.out
        | some p =>
          obtain ⟨ps, n⟩ := p
          have hnl : n ≤ l.length := pars_le hp
          unfold PMade at HPP
          rw [parRes_some hp] at HPP
          have HF := Lib.hid (of_pars HVD.out h0 HOP.out hp)
          rw [← HNM.out] at HF
          clear hp
          go_wp2_with fail
          refine HPP.out.mono ?_
          rintro e w3 ⟨pv, fpp, rfl, hPR, hPO, hb3⟩
          rw [HS2.out] at hPO
          have HM3 := mbox HMX.out hb3
          obtain ⟨ap, cp, rfl, -⟩ := open_strs hPR
          have hn1 : w2.heap.size ∉ fpp := fun hx => by have := (hPO.2 _ hx).1; omega
          have c31 : w3.cell? ⟨w2.heap.size, 1, none⟩ = some (.bool false) := cell_of_row _ _ 1 _ _ _ HM3
          have c32 : w3.cell? ⟨w2.heap.size, 2, none⟩ = some (.slice none 0 0) := cell_of_row _ _ 2 _ _ _ HM3
          have f31 : w3.frozen? ⟨w2.heap.size, 1, none⟩ = false := frozen_of_row _ _ 1 _ _ HM3
          have f32 : w3.frozen? ⟨w2.heap.size, 2, none⟩ = false := frozen_of_row _ _ 2 _ _ HM3
          have HMF := Lib.hid (blk_set (blk_set HM3 1 (.bool true)) 2 (.slice ap ps.length cp))
          have HPF := Lib.hid ((sSlice sStr).setB ((sSlice sStr).setB hPR hn1 1 (.bool true)) hn1 2 (.slice ap ps.length cp))
          have HOF := Lib.hid ((hPO.setCell ⟨w2.heap.size, 1, none⟩ (.bool true)).setCell ⟨w2.heap.size, 2, none⟩ (.slice ap ps.length cp))
          have HKF := Lib.hid (((Kept.of_below (fp := [w2.heap.size]) hb3).setCell (p := ⟨w2.heap.size, 1, none⟩) (by simp) (.bool true)).setCell (p := ⟨w2.heap.size, 2, none⟩) (by simp) (.slice ap ps.length cp))
          have hneg : ¬ (n : Int) < 0 := by omega
          clear hPR hPO HM3 hb3 hn1
          go_wp2
          go_meet
          case rel => exact ⟨n, true, ap, cp, ps, fpp, rfl, hnl, HF, HMF.out, HPF, HOF, HKF⟩
    case rest =>
      obtain ⟨n, fn, ap, cp, ps, fpp, rfl, hn, HF, HM, HP, HO, HK⟩ := hcut
      have hsz := HK.out.size
      rw [HS2.out] at hsz
      have HBc := Lib.hid (hBX.trans (HK.out.below (lo := w.heap.size) (by intro b hb; have e : b = w2.heap.size := (by simpa using hb); omega) (by rw [HS2.out]; omega)))
      have HZc := Lib.hid ((HK.out.block w.heap.size (by rw [HS2.out]; omega) (by simp; omega)).trans HZX.out)
      have HEc : Hid (∀ i, (hi : i < l.length) → ∃ hh, ElemAt wc b1 off1 4 i [.int .i64 l[i].kind, .string l[i].text, .bool l[i].spaced, hh] ∧ okInt l[i].kind ∧ okStr l[i].text) := fun i hi => by
        obtain ⟨hh, hE, k1, k2⟩ := HEL.out i hi
        exact ⟨hh, (hE.frame (hbx.block b1 hb1s)).frame (HK.out.block b1 (by rw [HS2.out]; omega) (by simp; omega)), k1, k2⟩
      have HE0 := Lib.hid (RowE.nil sTok wc.heap.size 65 wc)
      have HPlt : Hid (∀ b ∈ fpp, b < wc.heap.size) := (sSlice sStr).lt HP.out
      have HPn : Hid (w2.heap.size ∉ fpp) := fun hx => by have := (HO.out.2 _ hx).1; omega
      clear HEL HLX HMX HZX HX1 HLL HZ hbx hBX hB1 hB2 c01 HK HVD
      go_wp2_with fail
      go_loopw [8] (fun i wr => ∃ (k : Nat) (vb : Value) (L : List (Elem Tok)), n ≤ k ∧ k ≤ l.length ∧ i = .int .i64 k ∧ Hid (L.length = k - n) ∧ Hid (wr.heap[w2.heap.size]? = some (.cells #[.string nm, .bool fn, .slice ap ps.length cp, vb] 35 (0, 0))) ∧ Hid (RowE sTok wc.heap.size 65 vb L wr) ∧ Hid (L.map (·.d) = (bodyFrom l n).take (k - n)) ∧ Hid (∀ x ∈ L, x.fp = []) ∧ Hid (Kept [w2.heap.size] wc wr)) (fun i _ => l.length - (intOf i).toNat)
      case atStart => exact ⟨n, _, [], by omega, hn, rfl, by show _ = _; simp, HM, HE0, by show _ = _; simp, by intro x hx; simp at hx, Kept.refl _ _⟩
      case round =>
        obtain ⟨k, vb, L, hnk, hkl, rfl, HLn, HMr, HE, HD, HFP, HKr⟩ := hrel
        obtain ⟨ab, cb, rfl, -⟩ := HE.out.val
        have hszr := HKr.out.size
        by_cases hlt : k < l.length
        · obtain ⟨hh, hE, ki, ks⟩ := HEc.out k hlt
          have hEr := hE.frame (HKr.out.block b1 (by omega) (by simp; omega))
          have q3 : wr.cell? ⟨w2.heap.size, 3, none⟩ = some (.slice ab L.length cb) := cell_of_row _ _ 3 _ _ _ HMr.out
          have e0 : wr.cell? ⟨b1, off1 + k * 4, none⟩ = some (.int .i64 l[k].kind) := elem_cell0 hEr (by decide) rfl
          have e1 : wr.cell? ⟨b1, off1 + k * 4 + 1, none⟩ = some (.string l[k].text) := elem_cell (j := 1) hEr (by decide) rfl
          have e2 : wr.cell? ⟨b1, off1 + k * 4 + 2, none⟩ = some (.bool l[k].spaced) := elem_cell (j := 2) hEr (by decide) rfl
          have HKI := Lib.hid (And.intro ki ks)
          have HT := Lib.hid (body_take hnk hlt)
          have HEd : Hid (RowE sTok wc.heap.size 65 (.slice ab L.length cb) L ({ wr with drawn := wr.drawn + 1 } : World)) := HE.out.same fun _ _ _ => rfl
          have hown : ∀ b, (Value.slice ab L.length cb).ownBlock = some b → wc.heap.size ≤ b := HE.out.mine
          clear hE hEr hh ki ks
          cases hsp : l[k].spaced
          · rw [hsp] at e2 HT
            clear hsp
            go_wp2
            refine wp_region_app (P := Try.prog) (by kernel_rfl) (by kernel_rfl) 23 24 26 (by kernel_rfl) (by kernel_rfl) (by decide) (by decide) rfl rfl rfl [some (.pointer (some ⟨w2.heap.size, 3, none⟩)), some (.slice ab L.length cb), some (.slice (some ⟨b1, off1, none⟩) l.length cap), some (.int .i64 (k : Int)), some (.pointer (some ⟨b1, off1 + k * 4, none⟩)), some (.pointer (some ⟨b1, off1 + k * 4, none⟩)), some (.int .i64 l[k].kind), some (.slice (some ⟨b1, off1, none⟩) l.length cap), some (.int .i64 (k : Int)), some (.pointer (some ⟨b1, off1 + k * 4, none⟩)), some (.pointer (some ⟨b1, off1 + k * 4 + 1, none⟩)), some (.string l[k].text), some (.slice (some ⟨b1, off1, none⟩) l.length cap), some (.int .i64 (k : Int)), some (.pointer (some ⟨b1, off1 + k * 4, none⟩)), some (.pointer (some ⟨b1, off1 + k * 4 + 2, none⟩)), some (.bool false), some (.bool false), none, none, none, some (.bool false), some (.agg #[.int .i64 l[k].kind, .string l[k].text, .bool false, .slice none 0 0]), none, none, some (.pointer (some ⟨w2.heap.size, 3, none⟩)), none] (.slice (some ⟨wr.heap.size, 0, none⟩) 1 1) ((({ wr with drawn := wr.drawn + 1 } : World).alloc (.cells #[.int .i64 l[k].kind, .string l[k].text, .bool false, .slice none 0 0] 65))) (fun v u => RowE sTok wc.heap.size 65 v (L ++ [(⟨[.int .i64 l[k].kind, .string l[k].text, .bool false, .slice none 0 0], ⟨l[k].kind, l[k].text, false, []⟩, []⟩ : Elem Tok)]) u ∧ ({ wr with drawn := wr.drawn + 1 } : World).grownBy u (Value.slice ab L.length cb).ownBlock) (fun v u => ∃ u2, (RowE sTok wc.heap.size 65 v (L ++ [(⟨[.int .i64 l[k].kind, .string l[k].text, .bool false, .slice none 0 0], ⟨l[k].kind, l[k].text, false, []⟩, []⟩ : Elem Tok)]) u2 ∧ ({ wr with drawn := wr.drawn + 1 } : World).grownBy u2 (Value.slice ab L.length cb).ownBlock) ∧ u = u2.setCell ⟨w2.heap.size, 3, none⟩ v) (fun u => u.cell? ⟨w2.heap.size, 3, none⟩ = some (.slice ab L.length cb) ∧ u.cell? ⟨b1, off1 + k * 4, none⟩ = some (.int .i64 l[k].kind) ∧ u.cell? ⟨b1, off1 + k * 4 + 1, none⟩ = some (.string l[k].text) ∧ u.cell? ⟨b1, off1 + k * 4 + 2, none⟩ = some (.bool false)) ?b0 ?b1 ?b2 (cons_all ⟨.inr (.inr (.inr ?s0)), .inr (.inr (.inr ?s1)), .inr (.inr (.inr ?s2)), .inr (.inr (.inr ?s3)), .inr (.inr (.inr ?s4)), .inr (.inr (.inr ?s5)), .inr (.inr (.inr ?s6)), .inr (.inr (.inr ?s7)), .inr (.inr (.inr ?s8)), .inr (.inr (.inr ?s9)), .inr (.inr (.inr ?s10)), .inr (.inr (.inr ?s11)), .inr (.inr (.inr ?s12)), .inr (.inr (.inr ?s13)), .inr (.inr (.inr ?s14)), .inr (.inr (.inr ?s15)), .inr (.inr (.inr ?s16)), .inr (.inr (.inr ?s17)), .inr (.inr (.inr ?s18)), .inr (.inr (.inr ?s19)), .inr (.inr (.inr ?s20)), .inr (.inr (.inr ?s21)), .inr (.inr (.inr ?s22)), .inl rfl, .inr (.inl rfl), .inr (.inr (.inr ?s25)), .inr (.inr (.inl rfl)), trivial⟩) ?sA ?sB ?sC ?done
            case b0 =>
              exact ⟨q3, e0, e1, e2⟩
            case b1 =>
              have hbb := alloc_below' ({ wr with drawn := wr.drawn + 1 } : World) (.cells #[.int .i64 l[k].kind, .string l[k].text, .bool false, .slice none 0 0] 65)
              exact ⟨(hbb.cell (p := ⟨w2.heap.size, 3, none⟩) (show w2.heap.size < wr.heap.size by omega)).trans q3, (hbb.cell (p := ⟨b1, off1 + k * 4, none⟩) (show b1 < wr.heap.size by omega)).trans e0, (hbb.cell (p := ⟨b1, off1 + k * 4 + 1, none⟩) (show b1 < wr.heap.size by omega)).trans e1, (hbb.cell (p := ⟨b1, off1 + k * 4 + 2, none⟩) (show b1 < wr.heap.size by omega)).trans e2⟩
            case b2 =>
              rintro v u ⟨-, hg⟩
              have kb : ∀ b, b < wc.heap.size → u.heap[b]? = wr.heap[b]? := fun b hb => hg.block b (show b < wr.heap.size by omega) (fun he => by have := hown b he.symm; omega)
              exact ⟨(World.cell?_of_block (a := ⟨w2.heap.size, 3, none⟩) (kb w2.heap.size (by omega))).trans q3, (World.cell?_of_block (a := ⟨b1, off1 + k * 4, none⟩) (kb b1 (by omega))).trans e0, (World.cell?_of_block (a := ⟨b1, off1 + k * 4 + 1, none⟩) (kb b1 (by omega))).trans e1, (World.cell?_of_block (a := ⟨b1, off1 + k * 4 + 2, none⟩) (kb b1 (by omega))).trans e2⟩
            case s0 =>
              intro xs w' hl _ hd hB K hK
              obtain ⟨x0, x1, x2, x3, x4, x5, x6, x7, x8, x9, x10, x11, x12, x13, x14, x15, x16, x17, x18, x19, x20, x21, x22, x23, x24, x25, x26, rfl⟩ := len27 hl
              obtain ⟨q3, e0, e1, e2⟩ := hB
              clear hd
              simp only [fill, Act.put, List.map_cons, List.map_nil, List.setIfInBounds_toArray, List.set_cons_succ, List.set_cons_zero] at hK ⊢
              go_wp2
              exact hK _ (fun u hu => by simpa using hu)
            case s1 =>
              intro xs w' hl _ hd hB K hK
              obtain ⟨x0, x1, x2, x3, x4, x5, x6, x7, x8, x9, x10, x11, x12, x13, x14, x15, x16, x17, x18, x19, x20, x21, x22, x23, x24, x25, x26, rfl⟩ := len27 hl
              obtain rfl : x0 = .pointer (some ⟨w2.heap.size, 3, none⟩) := by simpa using hd ⟨0, .data⟩ (by simp) rfl (by decide) (by decide) (by decide) _ rfl
              obtain ⟨q3, e0, e1, e2⟩ := hB
              clear hd
              simp only [fill, Act.put, List.map_cons, List.map_nil, List.setIfInBounds_toArray, List.set_cons_succ, List.set_cons_zero] at hK ⊢
              go_wp2
              exact hK _ (fun u hu => by simpa using hu)
            case s2 =>
              intro xs w' hl _ hd hB K hK
              obtain ⟨x0, x1, x2, x3, x4, x5, x6, x7, x8, x9, x10, x11, x12, x13, x14, x15, x16, x17, x18, x19, x20, x21, x22, x23, x24, x25, x26, rfl⟩ := len27 hl
              obtain ⟨q3, e0, e1, e2⟩ := hB
              clear hd
              simp only [fill, Act.put, List.map_cons, List.map_nil, List.setIfInBounds_toArray, List.set_cons_succ, List.set_cons_zero] at hK ⊢
              go_wp2
              exact hK _ (fun u hu => by simpa using hu)
            case s3 =>
              intro xs w' hl _ hd hB K hK
              obtain ⟨x0, x1, x2, x3, x4, x5, x6, x7, x8, x9, x10, x11, x12, x13, x14, x15, x16, x17, x18, x19, x20, x21, x22, x23, x24, x25, x26, rfl⟩ := len27 hl
              obtain ⟨q3, e0, e1, e2⟩ := hB
              clear hd
              simp only [fill, Act.put, List.map_cons, List.map_nil, List.setIfInBounds_toArray, List.set_cons_succ, List.set_cons_zero] at hK ⊢
              go_wp2
              exact hK _ (fun u hu => by simpa using hu)
            case s4 =>
              intro xs w' hl _ hd hB K hK
              obtain ⟨x0, x1, x2, x3, x4, x5, x6, x7, x8, x9, x10, x11, x12, x13, x14, x15, x16, x17, x18, x19, x20, x21, x22, x23, x24, x25, x26, rfl⟩ := len27 hl
              obtain rfl : x2 = .slice (some ⟨b1, off1, none⟩) l.length cap := by simpa using hd ⟨2, .data⟩ (by simp) rfl (by decide) (by decide) (by decide) _ rfl
              obtain rfl : x3 = .int .i64 (k : Int) := by simpa using hd ⟨3, .data⟩ (by simp) rfl (by decide) (by decide) (by decide) _ rfl
              obtain ⟨q3, e0, e1, e2⟩ := hB
              clear hd
              simp only [fill, Act.put, List.map_cons, List.map_nil, List.setIfInBounds_toArray, List.set_cons_succ, List.set_cons_zero] at hK ⊢
              go_wp2
              exact hK _ (fun u hu => by simpa using hu)
            case s5 =>
              intro xs w' hl _ hd hB K hK
              obtain ⟨x0, x1, x2, x3, x4, x5, x6, x7, x8, x9, x10, x11, x12, x13, x14, x15, x16, x17, x18, x19, x20, x21, x22, x23, x24, x25, x26, rfl⟩ := len27 hl
              obtain rfl : x4 = .pointer (some ⟨b1, off1 + k * 4, none⟩) := by simpa using hd ⟨4, .data⟩ (by simp) rfl (by decide) (by decide) (by decide) _ rfl
              obtain ⟨q3, e0, e1, e2⟩ := hB
              clear hd
              simp only [fill, Act.put, List.map_cons, List.map_nil, List.setIfInBounds_toArray, List.set_cons_succ, List.set_cons_zero] at hK ⊢
              go_wp2
              exact hK _ (fun u hu => by simpa using hu)
            case s6 =>
              intro xs w' hl _ hd hB K hK
              obtain ⟨x0, x1, x2, x3, x4, x5, x6, x7, x8, x9, x10, x11, x12, x13, x14, x15, x16, x17, x18, x19, x20, x21, x22, x23, x24, x25, x26, rfl⟩ := len27 hl
              obtain rfl : x5 = .pointer (some ⟨b1, off1 + k * 4, none⟩) := by simpa using hd ⟨5, .data⟩ (by simp) rfl (by decide) (by decide) (by decide) _ rfl
              obtain ⟨q3, e0, e1, e2⟩ := hB
              clear hd
              simp only [fill, Act.put, List.map_cons, List.map_nil, List.setIfInBounds_toArray, List.set_cons_succ, List.set_cons_zero] at hK ⊢
              go_wp2
              exact hK _ (fun u hu => by simpa using hu)
            case s7 =>
              intro xs w' hl _ hd hB K hK
              obtain ⟨x0, x1, x2, x3, x4, x5, x6, x7, x8, x9, x10, x11, x12, x13, x14, x15, x16, x17, x18, x19, x20, x21, x22, x23, x24, x25, x26, rfl⟩ := len27 hl
              obtain ⟨q3, e0, e1, e2⟩ := hB
              clear hd
              simp only [fill, Act.put, List.map_cons, List.map_nil, List.setIfInBounds_toArray, List.set_cons_succ, List.set_cons_zero] at hK ⊢
              go_wp2
              exact hK _ (fun u hu => by simpa using hu)
            case s8 =>
              intro xs w' hl _ hd hB K hK
              obtain ⟨x0, x1, x2, x3, x4, x5, x6, x7, x8, x9, x10, x11, x12, x13, x14, x15, x16, x17, x18, x19, x20, x21, x22, x23, x24, x25, x26, rfl⟩ := len27 hl
              obtain ⟨q3, e0, e1, e2⟩ := hB
              clear hd
              simp only [fill, Act.put, List.map_cons, List.map_nil, List.setIfInBounds_toArray, List.set_cons_succ, List.set_cons_zero] at hK ⊢
              go_wp2
              exact hK _ (fun u hu => by simpa using hu)
            case s9 =>
              intro xs w' hl _ hd hB K hK
              obtain ⟨x0, x1, x2, x3, x4, x5, x6, x7, x8, x9, x10, x11, x12, x13, x14, x15, x16, x17, x18, x19, x20, x21, x22, x23, x24, x25, x26, rfl⟩ := len27 hl
              obtain rfl : x7 = .slice (some ⟨b1, off1, none⟩) l.length cap := by simpa using hd ⟨7, .data⟩ (by simp) rfl (by decide) (by decide) (by decide) _ rfl
              obtain rfl : x8 = .int .i64 (k : Int) := by simpa using hd ⟨8, .data⟩ (by simp) rfl (by decide) (by decide) (by decide) _ rfl
              obtain ⟨q3, e0, e1, e2⟩ := hB
              clear hd
              simp only [fill, Act.put, List.map_cons, List.map_nil, List.setIfInBounds_toArray, List.set_cons_succ, List.set_cons_zero] at hK ⊢
              go_wp2
              exact hK _ (fun u hu => by simpa using hu)
            case s10 =>
              intro xs w' hl _ hd hB K hK
              obtain ⟨x0, x1, x2, x3, x4, x5, x6, x7, x8, x9, x10, x11, x12, x13, x14, x15, x16, x17, x18, x19, x20, x21, x22, x23, x24, x25, x26, rfl⟩ := len27 hl
              obtain rfl : x9 = .pointer (some ⟨b1, off1 + k * 4, none⟩) := by simpa using hd ⟨9, .data⟩ (by simp) rfl (by decide) (by decide) (by decide) _ rfl
              obtain ⟨q3, e0, e1, e2⟩ := hB
              clear hd
              simp only [fill, Act.put, List.map_cons, List.map_nil, List.setIfInBounds_toArray, List.set_cons_succ, List.set_cons_zero] at hK ⊢
              go_wp2
              exact hK _ (fun u hu => by simpa using hu)
            case s11 =>
              intro xs w' hl _ hd hB K hK
              obtain ⟨x0, x1, x2, x3, x4, x5, x6, x7, x8, x9, x10, x11, x12, x13, x14, x15, x16, x17, x18, x19, x20, x21, x22, x23, x24, x25, x26, rfl⟩ := len27 hl
              obtain rfl : x10 = .pointer (some ⟨b1, off1 + k * 4 + 1, none⟩) := by simpa using hd ⟨10, .data⟩ (by simp) rfl (by decide) (by decide) (by decide) _ rfl
              obtain ⟨q3, e0, e1, e2⟩ := hB
              clear hd
              simp only [fill, Act.put, List.map_cons, List.map_nil, List.setIfInBounds_toArray, List.set_cons_succ, List.set_cons_zero] at hK ⊢
              go_wp2
              exact hK _ (fun u hu => by simpa using hu)
            case s12 =>
              intro xs w' hl _ hd hB K hK
              obtain ⟨x0, x1, x2, x3, x4, x5, x6, x7, x8, x9, x10, x11, x12, x13, x14, x15, x16, x17, x18, x19, x20, x21, x22, x23, x24, x25, x26, rfl⟩ := len27 hl
              obtain ⟨q3, e0, e1, e2⟩ := hB
              clear hd
              simp only [fill, Act.put, List.map_cons, List.map_nil, List.setIfInBounds_toArray, List.set_cons_succ, List.set_cons_zero] at hK ⊢
              go_wp2
              exact hK _ (fun u hu => by simpa using hu)
            case s13 =>
              intro xs w' hl _ hd hB K hK
              obtain ⟨x0, x1, x2, x3, x4, x5, x6, x7, x8, x9, x10, x11, x12, x13, x14, x15, x16, x17, x18, x19, x20, x21, x22, x23, x24, x25, x26, rfl⟩ := len27 hl
              obtain ⟨q3, e0, e1, e2⟩ := hB
              clear hd
              simp only [fill, Act.put, List.map_cons, List.map_nil, List.setIfInBounds_toArray, List.set_cons_succ, List.set_cons_zero] at hK ⊢
              go_wp2
              exact hK _ (fun u hu => by simpa using hu)
            case s14 =>
              intro xs w' hl _ hd hB K hK
              obtain ⟨x0, x1, x2, x3, x4, x5, x6, x7, x8, x9, x10, x11, x12, x13, x14, x15, x16, x17, x18, x19, x20, x21, x22, x23, x24, x25, x26, rfl⟩ := len27 hl
              obtain rfl : x12 = .slice (some ⟨b1, off1, none⟩) l.length cap := by simpa using hd ⟨12, .data⟩ (by simp) rfl (by decide) (by decide) (by decide) _ rfl
              obtain rfl : x13 = .int .i64 (k : Int) := by simpa using hd ⟨13, .data⟩ (by simp) rfl (by decide) (by decide) (by decide) _ rfl
              obtain ⟨q3, e0, e1, e2⟩ := hB
              clear hd
              simp only [fill, Act.put, List.map_cons, List.map_nil, List.setIfInBounds_toArray, List.set_cons_succ, List.set_cons_zero] at hK ⊢
              go_wp2
              exact hK _ (fun u hu => by simpa using hu)
            case s15 =>
              intro xs w' hl _ hd hB K hK
              obtain ⟨x0, x1, x2, x3, x4, x5, x6, x7, x8, x9, x10, x11, x12, x13, x14, x15, x16, x17, x18, x19, x20, x21, x22, x23, x24, x25, x26, rfl⟩ := len27 hl
              obtain rfl : x14 = .pointer (some ⟨b1, off1 + k * 4, none⟩) := by simpa using hd ⟨14, .data⟩ (by simp) rfl (by decide) (by decide) (by decide) _ rfl
              obtain ⟨q3, e0, e1, e2⟩ := hB
              clear hd
              simp only [fill, Act.put, List.map_cons, List.map_nil, List.setIfInBounds_toArray, List.set_cons_succ, List.set_cons_zero] at hK ⊢
              go_wp2
              exact hK _ (fun u hu => by simpa using hu)
            case s16 =>
              intro xs w' hl _ hd hB K hK
              obtain ⟨x0, x1, x2, x3, x4, x5, x6, x7, x8, x9, x10, x11, x12, x13, x14, x15, x16, x17, x18, x19, x20, x21, x22, x23, x24, x25, x26, rfl⟩ := len27 hl
              obtain rfl : x15 = .pointer (some ⟨b1, off1 + k * 4 + 2, none⟩) := by simpa using hd ⟨15, .data⟩ (by simp) rfl (by decide) (by decide) (by decide) _ rfl
              obtain ⟨q3, e0, e1, e2⟩ := hB
              clear hd
              simp only [fill, Act.put, List.map_cons, List.map_nil, List.setIfInBounds_toArray, List.set_cons_succ, List.set_cons_zero] at hK ⊢
              go_wp2
              exact hK _ (fun u hu => by simpa using hu)
            case s17 =>
              intro xs w' hl _ hd hB K hK
              obtain ⟨x0, x1, x2, x3, x4, x5, x6, x7, x8, x9, x10, x11, x12, x13, x14, x15, x16, x17, x18, x19, x20, x21, x22, x23, x24, x25, x26, rfl⟩ := len27 hl
              obtain rfl : x16 = .bool false := by simpa using hd ⟨16, .data⟩ (by simp) rfl (by decide) (by decide) (by decide) _ rfl
              obtain ⟨q3, e0, e1, e2⟩ := hB
              clear hd
              simp only [fill, Act.put, List.map_cons, List.map_nil, List.setIfInBounds_toArray, List.set_cons_succ, List.set_cons_zero] at hK ⊢
              go_wp2
              exact hK _ (fun u hu => by simpa using hu)
            case s18 =>
              intro xs w' hl hold hd hB K hK
              clear hold
              have f17 : xs[17]? = some (.bool false) := hd ⟨17, .guard⟩ (by simp) rfl (by decide) (by decide) (by decide) _ rfl
              clear hd
              obtain ⟨x0, x1, x2, x3, x4, x5, x6, x7, x8, x9, x10, x11, x12, x13, x14, x15, x16, x17, x18, x19, x20, x21, x22, x23, x24, x25, x26, hxs⟩ := len27 hl
              have g17 : x17 = .bool false := by rw [hxs] at f17; simpa using f17
              rw [g17] at hxs
              clear hl f17 g17
              refine sw_skip ?_ (hK _ (fun u hu => by simp at hu))
              rw [hxs]
              kernel_rfl
            case s19 =>
              intro xs w' hl hold hd hB K hK
              clear hold
              have f17 : xs[17]? = some (.bool false) := hd ⟨17, .guard⟩ (by simp) rfl (by decide) (by decide) (by decide) _ rfl
              clear hd
              obtain ⟨x0, x1, x2, x3, x4, x5, x6, x7, x8, x9, x10, x11, x12, x13, x14, x15, x16, x17, x18, x19, x20, x21, x22, x23, x24, x25, x26, hxs⟩ := len27 hl
              have g17 : x17 = .bool false := by rw [hxs] at f17; simpa using f17
              rw [g17] at hxs
              clear hl f17 g17
              refine sw_skip ?_ (hK _ (fun u hu => by simp at hu))
              rw [hxs]
              kernel_rfl
            case s20 =>
              intro xs w' hl hold hd hB K hK
              clear hold
              have f17 : xs[17]? = some (.bool false) := hd ⟨17, .guard⟩ (by simp) rfl (by decide) (by decide) (by decide) _ rfl
              clear hd
              obtain ⟨x0, x1, x2, x3, x4, x5, x6, x7, x8, x9, x10, x11, x12, x13, x14, x15, x16, x17, x18, x19, x20, x21, x22, x23, x24, x25, x26, hxs⟩ := len27 hl
              have g17 : x17 = .bool false := by rw [hxs] at f17; simpa using f17
              rw [g17] at hxs
              clear hl f17 g17
              refine sw_skip ?_ (hK _ (fun u hu => by simp at hu))
              rw [hxs]
              kernel_rfl
            case s21 =>
              intro xs w' hl _ hd hB K hK
              obtain ⟨x0, x1, x2, x3, x4, x5, x6, x7, x8, x9, x10, x11, x12, x13, x14, x15, x16, x17, x18, x19, x20, x21, x22, x23, x24, x25, x26, rfl⟩ := len27 hl
              obtain rfl : x17 = .bool false := by simpa using hd ⟨17, .data⟩ (by simp) rfl (by decide) (by decide) (by decide) _ rfl
              obtain ⟨q3, e0, e1, e2⟩ := hB
              clear hd
              simp only [fill, Act.put, List.map_cons, List.map_nil, List.setIfInBounds_toArray, List.set_cons_succ, List.set_cons_zero] at hK ⊢
              go_wp2
              exact hK _ (fun u hu => by simpa using hu)
            case s22 =>
              intro xs w' hl _ hd hB K hK
              obtain ⟨x0, x1, x2, x3, x4, x5, x6, x7, x8, x9, x10, x11, x12, x13, x14, x15, x16, x17, x18, x19, x20, x21, x22, x23, x24, x25, x26, rfl⟩ := len27 hl
              obtain rfl : x6 = .int .i64 l[k].kind := by simpa using hd ⟨6, .data⟩ (by simp) rfl (by decide) (by decide) (by decide) _ rfl
              obtain rfl : x11 = .string l[k].text := by simpa using hd ⟨11, .data⟩ (by simp) rfl (by decide) (by decide) (by decide) _ rfl
              obtain rfl : x21 = .bool false := by simpa using hd ⟨21, .data⟩ (by simp) rfl (by decide) (by decide) (by decide) _ rfl
              obtain ⟨q3, e0, e1, e2⟩ := hB
              clear hd
              simp only [fill, Act.put, List.map_cons, List.map_nil, List.setIfInBounds_toArray, List.set_cons_succ, List.set_cons_zero] at hK ⊢
              go_wp2
              exact hK _ (fun u hu => by simpa using hu)
            case s25 =>
              intro xs w' hl _ hd hB K hK
              obtain ⟨x0, x1, x2, x3, x4, x5, x6, x7, x8, x9, x10, x11, x12, x13, x14, x15, x16, x17, x18, x19, x20, x21, x22, x23, x24, x25, x26, rfl⟩ := len27 hl
              obtain ⟨q3, e0, e1, e2⟩ := hB
              clear hd
              simp only [fill, Act.put, List.map_cons, List.map_nil, List.setIfInBounds_toArray, List.set_cons_succ, List.set_cons_zero] at hK ⊢
              go_wp2
              exact hK _ (fun u hu => by simpa using hu)
            case sA =>
              intro xs hl hd K hK
              obtain ⟨x0, x1, x2, x3, x4, x5, x6, x7, x8, x9, x10, x11, x12, x13, x14, x15, x16, x17, x18, x19, x20, x21, x22, x23, x24, x25, x26, rfl⟩ := len27 hl
              obtain rfl : x22 = .agg #[.int .i64 l[k].kind, .string l[k].text, .bool false, .slice none 0 0] := by simpa using hd ⟨22, .data⟩ (by simp) rfl (by decide) (by decide) (by decide) _ rfl
              clear hd
              simp only [fill, Act.put, List.map_cons, List.map_nil, List.setIfInBounds_toArray, List.set_cons_succ, List.set_cons_zero] at hK ⊢
              go_wp2
              exact hK
            case sB =>
              intro xs hl hd hva K hK
              obtain ⟨x0, x1, x2, x3, x4, x5, x6, x7, x8, x9, x10, x11, x12, x13, x14, x15, x16, x17, x18, x19, x20, x21, x22, x23, x24, x25, x26, rfl⟩ := len27 hl
              obtain rfl : x1 = .slice ab L.length cb := by simpa using hd ⟨1, .data⟩ (by simp) rfl (by decide) (by decide) (by decide) _ rfl
              obtain rfl : x23 = .slice (some ⟨wr.heap.size, 0, none⟩) 1 1 := by simpa using hva
              clear hd
              simp only [fill, Act.put, List.map_cons, List.map_nil, List.setIfInBounds_toArray, List.set_cons_succ, List.set_cons_zero] at hK ⊢
              refine wp_append_tokE rfl (.tmp 62) (.tmp 84) rfl wc.heap.size (.slice ab L.length cb) L rfl HEd.out l[k].kind l[k].text false none 0 0 [] [] rfl ⟨_, rfl, HKI.out.1, HKI.out.2, slice_empty sStr _ _ _ (by simp)⟩ (by simp) (by simp) (by have := HLn.out; omega) (by show wc.heap.size ≤ wr.heap.size; omega) ?_
              intro v' u' h1 h2
              exact hK v' u' ⟨h1, h2⟩
            case sC =>
              intro xs v w2u hl hd hvb hApp K hK
              obtain ⟨x0, x1, x2, x3, x4, x5, x6, x7, x8, x9, x10, x11, x12, x13, x14, x15, x16, x17, x18, x19, x20, x21, x22, x23, x24, x25, x26, rfl⟩ := len27 hl
              obtain rfl : x25 = .pointer (some ⟨w2.heap.size, 3, none⟩) := by simpa using hd ⟨25, .data⟩ (by simp) rfl (by decide) (by decide) (by decide) _ rfl
              obtain rfl : x24 = v := by simpa using hvb
              clear hd
              simp only [fill, Act.put, List.map_cons, List.map_nil, List.setIfInBounds_toArray, List.set_cons_succ, List.set_cons_zero] at hK ⊢
              obtain ⟨hA, hg⟩ := hApp
              obtain ⟨av, cv, hvv, -⟩ := hA.val
              rw [List.length_append, show ([(⟨[.int .i64 l[k].kind, .string l[k].text, .bool false, .slice none 0 0], ⟨l[k].kind, l[k].text, false, []⟩, []⟩ : Elem Tok)] : List (Elem Tok)).length = 1 from rfl] at hvv
              subst hvv
              have hMu := (hg.block w2.heap.size (show w2.heap.size < wr.heap.size by omega) (fun he => by have := hown _ he.symm; omega)).trans HMr.out
              have c3 : w2u.cell? ⟨w2.heap.size, 3, none⟩ = some (.slice ab L.length cb) := cell_of_row _ _ 3 _ _ _ hMu
              have f3 : w2u.frozen? ⟨w2.heap.size, 3, none⟩ = false := frozen_of_row _ _ 3 _ _ hMu
              go_wp2
              exact hK undef _ ⟨_, ⟨hA, hg⟩, rfl⟩
            case done =>
              intro xs v w3 hl hd hva hvb hFin
              obtain ⟨x0, x1, x2, x3, x4, x5, x6, x7, x8, x9, x10, x11, x12, x13, x14, x15, x16, x17, x18, x19, x20, x21, x22, x23, x24, x25, x26, rfl⟩ := len27 hl
              clear hd hva hvb
              simp only [fill, Act.put, List.map_cons, List.map_nil, List.setIfInBounds_toArray, List.set_cons_succ, List.set_cons_zero]
              obtain ⟨u, ⟨hA, hg⟩, rfl⟩ := hFin
              have kb : ∀ b, b < wr.heap.size → (Value.slice ab L.length cb).ownBlock ≠ some b → u.heap[b]? = wr.heap[b]? := fun b hb hn => hg.block b (show b < wr.heap.size by omega) (fun he => hn he.symm)
              have hMu := (kb w2.heap.size (by omega) (fun he => by have := hown _ he; omega)).trans HMr.out
              have HM6 := Lib.hid (blk_set hMu 3 v)
              have HE6 := Lib.hid (hA.same (w' := u.setCell ⟨w2.heap.size, 3, none⟩ v) fun b hb hl => Below.heap_setCell _ _ _ _ (by show b ≠ w2.heap.size; omega))
              have hus : wr.heap.size ≤ u.heap.size := hg.size
              have HK6 : Hid (Kept [w2.heap.size] wc (u.setCell ⟨w2.heap.size, 3, none⟩ v)) := ⟨by have h1 : u.os = wr.os := hg.os; exact h1.trans HKr.out.os, by have h1 : u.tape = wr.tape := hg.tape; exact h1.trans HKr.out.tape, by have h1 : u.output = wr.output := hg.output; exact h1.trans HKr.out.output, by rw [size_setCell]; omega, fun b hb hn => by
                have hne : b ≠ w2.heap.size := by simpa using hn
                exact (Below.heap_setCell _ _ _ _ hne).trans ((kb b (by omega) (fun he => by have := hown _ he; omega)).trans (HKr.out.block b hb hn))⟩
              have HL6 : Hid ((L ++ [(⟨[.int .i64 l[k].kind, .string l[k].text, .bool false, .slice none 0 0], ⟨l[k].kind, l[k].text, false, []⟩, []⟩ : Elem Tok)]).length = k + 1 - n) := by show _ = _; rw [List.length_append, HLn.out]; show _ + 1 = _; omega
              have HD6 : Hid ((L ++ [(⟨[.int .i64 l[k].kind, .string l[k].text, .bool false, .slice none 0 0], ⟨l[k].kind, l[k].text, false, []⟩, []⟩ : Elem Tok)]).map (·.d) = (bodyFrom l n).take (k + 1 - n)) := by show _ = _; rw [HT.out, List.map_append, HD.out]; simp
              have HF6 : Hid (∀ x ∈ L ++ [(⟨[.int .i64 l[k].kind, .string l[k].text, .bool false, .slice none 0 0], ⟨l[k].kind, l[k].text, false, []⟩, []⟩ : Elem Tok)], x.fp = []) := fun x hx => by
                rcases List.mem_append.1 hx with h | h
                · exact HFP.out x h
                · obtain rfl := List.mem_singleton.1 h; rfl
              clear hA hg kb hMu HMr HE HD HFP HKr HLn HT q3 e0 e1 e2
              go_wp2
              go_roundw
              case rel => exact ⟨k + 1, v, _, by omega, by omega, by go_num, HL6, HM6, HE6, HD6, HF6, HK6⟩
              case measure => simp [intOf]; omega
          · rw [hsp] at e2 HT
            clear hsp
            go_wp2
            refine wp_region_app (P := Try.prog) (by kernel_rfl) (by kernel_rfl) 23 24 26 (by kernel_rfl) (by kernel_rfl) (by decide) (by decide) rfl rfl rfl [some (.pointer (some ⟨w2.heap.size, 3, none⟩)), some (.slice ab L.length cb), some (.slice (some ⟨b1, off1, none⟩) l.length cap), some (.int .i64 (k : Int)), some (.pointer (some ⟨b1, off1 + k * 4, none⟩)), some (.pointer (some ⟨b1, off1 + k * 4, none⟩)), some (.int .i64 l[k].kind), some (.slice (some ⟨b1, off1, none⟩) l.length cap), some (.int .i64 (k : Int)), some (.pointer (some ⟨b1, off1 + k * 4, none⟩)), some (.pointer (some ⟨b1, off1 + k * 4 + 1, none⟩)), some (.string l[k].text), some (.slice (some ⟨b1, off1, none⟩) l.length cap), some (.int .i64 (k : Int)), some (.pointer (some ⟨b1, off1 + k * 4, none⟩)), some (.pointer (some ⟨b1, off1 + k * 4 + 2, none⟩)), some (.bool true), some (.bool true), some (.int .i64 (k : Int)), some (.int .i64 (n : Int)), some (.bool (decide (n < k))), some (.bool (decide (n < k))), some (.agg #[.int .i64 l[k].kind, .string l[k].text, .bool (decide (n < k)), .slice none 0 0]), none, none, some (.pointer (some ⟨w2.heap.size, 3, none⟩)), none] (.slice (some ⟨wr.heap.size, 0, none⟩) 1 1) ((({ wr with drawn := wr.drawn + 1 } : World).alloc (.cells #[.int .i64 l[k].kind, .string l[k].text, .bool (decide (n < k)), .slice none 0 0] 65))) (fun v u => RowE sTok wc.heap.size 65 v (L ++ [(⟨[.int .i64 l[k].kind, .string l[k].text, .bool (decide (n < k)), .slice none 0 0], ⟨l[k].kind, l[k].text, (decide (n < k)), []⟩, []⟩ : Elem Tok)]) u ∧ ({ wr with drawn := wr.drawn + 1 } : World).grownBy u (Value.slice ab L.length cb).ownBlock) (fun v u => ∃ u2, (RowE sTok wc.heap.size 65 v (L ++ [(⟨[.int .i64 l[k].kind, .string l[k].text, .bool (decide (n < k)), .slice none 0 0], ⟨l[k].kind, l[k].text, (decide (n < k)), []⟩, []⟩ : Elem Tok)]) u2 ∧ ({ wr with drawn := wr.drawn + 1 } : World).grownBy u2 (Value.slice ab L.length cb).ownBlock) ∧ u = u2.setCell ⟨w2.heap.size, 3, none⟩ v) (fun u => u.cell? ⟨w2.heap.size, 3, none⟩ = some (.slice ab L.length cb) ∧ u.cell? ⟨b1, off1 + k * 4, none⟩ = some (.int .i64 l[k].kind) ∧ u.cell? ⟨b1, off1 + k * 4 + 1, none⟩ = some (.string l[k].text) ∧ u.cell? ⟨b1, off1 + k * 4 + 2, none⟩ = some (.bool true)) ?b0 ?b1 ?b2 (cons_all ⟨.inr (.inr (.inr ?s0)), .inr (.inr (.inr ?s1)), .inr (.inr (.inr ?s2)), .inr (.inr (.inr ?s3)), .inr (.inr (.inr ?s4)), .inr (.inr (.inr ?s5)), .inr (.inr (.inr ?s6)), .inr (.inr (.inr ?s7)), .inr (.inr (.inr ?s8)), .inr (.inr (.inr ?s9)), .inr (.inr (.inr ?s10)), .inr (.inr (.inr ?s11)), .inr (.inr (.inr ?s12)), .inr (.inr (.inr ?s13)), .inr (.inr (.inr ?s14)), .inr (.inr (.inr ?s15)), .inr (.inr (.inr ?s16)), .inr (.inr (.inr ?s17)), .inr (.inr (.inr ?s18)), .inr (.inr (.inr ?s19)), .inr (.inr (.inr ?s20)), .inr (.inr (.inr ?s21)), .inr (.inr (.inr ?s22)), .inl rfl, .inr (.inl rfl), .inr (.inr (.inr ?s25)), .inr (.inr (.inl rfl)), trivial⟩) ?sA ?sB ?sC ?done
            case b0 =>
              exact ⟨q3, e0, e1, e2⟩
            case b1 =>
              have hbb := alloc_below' ({ wr with drawn := wr.drawn + 1 } : World) (.cells #[.int .i64 l[k].kind, .string l[k].text, .bool (decide (n < k)), .slice none 0 0] 65)
              exact ⟨(hbb.cell (p := ⟨w2.heap.size, 3, none⟩) (show w2.heap.size < wr.heap.size by omega)).trans q3, (hbb.cell (p := ⟨b1, off1 + k * 4, none⟩) (show b1 < wr.heap.size by omega)).trans e0, (hbb.cell (p := ⟨b1, off1 + k * 4 + 1, none⟩) (show b1 < wr.heap.size by omega)).trans e1, (hbb.cell (p := ⟨b1, off1 + k * 4 + 2, none⟩) (show b1 < wr.heap.size by omega)).trans e2⟩
            case b2 =>
              rintro v u ⟨-, hg⟩
              have kb : ∀ b, b < wc.heap.size → u.heap[b]? = wr.heap[b]? := fun b hb => hg.block b (show b < wr.heap.size by omega) (fun he => by have := hown b he.symm; omega)
              exact ⟨(World.cell?_of_block (a := ⟨w2.heap.size, 3, none⟩) (kb w2.heap.size (by omega))).trans q3, (World.cell?_of_block (a := ⟨b1, off1 + k * 4, none⟩) (kb b1 (by omega))).trans e0, (World.cell?_of_block (a := ⟨b1, off1 + k * 4 + 1, none⟩) (kb b1 (by omega))).trans e1, (World.cell?_of_block (a := ⟨b1, off1 + k * 4 + 2, none⟩) (kb b1 (by omega))).trans e2⟩
            case s0 =>
              intro xs w' hl _ hd hB K hK
              obtain ⟨x0, x1, x2, x3, x4, x5, x6, x7, x8, x9, x10, x11, x12, x13, x14, x15, x16, x17, x18, x19, x20, x21, x22, x23, x24, x25, x26, rfl⟩ := len27 hl
              obtain ⟨q3, e0, e1, e2⟩ := hB
              clear hd
              simp only [fill, Act.put, List.map_cons, List.map_nil, List.setIfInBounds_toArray, List.set_cons_succ, List.set_cons_zero] at hK ⊢
              go_wp2
              exact hK _ (fun u hu => by simpa using hu)
            case s1 =>
              intro xs w' hl _ hd hB K hK
              obtain ⟨x0, x1, x2, x3, x4, x5, x6, x7, x8, x9, x10, x11, x12, x13, x14, x15, x16, x17, x18, x19, x20, x21, x22, x23, x24, x25, x26, rfl⟩ := len27 hl
              obtain rfl : x0 = .pointer (some ⟨w2.heap.size, 3, none⟩) := by simpa using hd ⟨0, .data⟩ (by simp) rfl (by decide) (by decide) (by decide) _ rfl
              obtain ⟨q3, e0, e1, e2⟩ := hB
              clear hd
              simp only [fill, Act.put, List.map_cons, List.map_nil, List.setIfInBounds_toArray, List.set_cons_succ, List.set_cons_zero] at hK ⊢
              go_wp2
              exact hK _ (fun u hu => by simpa using hu)
            case s2 =>
              intro xs w' hl _ hd hB K hK
              obtain ⟨x0, x1, x2, x3, x4, x5, x6, x7, x8, x9, x10, x11, x12, x13, x14, x15, x16, x17, x18, x19, x20, x21, x22, x23, x24, x25, x26, rfl⟩ := len27 hl
              obtain ⟨q3, e0, e1, e2⟩ := hB
              clear hd
              simp only [fill, Act.put, List.map_cons, List.map_nil, List.setIfInBounds_toArray, List.set_cons_succ, List.set_cons_zero] at hK ⊢
              go_wp2
              exact hK _ (fun u hu => by simpa using hu)
            case s3 =>
              intro xs w' hl _ hd hB K hK
              obtain ⟨x0, x1, x2, x3, x4, x5, x6, x7, x8, x9, x10, x11, x12, x13, x14, x15, x16, x17, x18, x19, x20, x21, x22, x23, x24, x25, x26, rfl⟩ := len27 hl
              obtain ⟨q3, e0, e1, e2⟩ := hB
              clear hd
              simp only [fill, Act.put, List.map_cons, List.map_nil, List.setIfInBounds_toArray, List.set_cons_succ, List.set_cons_zero] at hK ⊢
              go_wp2
              exact hK _ (fun u hu => by simpa using hu)
            case s4 =>
              intro xs w' hl _ hd hB K hK
              obtain ⟨x0, x1, x2, x3, x4, x5, x6, x7, x8, x9, x10, x11, x12, x13, x14, x15, x16, x17, x18, x19, x20, x21, x22, x23, x24, x25, x26, rfl⟩ := len27 hl
              obtain rfl : x2 = .slice (some ⟨b1, off1, none⟩) l.length cap := by simpa using hd ⟨2, .data⟩ (by simp) rfl (by decide) (by decide) (by decide) _ rfl
              obtain rfl : x3 = .int .i64 (k : Int) := by simpa using hd ⟨3, .data⟩ (by simp) rfl (by decide) (by decide) (by decide) _ rfl
              obtain ⟨q3, e0, e1, e2⟩ := hB
              clear hd
              simp only [fill, Act.put, List.map_cons, List.map_nil, List.setIfInBounds_toArray, List.set_cons_succ, List.set_cons_zero] at hK ⊢
              go_wp2
              exact hK _ (fun u hu => by simpa using hu)
            case s5 =>
              intro xs w' hl _ hd hB K hK
              obtain ⟨x0, x1, x2, x3, x4, x5, x6, x7, x8, x9, x10, x11, x12, x13, x14, x15, x16, x17, x18, x19, x20, x21, x22, x23, x24, x25, x26, rfl⟩ := len27 hl
              obtain rfl : x4 = .pointer (some ⟨b1, off1 + k * 4, none⟩) := by simpa using hd ⟨4, .data⟩ (by simp) rfl (by decide) (by decide) (by decide) _ rfl
              obtain ⟨q3, e0, e1, e2⟩ := hB
              clear hd
              simp only [fill, Act.put, List.map_cons, List.map_nil, List.setIfInBounds_toArray, List.set_cons_succ, List.set_cons_zero] at hK ⊢
              go_wp2
              exact hK _ (fun u hu => by simpa using hu)
            case s6 =>
              intro xs w' hl _ hd hB K hK
              obtain ⟨x0, x1, x2, x3, x4, x5, x6, x7, x8, x9, x10, x11, x12, x13, x14, x15, x16, x17, x18, x19, x20, x21, x22, x23, x24, x25, x26, rfl⟩ := len27 hl
              obtain rfl : x5 = .pointer (some ⟨b1, off1 + k * 4, none⟩) := by simpa using hd ⟨5, .data⟩ (by simp) rfl (by decide) (by decide) (by decide) _ rfl
              obtain ⟨q3, e0, e1, e2⟩ := hB
              clear hd
              simp only [fill, Act.put, List.map_cons, List.map_nil, List.setIfInBounds_toArray, List.set_cons_succ, List.set_cons_zero] at hK ⊢
              go_wp2
              exact hK _ (fun u hu => by simpa using hu)
            case s7 =>
              intro xs w' hl _ hd hB K hK
              obtain ⟨x0, x1, x2, x3, x4, x5, x6, x7, x8, x9, x10, x11, x12, x13, x14, x15, x16, x17, x18, x19, x20, x21, x22, x23, x24, x25, x26, rfl⟩ := len27 hl
              obtain ⟨q3, e0, e1, e2⟩ := hB
              clear hd
              simp only [fill, Act.put, List.map_cons, List.map_nil, List.setIfInBounds_toArray, List.set_cons_succ, List.set_cons_zero] at hK ⊢
              go_wp2
              exact hK _ (fun u hu => by simpa using hu)
            case s8 =>
              intro xs w' hl _ hd hB K hK
              obtain ⟨x0, x1, x2, x3, x4, x5, x6, x7, x8, x9, x10, x11, x12, x13, x14, x15, x16, x17, x18, x19, x20, x21, x22, x23, x24, x25, x26, rfl⟩ := len27 hl
              obtain ⟨q3, e0, e1, e2⟩ := hB
              clear hd
              simp only [fill, Act.put, List.map_cons, List.map_nil, List.setIfInBounds_toArray, List.set_cons_succ, List.set_cons_zero] at hK ⊢
              go_wp2
              exact hK _ (fun u hu => by simpa using hu)
            case s9 =>
              intro xs w' hl _ hd hB K hK
              obtain ⟨x0, x1, x2, x3, x4, x5, x6, x7, x8, x9, x10, x11, x12, x13, x14, x15, x16, x17, x18, x19, x20, x21, x22, x23, x24, x25, x26, rfl⟩ := len27 hl
              obtain rfl : x7 = .slice (some ⟨b1, off1, none⟩) l.length cap := by simpa using hd ⟨7, .data⟩ (by simp) rfl (by decide) (by decide) (by decide) _ rfl
              obtain rfl : x8 = .int .i64 (k : Int) := by simpa using hd ⟨8, .data⟩ (by simp) rfl (by decide) (by decide) (by decide) _ rfl
              obtain ⟨q3, e0, e1, e2⟩ := hB
              clear hd
              simp only [fill, Act.put, List.map_cons, List.map_nil, List.setIfInBounds_toArray, List.set_cons_succ, List.set_cons_zero] at hK ⊢
              go_wp2
              exact hK _ (fun u hu => by simpa using hu)
            case s10 =>
              intro xs w' hl _ hd hB K hK
              obtain ⟨x0, x1, x2, x3, x4, x5, x6, x7, x8, x9, x10, x11, x12, x13, x14, x15, x16, x17, x18, x19, x20, x21, x22, x23, x24, x25, x26, rfl⟩ := len27 hl
              obtain rfl : x9 = .pointer (some ⟨b1, off1 + k * 4, none⟩) := by simpa using hd ⟨9, .data⟩ (by simp) rfl (by decide) (by decide) (by decide) _ rfl
              obtain ⟨q3, e0, e1, e2⟩ := hB
              clear hd
              simp only [fill, Act.put, List.map_cons, List.map_nil, List.setIfInBounds_toArray, List.set_cons_succ, List.set_cons_zero] at hK ⊢
              go_wp2
              exact hK _ (fun u hu => by simpa using hu)
            case s11 =>
              intro xs w' hl _ hd hB K hK
              obtain ⟨x0, x1, x2, x3, x4, x5, x6, x7, x8, x9, x10, x11, x12, x13, x14, x15, x16, x17, x18, x19, x20, x21, x22, x23, x24, x25, x26, rfl⟩ := len27 hl
              obtain rfl : x10 = .pointer (some ⟨b1, off1 + k * 4 + 1, none⟩) := by simpa using hd ⟨10, .data⟩ (by simp) rfl (by decide) (by decide) (by decide) _ rfl
              obtain ⟨q3, e0, e1, e2⟩ := hB
              clear hd
              simp only [fill, Act.put, List.map_cons, List.map_nil, List.setIfInBounds_toArray, List.set_cons_succ, List.set_cons_zero] at hK ⊢
              go_wp2
              exact hK _ (fun u hu => by simpa using hu)
            case s12 =>
              intro xs w' hl _ hd hB K hK
              obtain ⟨x0, x1, x2, x3, x4, x5, x6, x7, x8, x9, x10, x11, x12, x13, x14, x15, x16, x17, x18, x19, x20, x21, x22, x23, x24, x25, x26, rfl⟩ := len27 hl
              obtain ⟨q3, e0, e1, e2⟩ := hB
              clear hd
              simp only [fill, Act.put, List.map_cons, List.map_nil, List.setIfInBounds_toArray, List.set_cons_succ, List.set_cons_zero] at hK ⊢
              go_wp2
              exact hK _ (fun u hu => by simpa using hu)
            case s13 =>
              intro xs w' hl _ hd hB K hK
              obtain ⟨x0, x1, x2, x3, x4, x5, x6, x7, x8, x9, x10, x11, x12, x13, x14, x15, x16, x17, x18, x19, x20, x21, x22, x23, x24, x25, x26, rfl⟩ := len27 hl
              obtain ⟨q3, e0, e1, e2⟩ := hB
              clear hd
              simp only [fill, Act.put, List.map_cons, List.map_nil, List.setIfInBounds_toArray, List.set_cons_succ, List.set_cons_zero] at hK ⊢
              go_wp2
              exact hK _ (fun u hu => by simpa using hu)
            case s14 =>
              intro xs w' hl _ hd hB K hK
              obtain ⟨x0, x1, x2, x3, x4, x5, x6, x7, x8, x9, x10, x11, x12, x13, x14, x15, x16, x17, x18, x19, x20, x21, x22, x23, x24, x25, x26, rfl⟩ := len27 hl
              obtain rfl : x12 = .slice (some ⟨b1, off1, none⟩) l.length cap := by simpa using hd ⟨12, .data⟩ (by simp) rfl (by decide) (by decide) (by decide) _ rfl
              obtain rfl : x13 = .int .i64 (k : Int) := by simpa using hd ⟨13, .data⟩ (by simp) rfl (by decide) (by decide) (by decide) _ rfl
              obtain ⟨q3, e0, e1, e2⟩ := hB
              clear hd
              simp only [fill, Act.put, List.map_cons, List.map_nil, List.setIfInBounds_toArray, List.set_cons_succ, List.set_cons_zero] at hK ⊢
              go_wp2
              exact hK _ (fun u hu => by simpa using hu)
            case s15 =>
              intro xs w' hl _ hd hB K hK
              obtain ⟨x0, x1, x2, x3, x4, x5, x6, x7, x8, x9, x10, x11, x12, x13, x14, x15, x16, x17, x18, x19, x20, x21, x22, x23, x24, x25, x26, rfl⟩ := len27 hl
              obtain rfl : x14 = .pointer (some ⟨b1, off1 + k * 4, none⟩) := by simpa using hd ⟨14, .data⟩ (by simp) rfl (by decide) (by decide) (by decide) _ rfl
              obtain ⟨q3, e0, e1, e2⟩ := hB
              clear hd
              simp only [fill, Act.put, List.map_cons, List.map_nil, List.setIfInBounds_toArray, List.set_cons_succ, List.set_cons_zero] at hK ⊢
              go_wp2
              exact hK _ (fun u hu => by simpa using hu)
            case s16 =>
              intro xs w' hl _ hd hB K hK
              obtain ⟨x0, x1, x2, x3, x4, x5, x6, x7, x8, x9, x10, x11, x12, x13, x14, x15, x16, x17, x18, x19, x20, x21, x22, x23, x24, x25, x26, rfl⟩ := len27 hl
              obtain rfl : x15 = .pointer (some ⟨b1, off1 + k * 4 + 2, none⟩) := by simpa using hd ⟨15, .data⟩ (by simp) rfl (by decide) (by decide) (by decide) _ rfl
              obtain ⟨q3, e0, e1, e2⟩ := hB
              clear hd
              simp only [fill, Act.put, List.map_cons, List.map_nil, List.setIfInBounds_toArray, List.set_cons_succ, List.set_cons_zero] at hK ⊢
              go_wp2
              exact hK _ (fun u hu => by simpa using hu)
            case s17 =>
              intro xs w' hl _ hd hB K hK
              obtain ⟨x0, x1, x2, x3, x4, x5, x6, x7, x8, x9, x10, x11, x12, x13, x14, x15, x16, x17, x18, x19, x20, x21, x22, x23, x24, x25, x26, rfl⟩ := len27 hl
              obtain rfl : x16 = .bool true := by simpa using hd ⟨16, .data⟩ (by simp) rfl (by decide) (by decide) (by decide) _ rfl
              obtain ⟨q3, e0, e1, e2⟩ := hB
              clear hd
              simp only [fill, Act.put, List.map_cons, List.map_nil, List.setIfInBounds_toArray, List.set_cons_succ, List.set_cons_zero] at hK ⊢
              go_wp2
              exact hK _ (fun u hu => by simpa using hu)
            case s18 =>
              intro xs w' hl hold hd hB K hK
              clear hold
              have f17 : xs[17]? = some (.bool true) := hd ⟨17, .guard⟩ (by simp) rfl (by decide) (by decide) (by decide) _ rfl
              clear hd
              obtain ⟨x0, x1, x2, x3, x4, x5, x6, x7, x8, x9, x10, x11, x12, x13, x14, x15, x16, x17, x18, x19, x20, x21, x22, x23, x24, x25, x26, hxs⟩ := len27 hl
              have g17 : x17 = .bool true := by rw [hxs] at f17; simpa using f17
              rw [g17] at hxs
              clear hl f17 g17
              obtain ⟨q3, e0, e1, e2⟩ := hB
              simp only [hxs, fill, Act.put, List.map_cons, List.map_nil, List.setIfInBounds_toArray, List.set_cons_succ, List.set_cons_zero] at hK ⊢
              refine wpList_guarded (by kernel_rfl) ?_
              go_wp2
              exact hK _ (fun u hu => by simpa using hu)
            case s19 =>
              intro xs w' hl hold hd hB K hK
              clear hold
              have f17 : xs[17]? = some (.bool true) := hd ⟨17, .guard⟩ (by simp) rfl (by decide) (by decide) (by decide) _ rfl
              clear hd
              obtain ⟨x0, x1, x2, x3, x4, x5, x6, x7, x8, x9, x10, x11, x12, x13, x14, x15, x16, x17, x18, x19, x20, x21, x22, x23, x24, x25, x26, hxs⟩ := len27 hl
              have g17 : x17 = .bool true := by rw [hxs] at f17; simpa using f17
              rw [g17] at hxs
              clear hl f17 g17
              obtain ⟨q3, e0, e1, e2⟩ := hB
              simp only [hxs, fill, Act.put, List.map_cons, List.map_nil, List.setIfInBounds_toArray, List.set_cons_succ, List.set_cons_zero] at hK ⊢
              refine wpList_guarded (by kernel_rfl) ?_
              go_wp2
              exact hK _ (fun u hu => by simpa using hu)
            case s20 =>
              intro xs w' hl hold hd hB K hK
              clear hold
              have f18 : xs[18]? = some (.int .i64 (k : Int)) := hd ⟨18, .data⟩ (by simp) rfl (by decide) (by decide) (by decide) _ rfl
              have f19 : xs[19]? = some (.int .i64 (n : Int)) := hd ⟨19, .data⟩ (by simp) rfl (by decide) (by decide) (by decide) _ rfl
              have f17 : xs[17]? = some (.bool true) := hd ⟨17, .guard⟩ (by simp) rfl (by decide) (by decide) (by decide) _ rfl
              clear hd
              obtain ⟨x0, x1, x2, x3, x4, x5, x6, x7, x8, x9, x10, x11, x12, x13, x14, x15, x16, x17, x18, x19, x20, x21, x22, x23, x24, x25, x26, hxs⟩ := len27 hl
              have g18 : x18 = .int .i64 (k : Int) := by rw [hxs] at f18; simpa using f18
              have g19 : x19 = .int .i64 (n : Int) := by rw [hxs] at f19; simpa using f19
              have g17 : x17 = .bool true := by rw [hxs] at f17; simpa using f17
              rw [g18, g19, g17] at hxs
              clear hl f18 g18 f19 g19 f17 g17
              obtain ⟨q3, e0, e1, e2⟩ := hB
              simp only [hxs, fill, Act.put, List.map_cons, List.map_nil, List.setIfInBounds_toArray, List.set_cons_succ, List.set_cons_zero] at hK ⊢
              refine wpList_guarded (by kernel_rfl) ?_
              go_wp2
              exact hK _ (fun u hu => by simpa using hu)
            case s21 =>
              intro xs w' hl _ hd hB K hK
              obtain ⟨x0, x1, x2, x3, x4, x5, x6, x7, x8, x9, x10, x11, x12, x13, x14, x15, x16, x17, x18, x19, x20, x21, x22, x23, x24, x25, x26, rfl⟩ := len27 hl
              obtain rfl : x17 = .bool true := by simpa using hd ⟨17, .data⟩ (by simp) rfl (by decide) (by decide) (by decide) _ rfl
              obtain rfl : x20 = .bool (decide (n < k)) := by simpa using hd ⟨20, .data⟩ (by simp) rfl (by decide) (by decide) (by decide) _ rfl
              obtain ⟨q3, e0, e1, e2⟩ := hB
              clear hd
              simp only [fill, Act.put, List.map_cons, List.map_nil, List.setIfInBounds_toArray, List.set_cons_succ, List.set_cons_zero] at hK ⊢
              go_wp2
              exact hK _ (fun u hu => by simpa using hu)
            case s22 =>
              intro xs w' hl _ hd hB K hK
              obtain ⟨x0, x1, x2, x3, x4, x5, x6, x7, x8, x9, x10, x11, x12, x13, x14, x15, x16, x17, x18, x19, x20, x21, x22, x23, x24, x25, x26, rfl⟩ := len27 hl
              obtain rfl : x6 = .int .i64 l[k].kind := by simpa using hd ⟨6, .data⟩ (by simp) rfl (by decide) (by decide) (by decide) _ rfl
              obtain rfl : x11 = .string l[k].text := by simpa using hd ⟨11, .data⟩ (by simp) rfl (by decide) (by decide) (by decide) _ rfl
              obtain rfl : x21 = .bool (decide (n < k)) := by simpa using hd ⟨21, .data⟩ (by simp) rfl (by decide) (by decide) (by decide) _ rfl
              obtain ⟨q3, e0, e1, e2⟩ := hB
              clear hd
              simp only [fill, Act.put, List.map_cons, List.map_nil, List.setIfInBounds_toArray, List.set_cons_succ, List.set_cons_zero] at hK ⊢
              go_wp2
              exact hK _ (fun u hu => by simpa using hu)
            case s25 =>
              intro xs w' hl _ hd hB K hK
              obtain ⟨x0, x1, x2, x3, x4, x5, x6, x7, x8, x9, x10, x11, x12, x13, x14, x15, x16, x17, x18, x19, x20, x21, x22, x23, x24, x25, x26, rfl⟩ := len27 hl
              obtain ⟨q3, e0, e1, e2⟩ := hB
              clear hd
              simp only [fill, Act.put, List.map_cons, List.map_nil, List.setIfInBounds_toArray, List.set_cons_succ, List.set_cons_zero] at hK ⊢
              go_wp2
              exact hK _ (fun u hu => by simpa using hu)
            case sA =>
              intro xs hl hd K hK
              obtain ⟨x0, x1, x2, x3, x4, x5, x6, x7, x8, x9, x10, x11, x12, x13, x14, x15, x16, x17, x18, x19, x20, x21, x22, x23, x24, x25, x26, rfl⟩ := len27 hl
              obtain rfl : x22 = .agg #[.int .i64 l[k].kind, .string l[k].text, .bool (decide (n < k)), .slice none 0 0] := by simpa using hd ⟨22, .data⟩ (by simp) rfl (by decide) (by decide) (by decide) _ rfl
              clear hd
              simp only [fill, Act.put, List.map_cons, List.map_nil, List.setIfInBounds_toArray, List.set_cons_succ, List.set_cons_zero] at hK ⊢
              go_wp2
              exact hK
            case sB =>
              intro xs hl hd hva K hK
              obtain ⟨x0, x1, x2, x3, x4, x5, x6, x7, x8, x9, x10, x11, x12, x13, x14, x15, x16, x17, x18, x19, x20, x21, x22, x23, x24, x25, x26, rfl⟩ := len27 hl
              obtain rfl : x1 = .slice ab L.length cb := by simpa using hd ⟨1, .data⟩ (by simp) rfl (by decide) (by decide) (by decide) _ rfl
              obtain rfl : x23 = .slice (some ⟨wr.heap.size, 0, none⟩) 1 1 := by simpa using hva
              clear hd
              simp only [fill, Act.put, List.map_cons, List.map_nil, List.setIfInBounds_toArray, List.set_cons_succ, List.set_cons_zero] at hK ⊢
              refine wp_append_tokE rfl (.tmp 62) (.tmp 84) rfl wc.heap.size (.slice ab L.length cb) L rfl HEd.out l[k].kind l[k].text (decide (n < k)) none 0 0 [] [] rfl ⟨_, rfl, HKI.out.1, HKI.out.2, slice_empty sStr _ _ _ (by simp)⟩ (by simp) (by simp) (by have := HLn.out; omega) (by show wc.heap.size ≤ wr.heap.size; omega) ?_
              intro v' u' h1 h2
              exact hK v' u' ⟨h1, h2⟩
            case sC =>
              intro xs v w2u hl hd hvb hApp K hK
              obtain ⟨x0, x1, x2, x3, x4, x5, x6, x7, x8, x9, x10, x11, x12, x13, x14, x15, x16, x17, x18, x19, x20, x21, x22, x23, x24, x25, x26, rfl⟩ := len27 hl
              obtain rfl : x25 = .pointer (some ⟨w2.heap.size, 3, none⟩) := by simpa using hd ⟨25, .data⟩ (by simp) rfl (by decide) (by decide) (by decide) _ rfl
              obtain rfl : x24 = v := by simpa using hvb
              clear hd
              simp only [fill, Act.put, List.map_cons, List.map_nil, List.setIfInBounds_toArray, List.set_cons_succ, List.set_cons_zero] at hK ⊢
              obtain ⟨hA, hg⟩ := hApp
              obtain ⟨av, cv, hvv, -⟩ := hA.val
              rw [List.length_append, show ([(⟨[.int .i64 l[k].kind, .string l[k].text, .bool (decide (n < k)), .slice none 0 0], ⟨l[k].kind, l[k].text, (decide (n < k)), []⟩, []⟩ : Elem Tok)] : List (Elem Tok)).length = 1 from rfl] at hvv
              subst hvv
              have hMu := (hg.block w2.heap.size (show w2.heap.size < wr.heap.size by omega) (fun he => by have := hown _ he.symm; omega)).trans HMr.out
              have c3 : w2u.cell? ⟨w2.heap.size, 3, none⟩ = some (.slice ab L.length cb) := cell_of_row _ _ 3 _ _ _ hMu
              have f3 : w2u.frozen? ⟨w2.heap.size, 3, none⟩ = false := frozen_of_row _ _ 3 _ _ hMu
              go_wp2
              exact hK undef _ ⟨_, ⟨hA, hg⟩, rfl⟩
            case done =>
              intro xs v w3 hl hd hva hvb hFin
              obtain ⟨x0, x1, x2, x3, x4, x5, x6, x7, x8, x9, x10, x11, x12, x13, x14, x15, x16, x17, x18, x19, x20, x21, x22, x23, x24, x25, x26, rfl⟩ := len27 hl
              clear hd hva hvb
              simp only [fill, Act.put, List.map_cons, List.map_nil, List.setIfInBounds_toArray, List.set_cons_succ, List.set_cons_zero]
              obtain ⟨u, ⟨hA, hg⟩, rfl⟩ := hFin
              have kb : ∀ b, b < wr.heap.size → (Value.slice ab L.length cb).ownBlock ≠ some b → u.heap[b]? = wr.heap[b]? := fun b hb hn => hg.block b (show b < wr.heap.size by omega) (fun he => hn he.symm)
              have hMu := (kb w2.heap.size (by omega) (fun he => by have := hown _ he; omega)).trans HMr.out
              have HM6 := Lib.hid (blk_set hMu 3 v)
              have HE6 := Lib.hid (hA.same (w' := u.setCell ⟨w2.heap.size, 3, none⟩ v) fun b hb hl => Below.heap_setCell _ _ _ _ (by show b ≠ w2.heap.size; omega))
              have hus : wr.heap.size ≤ u.heap.size := hg.size
              have HK6 : Hid (Kept [w2.heap.size] wc (u.setCell ⟨w2.heap.size, 3, none⟩ v)) := ⟨by have h1 : u.os = wr.os := hg.os; exact h1.trans HKr.out.os, by have h1 : u.tape = wr.tape := hg.tape; exact h1.trans HKr.out.tape, by have h1 : u.output = wr.output := hg.output; exact h1.trans HKr.out.output, by rw [size_setCell]; omega, fun b hb hn => by
                have hne : b ≠ w2.heap.size := by simpa using hn
                exact (Below.heap_setCell _ _ _ _ hne).trans ((kb b (by omega) (fun he => by have := hown _ he; omega)).trans (HKr.out.block b hb hn))⟩
              have HL6 : Hid ((L ++ [(⟨[.int .i64 l[k].kind, .string l[k].text, .bool (decide (n < k)), .slice none 0 0], ⟨l[k].kind, l[k].text, (decide (n < k)), []⟩, []⟩ : Elem Tok)]).length = k + 1 - n) := by show _ = _; rw [List.length_append, HLn.out]; show _ + 1 = _; omega
              have HD6 : Hid ((L ++ [(⟨[.int .i64 l[k].kind, .string l[k].text, .bool (decide (n < k)), .slice none 0 0], ⟨l[k].kind, l[k].text, (decide (n < k)), []⟩, []⟩ : Elem Tok)]).map (·.d) = (bodyFrom l n).take (k + 1 - n)) := by show _ = _; rw [HT.out, List.map_append, HD.out]; simp
              have HF6 : Hid (∀ x ∈ L ++ [(⟨[.int .i64 l[k].kind, .string l[k].text, .bool (decide (n < k)), .slice none 0 0], ⟨l[k].kind, l[k].text, (decide (n < k)), []⟩, []⟩ : Elem Tok)], x.fp = []) := fun x hx => by
                rcases List.mem_append.1 hx with h | h
                · exact HFP.out x h
                · obtain rfl := List.mem_singleton.1 h; rfl
              clear hA hg kb hMu HMr HE HD HFP HKr HLn HT q3 e0 e1 e2
              go_wp2
              go_roundw
              case rel => exact ⟨k + 1, v, _, by omega, by omega, by go_num, HL6, HM6, HE6, HD6, HF6, HK6⟩
              case measure => simp [intOf]; omega
        · have hkl' : k = l.length := by omega
          have hd := HD.out
          rw [List.take_of_length_le (by rw [bodyFrom_len]; omega)] at hd
          obtain ⟨fpb, hRB, hOB⟩ := rowE_own HE.out HFP.out
          rw [hd] at hRB
          have hP := (sSlice sStr).kept HP.out (fun b hb hx => HPn.out (by have e : b = w2.heap.size := (by simpa using hx); exact e ▸ hb)) HKr.out
          have hO := HO.out.kept (fun b hb hx => HPn.out (by have e : b = w2.heap.size := (by simpa using hx); exact e ▸ hb)) HKr.out
          have hap : ∀ b ∈ fpp, b ∉ fpb := fun b h1 h2 => by have h3 := HPlt.out b h1; have h4 := (hOB.2 b h2).1; omega
          have HR : Hid (sMacro.R wr [.string nm, .bool fn, .slice ap ps.length cp, .slice ab L.length cb] ⟨nm, fn, ps, bodyFrom l n⟩ (fpp ++ fpb)) := ⟨_, _, fpp, fpb, rfl, okn, hP, hRB, rfl⟩
          have HOO := Lib.hid (Own.app (hO.lower (by omega : w.heap.size ≤ _)) (hOB.lower (by omega : w.heap.size ≤ _)) hap)
          have hnw : w.heap.size ∉ fpp ++ fpb := fun hx => by
            rcases List.mem_append.1 hx with h | h
            · have := (HO.out.2 _ h).1; omega
            · have := (hOB.2 _ h).1; omega
          have HBr := Lib.hid (HBc.out.trans (HKr.out.below (lo := w.heap.size) (by intro b hb; have e : b = w2.heap.size := (by simpa using hb); omega) (by omega)))
          have HZr := Lib.hid ((HKr.out.block w.heap.size (by omega) (by simp; omega)).trans HZc.out)
          have q0 : wr.cell? ⟨w2.heap.size, 0, none⟩ = some (.string nm) := cell_of_row _ _ 0 _ _ _ HMr.out
          have q1 : wr.cell? ⟨w2.heap.size, 1, none⟩ = some (.bool fn) := cell_of_row _ _ 1 _ _ _ HMr.out
          have q2 : wr.cell? ⟨w2.heap.size, 2, none⟩ = some (.slice ap ps.length cp) := cell_of_row _ _ 2 _ _ _ HMr.out
          have q3 : wr.cell? ⟨w2.heap.size, 3, none⟩ = some (.slice ab L.length cb) := cell_of_row _ _ 3 _ _ _ HMr.out
          clear hd hRB hOB hP hO hap HEc HD HE HFP HKr HLn
          go_wp2_with fail
          refine (spec_MacroValid _ _ _ _ HR.out).mono ?_
          rintro e w5 ⟨rfl, hb5⟩
          have hB5 := HBr.out.trans (hb5.mono HBr.out.size)
          have HZ5 := Lib.hid (mbox HZr.out hb5)
          have HM5 := Lib.hid (mbox HMr.out hb5)
          have HR5 := Lib.hid (sMacro.below HR.out hb5)
          have HO5 := Lib.hid (HOO.out.grow hb5)
          clear q0 q1 q2 q3 hb5 HR HOO HZr HMr
          cases hok : macOk ⟨nm, fn, ps, bodyFrom l n⟩
          · have HFF := Lib.hid (HF.out.trans (chk_no hok))
            clear hok
            have z0 : w5.cell? ⟨w.heap.size, 0, none⟩ = some (.string ⟨#[]⟩) := cell_of_row _ _ 0 _ _ _ HZ5.out
            have zf0 : w5.frozen? ⟨w.heap.size, 0, none⟩ = false := frozen_of_row _ _ 0 _ _ HZ5.out
            have z1 : w5.cell? ⟨w.heap.size, 1, none⟩ = some (.bool false) := cell_of_row _ _ 1 _ _ _ HZ5.out
            have zf1 : w5.frozen? ⟨w.heap.size, 1, none⟩ = false := frozen_of_row _ _ 1 _ _ HZ5.out
            have z2 : w5.cell? ⟨w.heap.size, 2, none⟩ = some (.slice none 0 0) := cell_of_row _ _ 2 _ _ _ HZ5.out
            have zf2 : w5.frozen? ⟨w.heap.size, 2, none⟩ = false := frozen_of_row _ _ 2 _ _ HZ5.out
            have z3 : w5.cell? ⟨w.heap.size, 3, none⟩ = some (.slice none 0 0) := cell_of_row _ _ 3 _ _ _ HZ5.out
            have zf3 : w5.frozen? ⟨w.heap.size, 3, none⟩ = false := frozen_of_row _ _ 3 _ _ HZ5.out
            have HS := Lib.hid (blk_set (blk_set (blk_set (blk_set HZ5.out 0 (.string ⟨#[]⟩)) 1 (.bool false)) 2 (.slice none 0 0)) 3 (.slice none 0 0))
            have HBF := Lib.hid ((((hB5.setCell (p := ⟨w.heap.size, 0, none⟩) (Nat.le_refl _) (.string ⟨#[]⟩)).setCell (p := ⟨w.heap.size, 1, none⟩) (Nat.le_refl _) (.bool false)).setCell (p := ⟨w.heap.size, 2, none⟩) (Nat.le_refl _) (.slice none 0 0)).setCell (p := ⟨w.heap.size, 3, none⟩) (Nat.le_refl _) (.slice none 0 0))
            go_wp2
            refine bodyPost_ret (results_cell2 rfl _ _ w.heap.size _ _ _ _ rfl HS.out Try.underlying35 rfl (by kernel_rfl)) rfl ?_
            exact mof_no HFF.out HBF.out
          · have HFF := Lib.hid (HF.out.trans (chk_yes hok))
            clear hok
            have q0 : w5.cell? ⟨w2.heap.size, 0, none⟩ = some (.string nm) := cell_of_row _ _ 0 _ _ _ HM5.out
            have q1 : w5.cell? ⟨w2.heap.size, 1, none⟩ = some (.bool fn) := cell_of_row _ _ 1 _ _ _ HM5.out
            have q2 : w5.cell? ⟨w2.heap.size, 2, none⟩ = some (.slice ap ps.length cp) := cell_of_row _ _ 2 _ _ _ HM5.out
            have q3 : w5.cell? ⟨w2.heap.size, 3, none⟩ = some (.slice ab L.length cb) := cell_of_row _ _ 3 _ _ _ HM5.out
            have z0 : w5.cell? ⟨w.heap.size, 0, none⟩ = some (.string ⟨#[]⟩) := cell_of_row _ _ 0 _ _ _ HZ5.out
            have z1 : w5.cell? ⟨w.heap.size, 1, none⟩ = some (.bool false) := cell_of_row _ _ 1 _ _ _ HZ5.out
            have z2 : w5.cell? ⟨w.heap.size, 2, none⟩ = some (.slice none 0 0) := cell_of_row _ _ 2 _ _ _ HZ5.out
            have z3 : w5.cell? ⟨w.heap.size, 3, none⟩ = some (.slice none 0 0) := cell_of_row _ _ 3 _ _ _ HZ5.out
            have zf0 : w5.frozen? ⟨w.heap.size, 0, none⟩ = false := frozen_of_row _ _ 0 _ _ HZ5.out
            have zf1 : w5.frozen? ⟨w.heap.size, 1, none⟩ = false := frozen_of_row _ _ 1 _ _ HZ5.out
            have zf2 : w5.frozen? ⟨w.heap.size, 2, none⟩ = false := frozen_of_row _ _ 2 _ _ HZ5.out
            have zf3 : w5.frozen? ⟨w.heap.size, 3, none⟩ = false := frozen_of_row _ _ 3 _ _ HZ5.out
            have HS := Lib.hid (blk_set (blk_set (blk_set (blk_set HZ5.out 0 (.string nm)) 1 (.bool fn)) 2 (.slice ap ps.length cp)) 3 (.slice ab L.length cb))
            have HBF := Lib.hid ((((hB5.setCell (p := ⟨w.heap.size, 0, none⟩) (Nat.le_refl _) (.string nm)).setCell (p := ⟨w.heap.size, 1, none⟩) (Nat.le_refl _) (.bool fn)).setCell (p := ⟨w.heap.size, 2, none⟩) (Nat.le_refl _) (.slice ap ps.length cp)).setCell (p := ⟨w.heap.size, 3, none⟩) (Nat.le_refl _) (.slice ab L.length cb))
            have HRF := Lib.hid (sMacro.setB (sMacro.setB (sMacro.setB (sMacro.setB HR5.out hnw 0 (.string nm)) hnw 1 (.bool fn)) hnw 2 (.slice ap ps.length cp)) hnw 3 (.slice ab L.length cb))
            have HOF := Lib.hid ((((HO5.out.setCell ⟨w.heap.size, 0, none⟩ (.string nm)).setCell ⟨w.heap.size, 1, none⟩ (.bool fn)).setCell ⟨w.heap.size, 2, none⟩ (.slice ap ps.length cp)).setCell ⟨w.heap.size, 3, none⟩ (.slice ab L.length cb))
            clear HR5 HO5 HM5 HZ5 hB5
            go_wp2
            refine bodyPost_ret (results_cell2 rfl _ _ w.heap.size _ _ _ _ rfl HS.out Try.underlying35 rfl (by kernel_rfl)) rfl ?_
            exact mof_yes (cs := [.string nm, .bool fn, .slice ap ps.length cp, .slice ab L.length cb]) HFF.out HRF.out HOF.out HBF.out

end Go.Proofs.Ytdnjpjiepnhhhab
