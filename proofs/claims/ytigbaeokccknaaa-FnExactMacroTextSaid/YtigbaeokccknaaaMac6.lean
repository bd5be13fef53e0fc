/- MacroValid of both; the laws' helpers over macros by value. -/
import Derived.Test.YtigbaeokccknaaaMac3
import Derived.Test.YtigbaeokccknaaaMac5
import Derived.Test.YtigbaeokccknaaaSameTk
namespace Go.Proofs.Ytigbaeokccknaaa
open Go.RowKit

theorem spec_MacroValid (cs : List Value) (m : DMacro) (fp : List Nat) (w : World) (H : sMacro.R w cs m fp) : Calls Try.prog 11 #[.agg cs.toArray] w (Says (macOk m) w) := by
  obtain ⟨h2, h3, fp2, fp3, rfl, k0, K2, K3, rfl⟩ := H
  cases hf : m.function
  · have := spec_MacroValid_no m h2 h3 fp2 fp3 w k0 K2 K3 hf
    rw [hf] at this
    exact this
  · have := spec_MacroValid_yes m h2 h3 fp2 fp3 w k0 K2 K3 hf
    rw [hf] at this
    exact this

theorem mi_name {m : DMacro} (h : oneTok m.name 1 = false) : macOk m = false := by rw [mac_impl, h]; rfl
theorem mi_def {m : DMacro} (h : m.name = definedB) : macOk m = false := by rw [mac_impl, decide_eq_true h]; simp
theorem mi_no {m : DMacro} (h1 : oneTok m.name 1 = true) (h2 : m.name ≠ definedB) (hf : m.function = false) : macOk m = (decide (m.params.length = 0) && bodyOkI m.body) := by rw [mac_impl, h1, decide_eq_false h2, hf]; rfl
theorem mi_yes {m : DMacro} (h1 : oneTok m.name 1 = true) (h2 : m.name ≠ definedB) (hf : m.function = true) : macOk m = (parsOk m.params && bodyOkI m.body && signsOk m) := by rw [mac_impl, h1, decide_eq_false h2, hf]; rfl
theorem mi_big {m : DMacro} (h : bodyOkI m.body = true) : m.body.length ≤ 20 := by unfold bodyOkI at h; rw [Bool.and_eq_true, Bool.and_eq_true] at h; simpa using h.1.1

set_option maxHeartbeats 8000000 in
set_option maxRecDepth 100000 in
theorem impl_MacroValid (cs : List Value) (m : DMacro) (fp : List Nat) (w : World) (H : sMacro.R w cs m fp) : Calls Try.prog 10 #[.agg cs.toArray] w (Says (macOk m) w) := by
  obtain ⟨h2, h3, fp2, fp3, rfl, k0, K2, K3, rfl⟩ := H
  obtain ⟨a2, cap2, rfl, -⟩ := open_strs K2
  obtain ⟨a3, cap3, rfl, -⟩ := open_rows K3
  have HN := Lib.hid (fun W => impl_isOneToken m.name 1 W k0)
  have HP := Lib.hid (fun W (hW : Below w.heap.size w W) => impl_paramsValid _ _ _ W ((sSlice sStr).below K2 hW))
  have HB := Lib.hid (fun W (hW : Below w.heap.size w W) => impl_bodyValid _ _ _ W ((sSlice sTok).below K3 hW))
  have HS := Lib.hid (fun W (hl : m.body.length ≤ 1000) (hW : Below w.heap.size w W) => impl_numberSignsFit m _ _ _ _ W ((sSlice sStr).below K2 hW) ((sSlice sTok).below K3 hW) hl)
  have hb0 := alloc_below' w (.cells #[.string m.name, .bool m.function, .slice a2 m.params.length cap2, .slice a3 m.body.length cap3] 26)
  have HX := Lib.hid (heap_alloc_new w (.cells #[.string m.name, .bool m.function, .slice a2 m.params.length cap2, .slice a3 m.body.length cap3] 26))
  clear K2 K3
  cases h1 : oneTok m.name 1
  · rw [h1] at HN
    have HF := Lib.hid (mi_name h1)
    clear h1
    go_enter Try.func10, Try.ntmps10
    go_wp2_with (go_at_call 34; refine (HN.out _).mono ?_; rintro e w1 ⟨rfl, hb1⟩)
    go_ret
    exact ⟨ret_bool HF.out.symm, hb0.trans (hb1.mono hb0.size)⟩
  rw [h1] at HN
  go_enter Try.func10, Try.ntmps10
  go_wp2_with fail
  refine (HN.out _).mono ?_
  rintro e w1 ⟨rfl, hb1⟩
  have hB1 := hb0.trans (hb1.mono hb0.size)
  replace HX := Lib.hid ((hb1.block _ (Array.getElem?_eq_some_iff.1 HX.out).1).trans HX.out)
  have q0 : w1.cell? ⟨w.heap.size, 0, none⟩ = some (.string m.name) := cell_of_row _ _ 0 _ _ _ HX.out
  by_cases hd : m.name = definedB
  · have e2 := txt_t (l := [100, 101, 102, 105, 110, 101, 100]) hd
    have HF := Lib.hid (mi_def hd)
    clear h1 hd
    go_wp2
    go_ret
    exact ⟨ret_bool HF.out.symm, hB1⟩
  have e2 := txt_f (l := [100, 101, 102, 105, 110, 101, 100]) hd
  have q1 : w1.cell? ⟨w.heap.size, 1, none⟩ = some (.bool m.function) := cell_of_row _ _ 1 _ _ _ HX.out
  have q2 : w1.cell? ⟨w.heap.size, 2, none⟩ = some (.slice a2 m.params.length cap2) := cell_of_row _ _ 2 _ _ _ HX.out
  have q3 : w1.cell? ⟨w.heap.size, 3, none⟩ = some (.slice a3 m.body.length cap3) := cell_of_row _ _ 3 _ _ _ HX.out
  cases hf : m.function
  · have HM := Lib.hid (mi_no h1 hd hf)
    rw [hf] at q1
    clear h1 hd hf
    by_cases hz : m.params.length = 0
    · have hz1 : ((m.params.length : Int) == 0) = true := by rw [hz]; rfl
      rw [decide_eq_true hz, Bool.true_and] at HM
      clear hz
      go_wp2_with fail
      refine (HB.out _ hB1).mono ?_
      rintro e w2 ⟨rfl, hb2⟩
      go_wp2
      go_ret
      exact ⟨ret_bool HM.out.symm, hB1.trans (hb2.mono hB1.size)⟩
    · have hz1 : ((m.params.length : Int) == 0) = false := by simp; intro h; exact hz (by simp [h])
      rw [decide_eq_false hz, Bool.false_and] at HM
      clear hz
      go_wp2
      go_ret
      exact ⟨ret_bool HM.out.symm, hB1⟩
  · have HM := Lib.hid (mi_yes h1 hd hf)
    have HF := Lib.hid hf
    rw [hf] at q1
    clear h1 hd hf
    go_wp2_with fail
    refine (HP.out _ hB1).mono ?_
    rintro e w2 ⟨rfl, hb2⟩
    have hB2 := hB1.trans (hb2.mono hB1.size)
    cases hp : parsOk m.params
    · rw [hp, Bool.false_and, Bool.false_and] at HM
      clear hp q0 q1 q2 q3
      go_wp2
      go_ret
      exact ⟨ret_bool HM.out.symm, hB2⟩
    · rw [hp, Bool.true_and] at HM
      replace HX := Lib.hid ((hb2.block _ (Array.getElem?_eq_some_iff.1 HX.out).1).trans HX.out)
      clear hp q0 q1 q2 q3
      have q3 : w2.cell? ⟨w.heap.size, 3, none⟩ = some (.slice a3 m.body.length cap3) := cell_of_row _ _ 3 _ _ _ HX.out
      go_wp2_with fail
      refine (HB.out _ hB2).mono ?_
      rintro e w3 ⟨rfl, hb3⟩
      have hB3 := hB2.trans (hb3.mono hB2.size)
      cases hb : bodyOkI m.body
      · rw [hb, Bool.false_and] at HM
        clear hb q3
        go_wp2
        go_ret
        exact ⟨ret_bool HM.out.symm, hB3⟩
      · have hl := mi_big hb
        rw [hb, Bool.true_and] at HM
        replace HX := Lib.hid ((hb3.block _ (Array.getElem?_eq_some_iff.1 HX.out).1).trans HX.out)
        clear hb q3
        have q0 : w3.cell? ⟨w.heap.size, 0, none⟩ = some (.string m.name) := cell_of_row _ _ 0 _ _ _ HX.out
        have q1 : w3.cell? ⟨w.heap.size, 1, none⟩ = some (.bool m.function) := cell_of_row _ _ 1 _ _ _ HX.out
        have q2 : w3.cell? ⟨w.heap.size, 2, none⟩ = some (.slice a2 m.params.length cap2) := cell_of_row _ _ 2 _ _ _ HX.out
        have q3 : w3.cell? ⟨w.heap.size, 3, none⟩ = some (.slice a3 m.body.length cap3) := cell_of_row _ _ 3 _ _ _ HX.out
        have HS' := Lib.hid (fun W hW => HS.out W (by omega) hW)
        clear hl
        go_wp2_with fail
        refine (HS'.out _ hB3).mono ?_
        rintro e w4 ⟨rfl, hb4⟩
        go_wp2
        go_ret
        exact ⟨ret_bool HM.out.symm, hB3.trans (hb4.mono hB3.size)⟩

/-- Marks in what a macro by value leads to. -/
def MarkedC {α : Type} (S : Shape α) (cs : List Value) (d : α) (fp : List Nat) (lo : Nat) (r : Int) (w : World) (e : Ending) (w' : World) : Prop :=
  e = .returned (.int .i64 r) ∧ S.R w' cs d fp ∧ Own w' lo fp ∧ Kept fp w w'
set_option maxHeartbeats 4000000 in
set_option maxRecDepth 100000 in
theorem markMacro (cs : List Value) (x : DMacro) (fp : List Nat) (lo : Nat) (k : Int) (w : World) (h0 : 0 ≤ k) (h1 : k + cntVMacro x ≤ 2305843009213693952) (H : sMacro.R w cs x fp) (O : Own w lo fp) :
    Calls Try.prog 30 #[.agg cs.toArray, .int .i64 k] w (MarkedC sMacro cs (mkVMacro k x) fp lo (k + cntVMacro x) w) := by
  obtain ⟨h2, h3, fp2, fp3, rfl, k0, K2, K3, rfl⟩ := H
  unfold cntVMacro at h1 ⊢
  have K2' := K2
  have K3' := K3
  obtain ⟨a2, cap2, rfl, -⟩ := open_strs K2'
  obtain ⟨a3, cap3, rfl, -⟩ := open_rows K3'
  clear K2' K3'
  obtain ⟨O2, O3, hd⟩ := Own.split O
  have hn2 : ∀ b ∈ fp2, b < w.heap.size := (sSlice sStr).lt K2
  have hn3 : ∀ b ∈ fp3, b < w.heap.size := (sSlice sTok).lt K3
  have hb0 := alloc_below' w (.cells #[.string x.name, .bool x.function, .slice a2 x.params.length cap2, .slice a3 x.body.length cap3] 26)
  have HX := Lib.hid (heap_alloc_new w (.cells #[.string x.name, .bool x.function, .slice a2 x.params.length cap2, .slice a3 x.body.length cap3] 26))
  go_enter Try.func30, Try.ntmps30
  go_wp2_with fail
  refine (markStringS _ _ _ lo _ _ h0 (by omega) ((sSlice sStr).below K2 hb0) (O2.grow hb0)).mono ?_
  rintro e w1 ⟨rfl, R2, P2, hk2⟩
  have hx1 : w.heap.size ∉ fp2 := fun h => by have := hn2 _ h; omega
  have hX1 := (hk2.block _ (Array.getElem?_eq_some_iff.1 HX.out).1 hx1).trans HX.out
  have R3 := (sSlice sTok).kept ((sSlice sTok).below K3 hb0) (fun b h1 h2 => hd b h2 h1) hk2
  have P3 := (O3.grow hb0).kept (fun b h1 h2 => hd b h2 h1) hk2
  have q3 : w1.cell? ⟨w.heap.size, 3, none⟩ = some (.slice a3 x.body.length cap3) := cell_of_row _ _ 3 _ _ _ hX1
  clear K2 K3 O2 O3 HX hX1
  go_wp2_with fail
  refine (markTokenS _ _ _ lo _ _ (by omega) (by omega) R3 P3).mono ?_
  rintro e w2 ⟨rfl, R4, P4, hk3⟩
  have R5 := (sSlice sStr).kept R2 hd hk3
  have P5 := P2.kept hd hk3
  have hk : Kept (fp2 ++ fp3) w w2 := ((Kept.of_below hb0).trans (hk2.mono fun x hx => by simp [hx])).trans (hk3.mono fun x hx => by simp [hx])
  clear R2 R3 P2 P3 hk2 hk3 q3
  go_wp2
  go_ret
  exact ⟨ret_int (by omega), ⟨_, _, fp2, fp3, rfl, k0, R5, R4, rfl⟩, Own.app P5 P4 hd, hk⟩

set_option maxHeartbeats 4000000 in
set_option maxRecDepth 100000 in
theorem heldMacro (cs : List Value) (x : DMacro) (fp : List Nat) (k : Int) (w : World) (h0 : 0 ≤ k) (h1 : k + cntVMacro x ≤ 2305843009213693952) (H : sMacro.R w cs (mkVMacro k x) fp) :
    Calls Try.prog 31 #[.agg cs.toArray, .int .i64 k] w fun e w' => e = .returned (.int .i64 (k + cntVMacro x)) ∧ Below w.heap.size w w' := by
  obtain ⟨h2, h3, fp2, fp3, rfl, k0, K2, K3, rfl⟩ := H
  unfold cntVMacro at h1 ⊢
  have L2 : (marks mtext k x.params.length).length = x.params.length := marks_len _ _ _
  have hb0 := alloc_below' w (.cells #[.string x.name, .bool x.function, h2, h3] 26)
  have HX := Lib.hid (heap_alloc_new w (.cells #[.string x.name, .bool x.function, h2, h3] 26))
  have K2' : (sSlice sStr).R w [h2] (marks mtext k x.params.length) fp2 := K2
  have K3' : (sSlice sTok).R w [h3] (mkTokenS (k + (x.params.length : Int)) x.body) fp3 := K3
  clear K2 K3
  go_enter Try.func31, Try.ntmps31
  go_wp2_with fail
  refine (heldStringS _ _ _ _ _ h0 (by omega) ((sSlice sStr).below K2' hb0)).mono ?_
  rintro e w1 ⟨rfl, hb1⟩
  have hX1 := (hb1.block _ (Array.getElem?_eq_some_iff.1 HX.out).1).trans HX.out
  have hB1 := hb0.trans (hb1.mono hb0.size)
  have q3 : w1.cell? ⟨w.heap.size, 3, none⟩ = some h3 := cell_of_row _ _ 3 _ _ _ hX1
  have HC := Lib.hid (heldTokenS _ _ _ _ w1 (by omega) (by omega) ((sSlice sTok).below K3' hB1))
  clear hX1 HX K2' K3'
  go_wp2_with fail
  refine HC.out.mono ?_
  rintro e w2 ⟨rfl, hb2⟩
  go_wp2
  go_ret
  exact ⟨ret_int (by omega), hB1.trans (hb2.mono hB1.size)⟩

end Go.Proofs.Ytigbaeokccknaaa
