/- SameMacro: both say the same, in both directions; a macro is equal to itself, and to none with another name. For every input. No conditions. -/
import Derived.Test.YtdnjpjiepnhhhaaZPSameMacro9
import Derived.Test.YtdnjpjiepnhhhaaZPSameMacro8
set_option linter.unusedVariables false
set_option linter.unusedSimpArgs false
namespace Go.Proofs.Ytdnjpjiepnhhhaa.lawSameMacro
open Go.ChangeShapes Go.WideShapes Go.ChangeAt Go.RowKit Go.ChangeMaps

theorem box_at {w w' : World} {g : Nat} {arr : Array Value} {ty : TypeId} (h : w.heap[g]? = some (.cells arr ty (0, 0))) (hb : Below w.heap.size w w') : w'.heap[g]? = some (.cells arr ty (0, 0)) :=
  (hb.block g (Array.getElem?_eq_some_iff.1 h).1).trans h
theorem sameMac_comm (x y : DMacro) : sameMac x y = sameMac y x := by
  have hc : ∀ {α : Type} [DecidableEq α] (a b : α), decide (a = b) = decide (b = a) := fun a b => by
    rw [Bool.eq_iff_iff]; simp [eq_comm]
  unfold sameMac bodySame sameTx
  rw [hc x.name, hc x.function, hc x.params, hc (x.body.map tKey), hc (x.body.map spOf)]
theorem sameMac_self (x : DMacro) : sameMac x x = true := sameMac_yes rfl rfl rfl (bodySame_yes (by unfold sameTx; rw [decide_eq_true rfl]) rfl)

set_option maxHeartbeats 8000000 in
set_option maxRecDepth 100000 in
theorem walk (v0 : Value) (x0 : List UInt8) (fp0 : List Nat) (w : World) (H0 : (sSlice sByte).R w [v0] x0 fp0) :
    Calls Try.prog 7 #[v0] w fun e w' => e = .returned (.bool true) ∧ Below w.heap.size w w' := by
  have HH := Lib.hid H0
  obtain ⟨a, cap, hv, hc, hm, h⟩ := H0
  obtain rfl : v0 = .slice a x0.length cap := by simpa using hv
  unfold maxLen at hm
  clear h hv
  go_enter Try.func7, Try.ntmps7
  by_cases hbig : 1048576 < x0.length
  · go_wp2
    go_ret
    exact ⟨rfl, Below.refl _ _⟩
  go_wp2_with fail
  refine (DrawSameMacro _ x0 fp0 _ HH.out).mono ?_
  rintro e w1 ⟨nm, f, a2, a3, n2, c2, n3, c3, ps, bd, fp, nm', f', a2', a3', n2', c2', n3', c3', ps', bd', fp', rfl, hR, hR', hnm, hB1⟩
  have b0 := alloc_below' w1 (.cells #[.string nm, .bool f, .slice a2 n2 c2, .slice a3 n3 c3] 27)
  have b1 := b0.trans ((alloc_below' (w1.alloc (.cells #[.string nm, .bool f, .slice a2 n2 c2, .slice a3 n3 c3] 27)) (.cells #[.string nm', .bool f', .slice a2' n2' c2', .slice a3' n3' c3'] 27)).mono b0.size)
  have HX := Lib.hid (alloc2_blk w1 #[.string nm, .bool f, .slice a2 n2 c2, .slice a3 n3 c3] #[.string nm', .bool f', .slice a2' n2' c2', .slice a3' n3' c3'] 27 27)
  replace hR := sMacro.below hR b1
  replace hR' := sMacro.below hR' b1
  have hB := hB1.trans (b1.mono hB1.size)
  have hsz : ((w1.alloc (.cells #[.string nm, .bool f, .slice a2 n2 c2, .slice a3 n3 c3] 27)).alloc (.cells #[.string nm', .bool f', .slice a2' n2' c2', .slice a3' n3' c3'] 27)).heap.size = w1.heap.size + 2 := by
    show ((w1.heap.push _).push _).size = _
    simp
  have HSZ := Lib.hid hsz
  clear b0 b1 hB1 hsz
  have qx0 : ((w1.alloc (.cells #[.string nm, .bool f, .slice a2 n2 c2, .slice a3 n3 c3] 27)).alloc (.cells #[.string nm', .bool f', .slice a2' n2' c2', .slice a3' n3' c3'] 27)).cell? ⟨w1.heap.size, 0, none⟩ = some (.string nm) := cell_of_row _ _ 0 _ _ _ HX.out.1
  have qx1 : ((w1.alloc (.cells #[.string nm, .bool f, .slice a2 n2 c2, .slice a3 n3 c3] 27)).alloc (.cells #[.string nm', .bool f', .slice a2' n2' c2', .slice a3' n3' c3'] 27)).cell? ⟨w1.heap.size, 1, none⟩ = some (.bool f) := cell_of_row _ _ 1 _ _ _ HX.out.1
  have qx2 : ((w1.alloc (.cells #[.string nm, .bool f, .slice a2 n2 c2, .slice a3 n3 c3] 27)).alloc (.cells #[.string nm', .bool f', .slice a2' n2' c2', .slice a3' n3' c3'] 27)).cell? ⟨w1.heap.size, 2, none⟩ = some (.slice a2 n2 c2) := cell_of_row _ _ 2 _ _ _ HX.out.1
  have qx3 : ((w1.alloc (.cells #[.string nm, .bool f, .slice a2 n2 c2, .slice a3 n3 c3] 27)).alloc (.cells #[.string nm', .bool f', .slice a2' n2' c2', .slice a3' n3' c3'] 27)).cell? ⟨w1.heap.size, 3, none⟩ = some (.slice a3 n3 c3) := cell_of_row _ _ 3 _ _ _ HX.out.1
  have qy0 : ((w1.alloc (.cells #[.string nm, .bool f, .slice a2 n2 c2, .slice a3 n3 c3] 27)).alloc (.cells #[.string nm', .bool f', .slice a2' n2' c2', .slice a3' n3' c3'] 27)).cell? ⟨w1.heap.size + 1, 0, none⟩ = some (.string nm') := cell_of_row _ _ 0 _ _ _ HX.out.2
  have qy1 : ((w1.alloc (.cells #[.string nm, .bool f, .slice a2 n2 c2, .slice a3 n3 c3] 27)).alloc (.cells #[.string nm', .bool f', .slice a2' n2' c2', .slice a3' n3' c3'] 27)).cell? ⟨w1.heap.size + 1, 1, none⟩ = some (.bool f') := cell_of_row _ _ 1 _ _ _ HX.out.2
  have qy2 : ((w1.alloc (.cells #[.string nm, .bool f, .slice a2 n2 c2, .slice a3 n3 c3] 27)).alloc (.cells #[.string nm', .bool f', .slice a2' n2' c2', .slice a3' n3' c3'] 27)).cell? ⟨w1.heap.size + 1, 2, none⟩ = some (.slice a2' n2' c2') := cell_of_row _ _ 2 _ _ _ HX.out.2
  have qy3 : ((w1.alloc (.cells #[.string nm, .bool f, .slice a2 n2 c2, .slice a3 n3 c3] 27)).alloc (.cells #[.string nm', .bool f', .slice a2' n2' c2', .slice a3' n3' c3'] 27)).cell? ⟨w1.heap.size + 1, 3, none⟩ = some (.slice a3' n3' c3') := cell_of_row _ _ 3 _ _ _ HX.out.2
  go_wp2_with fail
  refine (impl_SameMacro [.string nm, .bool f, .slice a2 n2 c2, .slice a3 n3 c3] [.string nm', .bool f', .slice a2' n2' c2', .slice a3' n3' c3'] ⟨nm, f, ps, bd⟩ ⟨nm', f', ps', bd'⟩ fp fp' _ hR hR').mono ?_
  rintro e w2 ⟨rfl, hb2⟩
  have hs2 := hb2.size
  rw [HSZ.out] at hs2
  replace hR := sMacro.below hR hb2
  replace hR' := sMacro.below hR' hb2
  have HX2 := Lib.hid (And.intro (box_at HX.out.1 hb2) (box_at HX.out.2 hb2))
  replace hB := hB.trans (hb2.mono hB.size)
  clear hb2 HX HSZ
  generalize hsm : sameMac ⟨nm, f, ps, bd⟩ ⟨nm', f', ps', bd'⟩ = s at *
  have HS := Lib.hid hsm
  clear hsm
  have hbb : (s != s) = false := by simp
  clear qx0 qy0 qx1 qy1 qx2 qy2 qx3 qy3
  have qx0 : w2.cell? ⟨w1.heap.size, 0, none⟩ = some (.string nm) := cell_of_row _ _ 0 _ _ _ HX2.out.1
  have qx1 : w2.cell? ⟨w1.heap.size, 1, none⟩ = some (.bool f) := cell_of_row _ _ 1 _ _ _ HX2.out.1
  have qx2 : w2.cell? ⟨w1.heap.size, 2, none⟩ = some (.slice a2 n2 c2) := cell_of_row _ _ 2 _ _ _ HX2.out.1
  have qx3 : w2.cell? ⟨w1.heap.size, 3, none⟩ = some (.slice a3 n3 c3) := cell_of_row _ _ 3 _ _ _ HX2.out.1
  have qy0 : w2.cell? ⟨w1.heap.size + 1, 0, none⟩ = some (.string nm') := cell_of_row _ _ 0 _ _ _ HX2.out.2
  have qy1 : w2.cell? ⟨w1.heap.size + 1, 1, none⟩ = some (.bool f') := cell_of_row _ _ 1 _ _ _ HX2.out.2
  have qy2 : w2.cell? ⟨w1.heap.size + 1, 2, none⟩ = some (.slice a2' n2' c2') := cell_of_row _ _ 2 _ _ _ HX2.out.2
  have qy3 : w2.cell? ⟨w1.heap.size + 1, 3, none⟩ = some (.slice a3' n3' c3') := cell_of_row _ _ 3 _ _ _ HX2.out.2
  go_wp2_with fail
  refine (spec_SameMacro [.string nm, .bool f, .slice a2 n2 c2, .slice a3 n3 c3] [.string nm', .bool f', .slice a2' n2' c2', .slice a3' n3' c3'] ⟨nm, f, ps, bd⟩ ⟨nm', f', ps', bd'⟩ fp fp' _ hR hR').mono ?_
  rintro e w3 ⟨rfl, hb3⟩
  rw [HS.out]
  have hs3 := hb3.size
  replace hR := sMacro.below hR hb3
  replace hR' := sMacro.below hR' hb3
  have HX3 := Lib.hid (And.intro (box_at HX2.out.1 hb3) (box_at HX2.out.2 hb3))
  replace hB := hB.trans (hb3.mono hB.size)
  clear hb3 HX2
  clear qx0 qy0 qx1 qy1 qx2 qy2 qx3 qy3
  have qx0 : w3.cell? ⟨w1.heap.size, 0, none⟩ = some (.string nm) := cell_of_row _ _ 0 _ _ _ HX3.out.1
  have qx1 : w3.cell? ⟨w1.heap.size, 1, none⟩ = some (.bool f) := cell_of_row _ _ 1 _ _ _ HX3.out.1
  have qx2 : w3.cell? ⟨w1.heap.size, 2, none⟩ = some (.slice a2 n2 c2) := cell_of_row _ _ 2 _ _ _ HX3.out.1
  have qx3 : w3.cell? ⟨w1.heap.size, 3, none⟩ = some (.slice a3 n3 c3) := cell_of_row _ _ 3 _ _ _ HX3.out.1
  have qy0 : w3.cell? ⟨w1.heap.size + 1, 0, none⟩ = some (.string nm') := cell_of_row _ _ 0 _ _ _ HX3.out.2
  have qy1 : w3.cell? ⟨w1.heap.size + 1, 1, none⟩ = some (.bool f') := cell_of_row _ _ 1 _ _ _ HX3.out.2
  have qy2 : w3.cell? ⟨w1.heap.size + 1, 2, none⟩ = some (.slice a2' n2' c2') := cell_of_row _ _ 2 _ _ _ HX3.out.2
  have qy3 : w3.cell? ⟨w1.heap.size + 1, 3, none⟩ = some (.slice a3' n3' c3') := cell_of_row _ _ 3 _ _ _ HX3.out.2
  go_wp2_with fail
  refine (impl_SameMacro [.string nm', .bool f', .slice a2' n2' c2', .slice a3' n3' c3'] [.string nm, .bool f, .slice a2 n2 c2, .slice a3 n3 c3] ⟨nm', f', ps', bd'⟩ ⟨nm, f, ps, bd⟩ fp' fp _ hR' hR).mono ?_
  rintro e w4 ⟨rfl, hb4⟩
  rw [sameMac_comm, HS.out]
  have hs4 := hb4.size
  replace hR := sMacro.below hR hb4
  have HX4 := Lib.hid (box_at HX3.out.1 hb4)
  replace hB := hB.trans (hb4.mono hB.size)
  clear hb4 HX3 hR' 
  clear qx0 qy0 qx1 qy1 qx2 qy2 qx3 qy3
  have qx0 : w4.cell? ⟨w1.heap.size, 0, none⟩ = some (.string nm) := cell_of_row _ _ 0 _ _ _ HX4.out
  have qx1 : w4.cell? ⟨w1.heap.size, 1, none⟩ = some (.bool f) := cell_of_row _ _ 1 _ _ _ HX4.out
  have qx2 : w4.cell? ⟨w1.heap.size, 2, none⟩ = some (.slice a2 n2 c2) := cell_of_row _ _ 2 _ _ _ HX4.out
  have qx3 : w4.cell? ⟨w1.heap.size, 3, none⟩ = some (.slice a3 n3 c3) := cell_of_row _ _ 3 _ _ _ HX4.out
  obtain ⟨nx, hnx, hrun, hnxs⟩ := add_name nm ⟨#[120]⟩ (by rw [one_size]; omega)
  rw [one_size] at hnxs
  have f0 : (w4.alloc (.cells #[.string nm, .bool f, .slice a2 n2 c2, .slice a3 n3 c3] 27)).frozen? ⟨w4.heap.size, 0, none⟩ = false := frozen_of_row _ _ 0 _ _ (heap_alloc_new w4 (.cells #[.string nm, .bool f, .slice a2 n2 c2, .slice a3 n3 c3] 27))
  have f0c : (w4.alloc (.cells #[.string nm, .bool f, .slice a2 n2 c2, .slice a3 n3 c3] 27)).cell? ⟨w4.heap.size, 0, none⟩ = some (.string nm) := cell_of_row _ _ 0 _ _ _ (heap_alloc_new w4 (.cells #[.string nm, .bool f, .slice a2 n2 c2, .slice a3 n3 c3] 27))
  have p0 : (w4.alloc (.cells #[.string nm, .bool f, .slice a2 n2 c2, .slice a3 n3 c3] 27)).cell? ⟨w1.heap.size, 0, none⟩ = some (.string nm) := cell_of_row _ _ 0 _ _ _ (box_at HX4.out (alloc_below' w4 (.cells #[.string nm, .bool f, .slice a2 n2 c2, .slice a3 n3 c3] 27)))
  have bq := alloc_below' w4 (.cells #[.string nx, .bool f, .slice a2 n2 c2, .slice a3 n3 c3] 27)
  have HO6 := Lib.hid (heap_alloc_new w4 (.cells #[.string nx, .bool f, .slice a2 n2 c2, .slice a3 n3 c3] 27))
  have HX6 := Lib.hid (box_at HX4.out bq)
  have HR6 := Lib.hid (sMacro.below hR bq)
  have HB6 := Lib.hid (hB.trans (bq.mono hB.size))
  obtain ⟨u2, u3, r2, r3, hce, hok, K2, K3, hfe⟩ := HR6.out
  simp only [List.cons.injEq, and_true, true_and] at hce
  obtain ⟨rfl, rfl⟩ := hce
  have HRO : Hid (sMacro.R (w4.alloc (.cells #[.string nx, .bool f, .slice a2 n2 c2, .slice a3 n3 c3] 27)) [.string nx, .bool f, .slice a2 n2 c2, .slice a3 n3 c3] ⟨nx, f, ps, bd⟩ fp) := ⟨_, _, r2, r3, rfl, (show okStr nx by unfold okStr maxLen; omega), K2, K3, hfe⟩
  have HNE : Hid (sameMac ⟨nm, f, ps, bd⟩ ⟨nx, f, ps, bd⟩ = false) := sameMac_name (fun e => by
    have e1 : nm.size = nx.size := by rw [show nm = nx from e]
    omega)
  clear bq K2 K3 hfe hok HX4 hR hB
  have rx0 : (w4.alloc (.cells #[.string nx, .bool f, .slice a2 n2 c2, .slice a3 n3 c3] 27)).cell? ⟨w1.heap.size, 0, none⟩ = some (.string nm) := cell_of_row _ _ 0 _ _ _ HX6.out
  have rx1 : (w4.alloc (.cells #[.string nx, .bool f, .slice a2 n2 c2, .slice a3 n3 c3] 27)).cell? ⟨w1.heap.size, 1, none⟩ = some (.bool f) := cell_of_row _ _ 1 _ _ _ HX6.out
  have rx2 : (w4.alloc (.cells #[.string nx, .bool f, .slice a2 n2 c2, .slice a3 n3 c3] 27)).cell? ⟨w1.heap.size, 2, none⟩ = some (.slice a2 n2 c2) := cell_of_row _ _ 2 _ _ _ HX6.out
  have rx3 : (w4.alloc (.cells #[.string nx, .bool f, .slice a2 n2 c2, .slice a3 n3 c3] 27)).cell? ⟨w1.heap.size, 3, none⟩ = some (.slice a3 n3 c3) := cell_of_row _ _ 3 _ _ _ HX6.out
  go_wp2_with fail
  generalize (w4.alloc (.cells #[.string nx, .bool f, .slice a2 n2 c2, .slice a3 n3 c3] 27)) = w6 at *
  refine (impl_SameMacro [.string nm, .bool f, .slice a2 n2 c2, .slice a3 n3 c3] [.string nm, .bool f, .slice a2 n2 c2, .slice a3 n3 c3] ⟨nm, f, ps, bd⟩ ⟨nm, f, ps, bd⟩ fp fp _ HR6.out HR6.out).mono ?_
  rintro e w7 ⟨rfl, hb7⟩
  rw [sameMac_self]
  have hR7 := sMacro.below HR6.out hb7
  have hO7 := sMacro.below HRO.out hb7
  have HX7 := Lib.hid (And.intro (box_at HX6.out hb7) (box_at HO6.out hb7))
  have hB7 := HB6.out.trans (hb7.mono HB6.out.size)
  clear hb7 HX6 HO6 HR6 HRO HB6 rx0 rx1 rx2 rx3 qx0 qx1 qx2 qx3 f0 f0c p0
  have qx0 : w7.cell? ⟨w1.heap.size, 0, none⟩ = some (.string nm) := cell_of_row _ _ 0 _ _ _ HX7.out.1
  have qx1 : w7.cell? ⟨w1.heap.size, 1, none⟩ = some (.bool f) := cell_of_row _ _ 1 _ _ _ HX7.out.1
  have qx2 : w7.cell? ⟨w1.heap.size, 2, none⟩ = some (.slice a2 n2 c2) := cell_of_row _ _ 2 _ _ _ HX7.out.1
  have qx3 : w7.cell? ⟨w1.heap.size, 3, none⟩ = some (.slice a3 n3 c3) := cell_of_row _ _ 3 _ _ _ HX7.out.1
  have qy0 : w7.cell? ⟨w4.heap.size, 0, none⟩ = some (.string nx) := cell_of_row _ _ 0 _ _ _ HX7.out.2
  have qy1 : w7.cell? ⟨w4.heap.size, 1, none⟩ = some (.bool f) := cell_of_row _ _ 1 _ _ _ HX7.out.2
  have qy2 : w7.cell? ⟨w4.heap.size, 2, none⟩ = some (.slice a2 n2 c2) := cell_of_row _ _ 2 _ _ _ HX7.out.2
  have qy3 : w7.cell? ⟨w4.heap.size, 3, none⟩ = some (.slice a3 n3 c3) := cell_of_row _ _ 3 _ _ _ HX7.out.2
  go_wp2_with fail
  refine (impl_SameMacro [.string nm, .bool f, .slice a2 n2 c2, .slice a3 n3 c3] [.string nx, .bool f, .slice a2 n2 c2, .slice a3 n3 c3] ⟨nm, f, ps, bd⟩ ⟨nx, f, ps, bd⟩ fp fp _ hR7 hO7).mono ?_
  rintro e w8 ⟨rfl, hb8⟩
  rw [HNE.out]
  have hB8 := hB7.trans (hb8.mono hB7.size)
  clear qx0 qx1 qx2 qx3 qy0 qy1 qy2 qy3
  go_wp2_with fail
  refine (alive _).mono ?_
  rintro e w' ⟨rfl, rfl⟩
  go_wp2
  go_ret
  exact ⟨rfl, hB8⟩

theorem own : ownKnob Try.prog.godebug = none := by kernel_rfl
theorem laidOut : laidOutB Try.prog = true := by kernel_rfl
theorem readable : ∀ t ∈ Try.f7.params.toList, Try.prog.readableRec t = true ∧ t < Try.prog.types.size := by
  rw [Try.params7]
  simp only [List.mem_cons, List.not_mem_nil, or_false]
  rintro t rfl
  exact ⟨by kernel_rfl, of_decide_eq_true (by kernel_rfl)⟩

set_option maxRecDepth 100000 in
theorem lifted (os : Os) (started : os.Started) (H : Type) (enc : TypeId × Value → H) :
    ReturnsInHanded {} Try.checked os 7 .any (Rows.fnSameMacroSpec.pre6 enc Try.prog Try.f7 Rows.fnSameMacroRow.domain false) (Rows.fnSameMacroSpec.post enc Try.prog Try.f7 false true false false) := by
  refine returnsInHanded_of_change (C := Try.checked) own started (by kernel_rfl) Try.func7
    (ChangeSpec.witness6 (enc := enc) (C := Try.checked) false ⟨#[], #[.slice none 0 0], []⟩ 8 (by kernel_rfl) (by kernel_rfl) (by kernel_rfl) (by kernel_rfl)) ?_
  intro W base args ds gs before hval0 hW hcnd _
  have hval : ∀ (j : Nat) t v, Try.f7.params[j]? = some t → args[j]? = some v → Value.okWide Try.prog W .any base t v := hval0
  have hW' := hW
  obtain ⟨p, q, hA0, hV, rfl, hfz, hnd⟩ := hW
  have hA : DataW.TrodAll enc Try.prog W 0 (fun _ => true) true Try.f7.params.toList args.toList ds p := hA0
  rw [Try.params7] at hA hval
  obtain ⟨v0, vs0, d0, ds0, p0, q0, hargs0, rfl, rfl, h0, r0⟩ := trodAll_cons hA
  obtain ⟨rfl, rfl, rfl⟩ := trodAll_nil r0
  obtain rfl : args = #[v0] := by cases args; simp_all
  obtain ⟨rfl, rfl⟩ := trodVars_none hV
  obtain ⟨a0, len0, cap0, rfl⟩ := okWide_slice Try.underlying41 (hval 0 41 v0 rfl rfl)
  obtain ⟨x0, fp0, H0⟩ := open_arg (opens_slice Try.underlying41 (by kernel_rfl) (by decide) (opens_byte Try.underlying5)) h0
  refine (walk _ x0 fp0 W H0).mono fun e W' ⟨he, hw⟩ => ?_
  subst he
  exact ⟨_, rfl, law_done laidOut readable rfl rfl Try.underlying4 hW' rfl rfl rfl hw⟩

theorem holds : Rows.FnSameMacroSaid :=
  OpenClaim.holds_of_wide 7 Try.f7 rfl rfl rfl rfl rfl rfl rfl ⟨rfl, rfl, rfl, rfl, rfl⟩ rfl rfl rfl rfl rfl (by kernel_rfl) Try.func7 (by kernel_rfl)
    (of_decide_eq_true (by kernel_rfl)) (by unfold Func.isWrapper; first | (rw [if_pos (by decide +kernel)]; kernel_rfl) | (rw [if_neg (by decide +kernel)]; exact ⟨rfl, rfl⟩))
    (fun os started H enc _ => lifted os started H enc)



end Go.Proofs.Ytdnjpjiepnhhhaa.lawSameMacro
