/- MacroOf: both say the same; what is accepted is valid, and its text defines a macro with the same text. For every input. No conditions. -/
import Derived.Test.YtdnjpjiepnhhhaaZU10
import Derived.Test.YtdnjpjiepnhhhaaZU9
set_option linter.unusedVariables false
set_option linter.unusedSimpArgs false
namespace Go.Proofs.Ytdnjpjiepnhhhaa.lawMacroOf
open Go.ChangeShapes Go.WideShapes Go.ChangeAt Go.RowKit Go.ChangeMaps

theorem box_at {w w' : World} {g : Nat} {arr : Array Value} {ty : TypeId} (h : w.heap[g]? = some (.cells arr ty (0, 0))) (hb : Below w.heap.size w w') : w'.heap[g]? = some (.cells arr ty (0, 0)) :=
  (hb.block g (Array.getElem?_eq_some_iff.1 h).1).trans h
theorem box_new (w : World) (arr : Array Value) (ty : TypeId) : (w.alloc (.cells arr ty)).heap[w.heap.size]? = some (.cells arr ty (0, 0)) := by
  show (w.heap.push _)[_]? = _; simp
/-- The text of what is read of the text of a macro is that text. -/
theorem text_again {l : List Tok} {m : DMacro} {s : ByteArray} (h : macOf l = (m, true)) (ht : macText m = (s, true)) : (macText (macOf (tokRes s).1).1).1 = s := by
  obtain ⟨l', h1, h2⟩ := mac_reads ht
  rw [h1]
  show (macText (macOf l').1).1 = s
  rw [h2]
  show (macText (macBack m)).1 = s
  rw [macBack_text (macOf_ok h), ht]

set_option maxHeartbeats 8000000 in
set_option maxRecDepth 100000 in
theorem walk (v0 : Value) (x0 : List UInt8) (fp0 : List Nat) (w : World) (H0 : (sSlice sByte).R w [v0] x0 fp0) :
    Calls Try.prog 6 #[v0] w fun e w' => e = .returned (.bool true) ∧ Below w.heap.size w w' := by
  have HH := Lib.hid H0
  obtain ⟨a, cap, hv, hc, hm, h⟩ := H0
  obtain rfl : v0 = .slice a x0.length cap := by simpa using hv
  unfold maxLen at hm
  clear h hv
  go_enter Try.func6, Try.ntmps6
  by_cases hbig : 1048576 < x0.length
  · go_wp2
    go_ret
    exact ⟨rfl, Below.refl _ _⟩
  go_wp2_with fail
  refine (DrawMacroOf _ x0 fp0 _ HH.out).mono ?_
  rintro e w1 ⟨v1, L, rfl, hE, hok, hlen, hB⟩
  obtain ⟨f1, r1, -⟩ := hE.read
  have hl : (L.map (fun x : Elem Tok => x.d)).length ≤ 1048576 := by rw [List.length_map]; omega
  have hx : Hid (∀ k, (hk : k < (L.map (fun x : Elem Tok => x.d)).length) → (L.map (fun x : Elem Tok => x.d))[k].hidden.length ≤ 2000000) := fun k hk => by
    have h1 : k < L.length := by rw [List.length_map] at hk; exact hk
    have := hok _ (List.getElem_mem h1)
    rw [List.getElem_map]
    have := this.2.2.2
    omega
  clear hE hok hlen
  generalize L.map (fun x : Elem Tok => x.d) = l at *
  go_wp2_with fail
  refine (impl_MacroOf v1 l f1 _ hl r1).mono ?_
  rintro e w2 ⟨cs2, f2, rfl, r2, -, b2⟩
  rcases hM : macOf l with ⟨⟨nm, fb, ps, bd⟩, ok⟩
  rw [hM] at r2
  have R2 := r2
  obtain ⟨h2, h3, p2, p3, rfl, -, K2, K3, rfl⟩ := r2
  obtain ⟨a2, c2, rfl, -⟩ := open_strs K2
  obtain ⟨a3, c3, rfl, -⟩ := open_rows K3
  clear K2 K3
  replace r1 := (sSlice sTok).below r1 b2
  replace hB := hB.trans (b2.mono hB.size)
  have b3 := alloc_below' w2 (.cells #[.string nm, .bool fb, .slice a2 ps.length c2, .slice a3 bd.length c3] 27)
  have HX := Lib.hid (box_new w2 #[.string nm, .bool fb, .slice a2 ps.length c2, .slice a3 bd.length c3] 27)
  replace R2 := sMacro.below R2 b3
  replace r1 := (sSlice sTok).below r1 b3
  replace hB := hB.trans (b3.mono hB.size)
  go_wp2_with fail
  refine (spec_MacroOf v1 l f1 _ hl hx.out r1).mono ?_
  rintro e w4 ⟨cs4, f4, rfl, r4, -, b4⟩
  rw [hM] at r4 ⊢
  have R4 := r4
  obtain ⟨h2, h3, q2, q3, rfl, -, K2, K3, rfl⟩ := r4
  obtain ⟨d2, e2, rfl, -⟩ := open_strs K2
  obtain ⟨d3, e3, rfl, -⟩ := open_rows K3
  clear K2 K3 r1
  replace R2 := sMacro.below R2 b4
  replace HX := Lib.hid (box_at HX.out b4)
  replace hB := hB.trans (b4.mono hB.size)
  have b5 := alloc_below' w4 (.cells #[.string nm, .bool fb, .slice d2 ps.length e2, .slice d3 bd.length e3] 27)
  have HY := Lib.hid (box_new w4 #[.string nm, .bool fb, .slice d2 ps.length e2, .slice d3 bd.length e3] 27)
  replace R2 := sMacro.below R2 b5
  replace R4 := sMacro.below R4 b5
  replace HX := Lib.hid (box_at HX.out b5)
  replace hB := hB.trans (b5.mono hB.size)
  clear b2 b3 b4 b5
  have qx0 : (w4.alloc (.cells #[.string nm, .bool fb, .slice d2 ps.length e2, .slice d3 bd.length e3] 27)).cell? ⟨w2.heap.size, 0, none⟩ = some (.string nm) := cell_of_row _ _ 0 _ _ _ HX.out
  have qx1 : (w4.alloc (.cells #[.string nm, .bool fb, .slice d2 ps.length e2, .slice d3 bd.length e3] 27)).cell? ⟨w2.heap.size, 1, none⟩ = some (.bool fb) := cell_of_row _ _ 1 _ _ _ HX.out
  have qx2 : (w4.alloc (.cells #[.string nm, .bool fb, .slice d2 ps.length e2, .slice d3 bd.length e3] 27)).cell? ⟨w2.heap.size, 2, none⟩ = some (.slice a2 ps.length c2) := cell_of_row _ _ 2 _ _ _ HX.out
  have qx3 : (w4.alloc (.cells #[.string nm, .bool fb, .slice d2 ps.length e2, .slice d3 bd.length e3] 27)).cell? ⟨w2.heap.size, 3, none⟩ = some (.slice a3 bd.length c3) := cell_of_row _ _ 3 _ _ _ HX.out
  have qy0 : (w4.alloc (.cells #[.string nm, .bool fb, .slice d2 ps.length e2, .slice d3 bd.length e3] 27)).cell? ⟨w4.heap.size, 0, none⟩ = some (.string nm) := cell_of_row _ _ 0 _ _ _ HY.out
  have qy1 : (w4.alloc (.cells #[.string nm, .bool fb, .slice d2 ps.length e2, .slice d3 bd.length e3] 27)).cell? ⟨w4.heap.size, 1, none⟩ = some (.bool fb) := cell_of_row _ _ 1 _ _ _ HY.out
  have qy2 : (w4.alloc (.cells #[.string nm, .bool fb, .slice d2 ps.length e2, .slice d3 bd.length e3] 27)).cell? ⟨w4.heap.size, 2, none⟩ = some (.slice d2 ps.length e2) := cell_of_row _ _ 2 _ _ _ HY.out
  have qy3 : (w4.alloc (.cells #[.string nm, .bool fb, .slice d2 ps.length e2, .slice d3 bd.length e3] 27)).cell? ⟨w4.heap.size, 3, none⟩ = some (.slice d3 bd.length e3) := cell_of_row _ _ 3 _ _ _ HY.out
  go_wp2_with fail
  generalize w4.alloc (.cells #[.string nm, .bool fb, .slice d2 ps.length e2, .slice d3 bd.length e3] 27) = w5 at *
  refine (sameMacro_same [.string nm, .bool fb, .slice a2 ps.length c2, .slice a3 bd.length c3] [.string nm, .bool fb, .slice d2 ps.length e2, .slice d3 bd.length e3] ⟨nm, fb, ps, bd⟩ _ _ _ R2 R4).mono ?_
  rintro e w6 ⟨rfl, b6⟩
  clear qx0 qx1 qx2 qx3 qy0 qy1 qy2 qy3 R4 HY
  replace R2 := sMacro.below R2 b6
  replace HX := Lib.hid (box_at HX.out b6)
  replace hB := hB.trans (b6.mono hB.size)
  clear b6
  have hbb : ∀ b : Bool, (b != b) = false := by intro b; simp
  have hbb' := hbb ok
  have qx0 : w6.cell? ⟨w2.heap.size, 0, none⟩ = some (.string nm) := cell_of_row _ _ 0 _ _ _ HX.out
  have qx1 : w6.cell? ⟨w2.heap.size, 1, none⟩ = some (.bool fb) := cell_of_row _ _ 1 _ _ _ HX.out
  have qx2 : w6.cell? ⟨w2.heap.size, 2, none⟩ = some (.slice a2 ps.length c2) := cell_of_row _ _ 2 _ _ _ HX.out
  have qx3 : w6.cell? ⟨w2.heap.size, 3, none⟩ = some (.slice a3 bd.length c3) := cell_of_row _ _ 3 _ _ _ HX.out
  cases ok
  · obtain ⟨rfl, rfl, rfl, rfl⟩ : nm = ⟨#[]⟩ ∧ fb = false ∧ ps = [] ∧ bd = [] := by have := macOf_no hM; simpa [zeroMac] using this
    clear hM
    go_wp2_with (go_at_call 24; refine (alive _).mono ?_; rintro e w' ⟨rfl, rfl⟩)
    go_ret
    exact ⟨rfl, hB⟩
  have HM := Lib.hid hM
  clear hM hbb hbb'
  go_wp2_with fail
  refine (impl_MacroText [.string nm, .bool fb, .slice a2 ps.length c2, .slice a3 bd.length c3] ⟨nm, fb, ps, bd⟩ _ _ R2).mono ?_
  rintro e w7 ⟨rfl, b7⟩
  have HS := Lib.hid (text_again HM.out (s := (macText ⟨nm, fb, ps, bd⟩).1))
  replace HS : Hid ((macText ⟨nm, fb, ps, bd⟩).2 = true → (macText (macOf (tokRes (macText ⟨nm, fb, ps, bd⟩).1).1).1).1 = (macText ⟨nm, fb, ps, bd⟩).1) := fun h => HS.out (Prod.ext rfl h)
  have hsz : (macText ⟨nm, fb, ps, bd⟩).1.size ≤ 200 := macText_size
  generalize (macText ⟨nm, fb, ps, bd⟩).1 = s at *
  generalize (macText ⟨nm, fb, ps, bd⟩).2 = good at *
  replace R2 := sMacro.below R2 b7
  replace HX := Lib.hid (box_at HX.out b7)
  replace hB := hB.trans (b7.mono hB.size)
  clear qx0 qx1 qx2 qx3 b7
  go_wp2_with fail
  refine (impl_TokensOf s _ (small_ok (by omega))).mono ?_
  rintro e w8 ⟨v8, f8, rfl, r8, -, b8⟩
  replace R2 := sMacro.below R2 b8
  replace HX := Lib.hid (box_at HX.out b8)
  replace hB := hB.trans (b8.mono hB.size)
  have hl8 : (tokRes s).1.length ≤ 1048576 := by have := (tokRes_all s).1; omega
  generalize (tokRes s).1 = l8 at *
  generalize (tokRes s).2 = k8 at *
  clear b8
  go_wp2_with fail
  refine (impl_MacroOf v8 l8 f8 _ hl8 r8).mono ?_
  rintro e w9 ⟨cs9, f9, rfl, r9, -, b9⟩
  replace R2 := sMacro.below R2 b9
  replace HX := Lib.hid (box_at HX.out b9)
  replace hB := hB.trans (b9.mono hB.size)
  generalize (macOf l8).1 = y at *
  generalize (macOf l8).2 = k9 at *
  obtain ⟨yn, yf, yp, yb⟩ := y
  have R9 := r9
  obtain ⟨h2, h3, q2, q3, rfl, -, K2, K3, rfl⟩ := r9
  obtain ⟨g2, g2c, rfl, -⟩ := open_strs K2
  obtain ⟨g3, g3c, rfl, -⟩ := open_rows K3
  have ba := alloc_below' w9 (.cells #[.string yn, .bool yf, .slice g2 yp.length g2c, .slice g3 yb.length g3c] 27)
  have HY := Lib.hid (box_new w9 #[.string yn, .bool yf, .slice g2 yp.length g2c, .slice g3 yb.length g3c] 27)
  replace R2 := sMacro.below R2 ba
  replace R9 := sMacro.below R9 ba
  replace HX := Lib.hid (box_at HX.out ba)
  replace hB := hB.trans (ba.mono hB.size)
  clear b9 ba K2 K3 r8
  have qy0 : (w9.alloc (.cells #[.string yn, .bool yf, .slice g2 yp.length g2c, .slice g3 yb.length g3c] 27)).cell? ⟨w9.heap.size, 0, none⟩ = some (.string yn) := cell_of_row _ _ 0 _ _ _ HY.out
  have qy1 : (w9.alloc (.cells #[.string yn, .bool yf, .slice g2 yp.length g2c, .slice g3 yb.length g3c] 27)).cell? ⟨w9.heap.size, 1, none⟩ = some (.bool yf) := cell_of_row _ _ 1 _ _ _ HY.out
  have qy2 : (w9.alloc (.cells #[.string yn, .bool yf, .slice g2 yp.length g2c, .slice g3 yb.length g3c] 27)).cell? ⟨w9.heap.size, 2, none⟩ = some (.slice g2 yp.length g2c) := cell_of_row _ _ 2 _ _ _ HY.out
  have qy3 : (w9.alloc (.cells #[.string yn, .bool yf, .slice g2 yp.length g2c, .slice g3 yb.length g3c] 27)).cell? ⟨w9.heap.size, 3, none⟩ = some (.slice g3 yb.length g3c) := cell_of_row _ _ 3 _ _ _ HY.out
  go_wp2_with fail
  generalize w9.alloc (.cells #[.string yn, .bool yf, .slice g2 yp.length g2c, .slice g3 yb.length g3c] 27) = wa at *
  refine (impl_MacroText [.string yn, .bool yf, .slice g2 yp.length g2c, .slice g3 yb.length g3c] ⟨yn, yf, yp, yb⟩ _ _ R9).mono ?_
  rintro e wb ⟨rfl, bb⟩
  clear qy0 qy1 qy2 qy3
  replace R2 := sMacro.below R2 bb
  replace HX := Lib.hid (box_at HX.out bb)
  replace hB := hB.trans (bb.mono hB.size)
  generalize (macText ⟨yn, yf, yp, yb⟩).1 = z at *
  generalize (macText ⟨yn, yf, yp, yb⟩).2 = kz at *
  clear bb R9 HY
  have qx0 : wb.cell? ⟨w2.heap.size, 0, none⟩ = some (.string nm) := cell_of_row _ _ 0 _ _ _ HX.out
  have qx1 : wb.cell? ⟨w2.heap.size, 1, none⟩ = some (.bool fb) := cell_of_row _ _ 1 _ _ _ HX.out
  have qx2 : wb.cell? ⟨w2.heap.size, 2, none⟩ = some (.slice a2 ps.length c2) := cell_of_row _ _ 2 _ _ _ HX.out
  have qx3 : wb.cell? ⟨w2.heap.size, 3, none⟩ = some (.slice a3 bd.length c3) := cell_of_row _ _ 3 _ _ _ HX.out
  have HV := Lib.hid (impl_MacroValid [.string nm, .bool fb, .slice a2 ps.length c2, .slice a3 bd.length c3] ⟨nm, fb, ps, bd⟩ _ _ R2)
  rw [macOf_ok HM.out] at HV
  cases good
  · clear HS
    go_wp2_with fail
    refine HV.out.mono ?_
    rintro e wc ⟨rfl, bc⟩
    go_wp2
    go_ret
    exact ⟨rfl, hB.trans (bc.mono hB.size)⟩
  · have hz := bytes_beq (HS.out rfl)
    clear HS
    go_wp2_with fail
    refine HV.out.mono ?_
    rintro e wc ⟨rfl, bc⟩
    go_wp2
    go_ret
    exact ⟨rfl, hB.trans (bc.mono hB.size)⟩

theorem own : ownKnob Try.prog.godebug = none := by kernel_rfl
theorem laidOut : laidOutB Try.prog = true := by kernel_rfl
theorem readable : ∀ t ∈ Try.f6.params.toList, Try.prog.readableRec t = true ∧ t < Try.prog.types.size := by
  rw [Try.params6]
  simp only [List.mem_cons, List.not_mem_nil, or_false]
  rintro t rfl
  exact ⟨by kernel_rfl, of_decide_eq_true (by kernel_rfl)⟩

set_option maxRecDepth 100000 in
theorem lifted (os : Os) (started : os.Started) (H : Type) (enc : TypeId × Value → H) :
    ReturnsInHanded {} Try.checked os 6 .any (Rows.fnMacroOfSpec.pre6 enc Try.prog Try.f6 Rows.fnMacroOfRow.domain false) (Rows.fnMacroOfSpec.post enc Try.prog Try.f6 false true false false) := by
  refine returnsInHanded_of_change (C := Try.checked) own started (by kernel_rfl) Try.func6
    (ChangeSpec.witness6 (enc := enc) (C := Try.checked) false ⟨#[], #[.slice none 0 0], []⟩ 8 (by kernel_rfl) (by kernel_rfl) (by kernel_rfl) (by kernel_rfl)) ?_
  intro W base args ds gs before hval0 hW hcnd _
  have hval : ∀ (j : Nat) t v, Try.f6.params[j]? = some t → args[j]? = some v → Value.okWide Try.prog W .any base t v := hval0
  have hW' := hW
  obtain ⟨p, q, hA0, hV, rfl, hfz, hnd⟩ := hW
  have hA : DataW.TrodAll enc Try.prog W 0 (fun _ => true) true Try.f6.params.toList args.toList ds p := hA0
  rw [Try.params6] at hA hval
  obtain ⟨v0, vs0, d0, ds0, p0, q0, hargs0, rfl, rfl, h0, r0⟩ := trodAll_cons hA
  obtain ⟨rfl, rfl, rfl⟩ := trodAll_nil r0
  obtain rfl : args = #[v0] := by cases args; simp_all
  obtain ⟨rfl, rfl⟩ := trodVars_none hV
  obtain ⟨a0, len0, cap0, rfl⟩ := okWide_slice Try.underlying41 (hval 0 41 v0 rfl rfl)
  obtain ⟨x0, fp0, H0⟩ := open_arg (opens_slice Try.underlying41 (by kernel_rfl) (by decide) (opens_byte Try.underlying5)) h0
  refine (walk _ x0 fp0 W H0).mono fun e W' ⟨he, hw⟩ => ?_
  subst he
  exact ⟨_, rfl, law_done laidOut readable rfl rfl Try.underlying4 hW' rfl rfl rfl hw⟩

theorem holds : Rows.FnMacroOfSaid :=
  OpenClaim.holds_of_wide 6 Try.f6 rfl rfl rfl rfl rfl rfl rfl ⟨rfl, rfl, rfl, rfl, rfl⟩ rfl rfl rfl rfl rfl (by kernel_rfl) Try.func6 (by kernel_rfl)
    (of_decide_eq_true (by kernel_rfl)) (by unfold Func.isWrapper; first | (rw [if_pos (by decide +kernel)]; kernel_rfl) | (rw [if_neg (by decide +kernel)]; exact ⟨rfl, rfl⟩))
    (fun os started H enc _ => lifted os started H enc)



end Go.Proofs.Ytdnjpjiepnhhhaa.lawMacroOf
