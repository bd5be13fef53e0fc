/- Substitute: both answer alike; a body none of whose tokens is a parameter, # or ## stays. For every input. No conditions. -/
import Derived.Test.YtflbdanlcpojbaaZU14
import Derived.Test.YtflbdanlcpojbaaZU12
import Derived.Test.YtflbdanlcpojbaaZU13
import Derived.Test.YtflbdanlcpojbaaZU10
set_option linter.unusedVariables false
set_option linter.unusedSimpArgs false
namespace Go.Proofs.Ytflbdanlcpojbaa.lawSubstitute
open Go.ChangeShapes Go.WideShapes Go.ChangeAt Go.RowKit Go.ChangeMaps

def plT (ps : List ByteArray) (t : Tok) : Bool := ps.all (fun p => !(t.text.toList == p.toList)) && !(t.text.toList == [35]) && !(t.text.toList == [35, 35])
def plTo (ps : List ByteArray) (bd : List Tok) (k : Nat) : Bool := (bd.take k).all (plT ps)
def inTo (ps : List ByteArray) (x : ByteArray) (j : Nat) : Bool := (ps.take j).all fun p => !(x.toList == p.toList)
theorem plTo_succ {ps : List ByteArray} {bd : List Tok} {k : Nat} (hk : k < bd.length) : plTo ps bd (k + 1) = (plTo ps bd k && plT ps bd[k]) := by
  unfold plTo; rw [List.take_succ_eq_append_getElem hk, List.all_append]; simp
theorem plTo_all (nm : ByteArray) (f : Bool) (ps : List ByteArray) (bd : List Tok) {k : Nat} (hk : bd.length ≤ k) : plTo ps bd k = plainB ⟨nm, f, ps, bd⟩ := by unfold plTo; rw [List.take_of_length_le hk]; rfl
theorem inTo_succ {ps : List ByteArray} {x : ByteArray} {j : Nat} (hj : j < ps.length) : inTo ps x (j + 1) = (inTo ps x j && !(x.toList == ps[j].toList)) := by
  unfold inTo; rw [List.take_succ_eq_append_getElem hj, List.all_append]; simp
theorem inTo_all {ps : List ByteArray} {t : Tok} {j : Nat} (hj : ps.length ≤ j) : inTo ps t.text j = ps.all (fun p => !(t.text.toList == p.toList)) := by unfold inTo; rw [List.take_of_length_le hj]
theorem rows_ok {A : List (List Tok)} (h : ∀ l ∈ A, okRow l) : RowsSm A := fun k hk => by
  obtain ⟨h1, h2⟩ := h _ (List.getElem_mem hk)
  exact ⟨by omega, fun j hj => by have := h2 _ (List.getElem_mem hj); omega⟩
theorem mac_ok {m : DMacro} (h : okMac m) : MacSm m := ⟨by have := h.2.1; omega, by have := h.2.2.1; omega, fun k hk => by have := h.2.2.2 _ (List.getElem_mem hk); omega⟩

set_option maxHeartbeats 16000000 in
set_option maxRecDepth 100000 in
theorem walk (v0 : Value) (x0 : List UInt8) (fp0 : List Nat) (w : World) (H0 : (sSlice sByte).R w [v0] x0 fp0) :
    Calls Try.prog 3 #[v0] w fun e w' => e = .returned (.bool true) ∧ Below w.heap.size w w' := by
  have HH := Lib.hid H0
  obtain ⟨a, cap, hv, hc, hm, h⟩ := H0
  obtain rfl : v0 = .slice a x0.length cap := by simpa using hv
  unfold maxLen at hm
  clear h hv
  go_enter Try.func3, Try.ntmps3
  by_cases hbig : 1048576 < x0.length
  · go_wp2
    go_ret
    exact ⟨rfl, Below.refl _ _⟩
  go_wp2_with fail
  refine (DrawSubstitute _ x0 fp0 _ HH.out).mono ?_
  rintro e w1 ⟨nm, f, s2, s3, ps, bd, fp, va, A, fpa, vb, B, fpb, rfl, hT, hA, hB', hok, hla, hlb, hoA, hoB, hB⟩
  have HI := Lib.hid (fun W (hW : Below w1.heap.size w1 W) => impl_Substitute _ ⟨nm, f, ps, bd⟩ fp va vb A B fpa fpb W (sMacro.below hT hW) ((sSlice sToks).below hA hW) ((sSlice sToks).below hB' hW))
  have HS := Lib.hid (fun W (hW : Below w1.heap.size w1 W) => spec_Substitute _ ⟨nm, f, ps, bd⟩ fp va vb A B fpa fpb W (mac_ok hok) (by omega) (by omega) (rows_ok hoA) (rows_ok hoB) (sMacro.below hT hW) ((sSlice sToks).below hA hW) ((sSlice sToks).below hB' hW))
  unfold MineSub at HI
  unfold RetSub at HS
  obtain ⟨h2', h3', p2, p3, hcs, -, K2, K3, -⟩ := hT
  simp only [List.cons.injEq, Value.string.injEq, Value.bool.injEq, and_true, true_and] at hcs
  obtain ⟨e2, e3⟩ := hcs
  subst e2 e3
  have K2' := K2
  have K3' := K3
  obtain ⟨a2, c2, rfl, hc2, hm2, hcell2, -⟩ := open_strs K2
  obtain ⟨a3, c3, rfl, hc3, hm3, hrow3⟩ := open_rows K3
  obtain ⟨aa, ca, rfl, -, -, -⟩ := open_rows hA
  obtain ⟨ab, cb, rfl, -, -, -⟩ := open_rows hB'
  have hps : ps.length ≤ 100 := hok.2.1
  have hbd : bd.length ≤ 100 := hok.2.2.1
  clear K2 K3 hA hB' hok hla hlb hoA hoB
  have b0 := alloc_below' w1 (.cells #[.string nm, .bool f, .slice a2 ps.length c2, .slice a3 bd.length c3] 26)
  have HX := Lib.hid (heap_alloc_new w1 (.cells #[.string nm, .bool f, .slice a2 ps.length c2, .slice a3 bd.length c3] 26))
  have HK2 := Lib.hid ((sSlice sStr).below K2' b0)
  have HK3 := Lib.hid ((sSlice sTok).below K3' b0)
  have HC2 : Hid (∀ h : 0 < ps.length, ∃ b off, a2 = some ⟨b, off, none⟩ ∧ b < w1.heap.size ∧ ∀ j, (hj : j < ps.length) → w1.cell? ⟨b, off + j, none⟩ = some (.string ps[j])) := fun h => by
    obtain ⟨b, off, e, hb, -, hc⟩ := hcell2 h
    exact ⟨b, off, e, hb, hc⟩
  have HC3 : Hid (∀ h : 0 < bd.length, ∃ b off, a3 = some ⟨b, off, none⟩) := fun h => by
    obtain ⟨b, off, -, e, -⟩ := hrow3 h
    exact ⟨b, off, e⟩
  clear hcell2 hrow3 K2' K3'
  rcases hr : subRes ⟨nm, f, ps, bd⟩ A B with ⟨md, mb⟩
  rw [hr] at HI HS
  try dsimp only at HI HS
  have HR := Lib.hid hr
  clear hr
  have hne : (mb != mb) = false := by simp
  go_wp2_with fail
  refine (HI.out _ b0).mono ?_
  rintro e w2 ⟨vx, fx, rfl, rx, -, hb2⟩
  have hb12 := b0.trans (hb2.mono b0.size)
  have HX2 := Lib.hid (mbox HX.out hb2)
  have y0 := cell_of_row w2 (w1.heap.size) 0 _ _ _ HX2.out
  have y1 := cell_of_row w2 (w1.heap.size) 1 _ _ _ HX2.out
  have y2 := cell_of_row w2 (w1.heap.size) 2 _ _ _ HX2.out
  have y3 := cell_of_row w2 (w1.heap.size) 3 _ _ _ HX2.out
  obtain ⟨ax, cx, rfl, -⟩ := open_rows rx
  have HRX := Lib.hid rx
  clear rx
  go_wp2_with fail
  refine (HS.out _ hb12).mono ?_
  rintro e w3 ⟨vy, fy, rfl, ry, -, hb3⟩
  have hb13 := hb12.trans (hb3.mono hb12.size)
  have HX3 := Lib.hid (mbox HX2.out hb3)
  obtain ⟨ay, cy, rfl, -⟩ := open_rows ry
  have HSM := Lib.hid (sameTokens_same _ _ _ _ _ w3 ((sSlice sTok).below HRX.out hb3) ry)
  clear y0 y1 y2 y3 ry HI HS
  go_wp2_with fail
  refine HSM.out.mono ?_
  rintro e w4 ⟨rfl, hb4⟩
  have hb14 := hb13.trans (hb4.mono hb13.size)
  have hb24 := hb3.trans (hb4.mono hb3.size)
  have hB4 := hB.trans (hb14.mono hB.size)
  have HX4 := Lib.hid (mbox HX3.out hb4)
  have HRX4 := Lib.hid ((sSlice sTok).below HRX.out hb24)
  have hb04 := (show Below (w1.alloc (.cells #[.string nm, .bool f, .slice a2 ps.length c2, .slice a3 bd.length c3] 26)).heap.size (w1.alloc (.cells #[.string nm, .bool f, .slice a2 ps.length c2, .slice a3 bd.length c3] 26)) w4 from hb2.trans (hb24.mono hb2.size))
  have HK24 := Lib.hid ((sSlice sStr).below HK2.out hb04)
  have HK34 := Lib.hid ((sSlice sTok).below HK3.out hb04)
  clear HSM HX HX2 HX3 HRX b0 hb2 hb3 hb4 hb12 hb13 hb24 hb04 HK2 HK3
  cases mb
  · have HF : Hid (md.length = 0) := by show _ = _; rw [sub_false HR.out]; rfl
    have e0 : ((md.length : Int) == 0) = true := by rw [HF.out]; rfl
    go_wp2_with (go_at_call 9; refine (alive _).mono ?_; rintro e w' ⟨rfl, rfl⟩)
    go_ret
    exact ⟨rfl, hB4⟩
  have HPL : Hid (plainB ⟨nm, f, ps, bd⟩ = true → md = bd) := fun h => sub_plain h HR.out
  clear HR
  go_wp2
  go_loopw [10, 11] (fun p i wr => ∃ k : Nat, k ≤ bd.length ∧ i = .int .i64 k ∧ p = .bool (plTo ps bd k) ∧ Below w4.heap.size w4 wr) (fun _ i _ => bd.length - (intOf i).toNat)
  case atStart => exact ⟨0, by omega, rfl, rfl, Below.refl _ _⟩
  case round =>
    obtain ⟨k, hk, rfl, rfl, hb⟩ := hrel
    have HXr := Lib.hid (mbox HX4.out hb)
    have m2 := cell_of_row wr (w1.heap.size) 2 _ _ _ HXr.out
    have m3 := cell_of_row wr (w1.heap.size) 3 _ _ _ HXr.out
    by_cases hlt : k < bd.length
    · obtain ⟨bb, ob, rfl⟩ := HC3.out (by omega)
      obtain ⟨xa, xc, xf, -, xq1, -, -, -, hbb, -⟩ := tok_at HK34.out hlt
      have HQ1 := Lib.hid xq1
      obtain ⟨tx, HTX⟩ : ∃ tx, Hid (tx = bd[k].text) := ⟨bd[k].text, Lib.hid rfl⟩
      rw [show bd[k].text = tx from HTX.out.symm] at HQ1
      have i0 : (0 : Int) ≤ (k : Int) := by omega
      have i1 : (k : Int) < (bd.length : Int) := by omega
      obtain ⟨pk, HPK⟩ : ∃ pk, Hid (pk = plTo ps bd k) := ⟨plTo ps bd k, Lib.hid rfl⟩
      rw [show plTo ps bd k = pk from HPK.out.symm]
      clear xq1
      go_wp2
      clear m2 m3
      go_loopw [10, 12] (fun p i wi => ∃ j : Nat, j ≤ ps.length ∧ i = .int .i64 j ∧ p = .bool (pk && inTo ps tx j) ∧ Below w4.heap.size w4 wi) (fun _ i _ => ps.length - (intOf i).toNat)
      case atStart => exact ⟨0, by omega, rfl, by show _ = Value.bool (pk && true); rw [Bool.and_true], hb⟩
      case round =>
        obtain ⟨j, hj, rfl, rfl, hbi⟩ := hrel
        have HXi := Lib.hid (mbox HX4.out hbi)
        have m2 := cell_of_row wr (w1.heap.size) 2 _ _ _ HXi.out
        have m3 := cell_of_row wr (w1.heap.size) 3 _ _ _ HXi.out
        have x1 : wr.cell? ⟨bb, ob + k * 4 + 1, none⟩ = some (.string tx) := (hbi.cell (p := ⟨bb, ob + k * 4 + 1, none⟩) hbb).trans HQ1.out
        by_cases hjt : j < ps.length
        · obtain ⟨b2, o2, rfl, hb2, hc2'⟩ := HC2.out (by omega)
          have z1 : wr.cell? ⟨b2, o2 + j, none⟩ = some (.string ps[j]) := ((hb14.trans (hbi.mono hb14.size)).cell (p := ⟨b2, o2 + j, none⟩) hb2).trans (hc2' j hjt)
          have HFS := Lib.hid (inTo_succ (x := tx) hjt)
          have j0 : (0 : Int) ≤ (j : Int) := by omega
          have j1 : (j : Int) < (ps.length : Int) := by omega
          generalize ps[j] = pj at *
          clear hc2'
          cases hq : (pk && inTo ps tx j)
          · have HN : Hid ((pk && inTo ps tx (j + 1)) = false) := by show _ = _; rw [HFS.out, ← Bool.and_assoc, hq]; rfl
            clear hq
            go_wp2
            go_quiet (fail)
            go_wp2
            go_roundw
            case rel => exact ⟨j + 1, by omega, by go_num, by rw [HN.out], belowN hbi _⟩
            case measure => simp [intOf]; omega
          · cases he : (tx.toList == pj.toList)
            · have he' : (tx.toList != pj.toList) = true := by rw [bne, he]; rfl
              have HN : Hid ((pk && inTo ps tx (j + 1)) = true) := by show _ = _; rw [HFS.out, ← Bool.and_assoc, hq, he]; rfl
              clear hq
              go_wp2
              go_quiet (fail)
              go_wp2
              go_roundw
              case rel => exact ⟨j + 1, by omega, by go_num, by rw [HN.out], belowN hbi _⟩
              case measure => simp [intOf]; omega
            · have he' : (tx.toList != pj.toList) = false := by rw [bne, he]; rfl
              have HN : Hid ((pk && inTo ps tx (j + 1)) = false) := by show _ = _; rw [HFS.out, ← Bool.and_assoc, hq, he]; rfl
              clear hq
              go_wp2
              go_quiet (fail)
              go_wp2
              go_roundw
              case rel => exact ⟨j + 1, by omega, by go_num, by rw [HN.out], belowN hbi _⟩
              case measure => simp [intOf]; omega
        · have HA : Hid (inTo ps tx j = ps.all (fun p => !(bd[k].text.toList == p.toList))) := by show _ = _; rw [HTX.out]; exact inTo_all (by omega)
          have HS : Hid (plTo ps bd (k + 1) = (pk && inTo ps tx j && !(tx.toList == [35]) && !(tx.toList == [35, 35]))) := by
            show _ = _
            rw [plTo_succ hlt, HA.out, HPK.out, HTX.out]
            unfold plT
            rw [← Bool.and_assoc, ← Bool.and_assoc]
          cases hq : (pk && inTo ps tx j)
          · have HN : Hid (plTo ps bd (k + 1) = false) := by show _ = _; rw [HS.out, hq]; rfl
            clear hq
            go_wp2
            go_roundw
            case rel => exact ⟨k + 1, by omega, by go_num, by rw [HN.out], hbi⟩
            case measure => simp [intOf]; omega
          · cases he : (tx.toList == [35])
            · have he' : (tx.toList != [35]) = true := by rw [bne, he]; rfl
              cases hf : (tx.toList == [35, 35])
              · have hf' : (tx.toList != [35, 35]) = true := by rw [bne, hf]; rfl
                have HN : Hid (plTo ps bd (k + 1) = true) := by show _ = _; rw [HS.out, hq, he, hf]; rfl
                clear hq
                go_wp2
                go_roundw
                case rel => exact ⟨k + 1, by omega, by go_num, by rw [HN.out], hbi⟩
                case measure => simp [intOf]; omega
              · have hf' : (tx.toList != [35, 35]) = false := by rw [bne, hf]; rfl
                have HN : Hid (plTo ps bd (k + 1) = false) := by show _ = _; rw [HS.out, hq, he, hf]; rfl
                clear hq
                go_wp2
                go_roundw
                case rel => exact ⟨k + 1, by omega, by go_num, by rw [HN.out], hbi⟩
                case measure => simp [intOf]; omega
            · have he' : (tx.toList != [35]) = false := by rw [bne, he]; rfl
              have HN : Hid (plTo ps bd (k + 1) = false) := by show _ = _; rw [HS.out, hq, he]; rfl
              clear hq
              go_wp2
              go_roundw
              case rel => exact ⟨k + 1, by omega, by go_num, by rw [HN.out], hbi⟩
              case measure => simp [intOf]; omega
    · have HPA := Lib.hid (plTo_all nm f ps bd (k := k) (by omega))
      have hBr := hB4.trans (hb.mono hB4.size)
      cases hp : plTo ps bd k
      · clear hp
        go_wp2
        go_ret
        exact ⟨rfl, hBr⟩
      · have HE : Hid (md = bd) := HPL.out (by rw [← HPA.out]; exact hp)
        have HRX5 := Lib.hid ((sSlice sTok).below HRX4.out hb)
        have HBX5 := Lib.hid ((sSlice sTok).below HK34.out hb)
        have hRX : (sSlice sTok).R wr [.slice ax md.length cx] bd fx := by have h := HRX5.out; rw [HE.out] at h ⊢; exact h
        have HSM := Lib.hid (sameTokens_same _ _ _ _ _ wr hRX HBX5.out)
        clear hp hRX HPL
        go_wp2_with fail
        refine HSM.out.mono ?_
        rintro e w5 ⟨rfl, hb5⟩
        go_wp2
        go_ret
        exact ⟨rfl, hBr.trans (hb5.mono hBr.size)⟩

theorem own : ownKnob Try.prog.godebug = none := by kernel_rfl
theorem laidOut : laidOutB Try.prog = true := by kernel_rfl
theorem readable : ∀ t ∈ Try.f3.params.toList, Try.prog.readableRec t = true ∧ t < Try.prog.types.size := by
  rw [Try.params3]
  simp only [List.mem_cons, List.not_mem_nil, or_false]
  rintro t rfl
  exact ⟨by kernel_rfl, of_decide_eq_true (by kernel_rfl)⟩

set_option maxRecDepth 100000 in
theorem lifted (os : Os) (started : os.Started) (H : Type) (enc : TypeId × Value → H) :
    ReturnsInHanded {} Try.checked os 3 .any (Rows.fnSubstituteSpec.pre6 enc Try.prog Try.f3 Rows.fnSubstituteRow.domain false) (Rows.fnSubstituteSpec.post enc Try.prog Try.f3 false true false false) := by
  refine returnsInHanded_of_change (C := Try.checked) own started (by kernel_rfl) Try.func3
    (ChangeSpec.witness6 (enc := enc) (C := Try.checked) false ⟨#[], #[.slice none 0 0], []⟩ 8 (by kernel_rfl) (by kernel_rfl) (by kernel_rfl) (by kernel_rfl)) ?_
  intro W base args ds gs before hval0 hW hcnd _
  have hval : ∀ (j : Nat) t v, Try.f3.params[j]? = some t → args[j]? = some v → Value.okWide Try.prog W .any base t v := hval0
  have hW' := hW
  obtain ⟨p, q, hA0, hV, rfl, hfz, hnd⟩ := hW
  have hA : DataW.TrodAll enc Try.prog W 0 (fun _ => true) true Try.f3.params.toList args.toList ds p := hA0
  rw [Try.params3] at hA hval
  obtain ⟨v0, vs0, d0, ds0, p0, q0, hargs0, rfl, rfl, h0, r0⟩ := trodAll_cons hA
  obtain ⟨rfl, rfl, rfl⟩ := trodAll_nil r0
  obtain rfl : args = #[v0] := by cases args; simp_all
  obtain ⟨rfl, rfl⟩ := trodVars_none hV
  obtain ⟨a0, len0, cap0, rfl⟩ := okWide_slice Try.underlying22 (hval 0 22 v0 rfl rfl)
  obtain ⟨x0, fp0, H0⟩ := open_arg (opens_slice Try.underlying22 (by kernel_rfl) (by decide) (opens_byte Try.underlying5)) h0
  refine (walk _ x0 fp0 W H0).mono fun e W' ⟨he, hw⟩ => ?_
  subst he
  exact ⟨_, rfl, law_done laidOut readable rfl rfl Try.underlying4 hW' rfl rfl rfl hw⟩

theorem holds : Rows.FnSubstituteSaid :=
  OpenClaim.holds_of_wide 3 Try.f3 rfl rfl rfl rfl rfl rfl rfl ⟨rfl, rfl, rfl, rfl, rfl⟩ rfl rfl rfl rfl rfl (by kernel_rfl) Try.func3 (by kernel_rfl)
    (of_decide_eq_true (by kernel_rfl)) (by unfold Func.isWrapper; first | (rw [if_pos (by decide +kernel)]; kernel_rfl) | (rw [if_neg (by decide +kernel)]; exact ⟨rfl, rfl⟩))
    (fun os started H enc _ => lifted os started H enc)


end Go.Proofs.Ytflbdanlcpojbaa.lawSubstitute
