/- Values stand in parentheses, too: in parentheses it is the same; with ! before these it is 1 exactly if it was 0: for every input. No conditions. -/
import Derived.Test.YtiaiggjfepoahaaZU13
import Derived.Test.YtiaiggjfepoahaaZU14
import Derived.Test.YtiaiggjfepoahaaZU10
set_option linter.unusedVariables false
set_option linter.unusedSimpArgs false
namespace Go.Proofs.Ytiaiggjfepoahaa.lawValueOf
open Go.ChangeShapes Go.WideShapes Go.ChangeAt Go.RowKit Go.ChangeMaps

theorem val_fault {l : List Tok} {n f : Int} (h : valRes l = (n, f)) (hf : f ≠ 0) : n = 0 := by
  unfold valRes at h
  split at h
  · split at h
    · split at h
      · simp only [Prod.mk.injEq] at h; exact h.1.symm
      · split at h
        · simp only [Prod.mk.injEq] at h; exact h.1.symm
        · simp only [Prod.mk.injEq] at h; exact absurd h.2.symm hf
    · simp only [Prod.mk.injEq] at h; exact h.1.symm
  · simp only [Prod.mk.injEq] at h; exact h.1.symm
theorem val_valid {l : List Tok} {n : Int} (h : valRes l = (n, 0)) : toksOk l = true := by
  cases hv : toksOk l
  · rw [val_bad hv] at h; simp at h
  · rfl
theorem oT_ok : tokOk oT = true := by kernel_rfl
theorem cT_ok : tokOk cT = true := by kernel_rfl
theorem nT_ok : tokOk nT = true := by kernel_rfl
theorem toks_paren {l : List Tok} (h : toksOk l = true) (hl : l.length + 2 ≤ 60) : toksOk (oT :: (l ++ [cT])) = true := by
  unfold toksOk at h ⊢
  rw [Bool.and_eq_true] at h ⊢
  refine ⟨by rw [decide_eq_true_eq]; simp; omega, ?_⟩
  rw [List.all_cons, List.all_append, h.2, oT_ok, List.all_cons, cT_ok]; rfl
theorem toks_not {l : List Tok} (h : toksOk l = true) (hl : l.length + 3 ≤ 60) : toksOk (nT :: oT :: (l ++ [cT])) = true := by
  have h1 := toks_paren h (by omega)
  unfold toksOk at h1 ⊢
  rw [Bool.and_eq_true] at h1 ⊢
  refine ⟨by rw [decide_eq_true_eq]; simp; omega, ?_⟩
  rw [List.all_cons, h1.2, nT_ok]; rfl
theorem mark_reads (k : UInt8) (w : World) : sTok.R w [.int .i64 4, .string ⟨#[k]⟩, .bool false, .slice none 0 0] ⟨4, ⟨#[k]⟩, false, []⟩ [] :=
  ⟨_, rfl, (show okInt 4 from ⟨by decide, by decide⟩), (show (1 : Nat) ≤ maxLen by unfold maxLen; omega), slice_empty sStr _ _ 0 (by simp)⟩

set_option maxHeartbeats 8000000 in
set_option maxRecDepth 100000 in
theorem walk (v0 : Value) (x0 : List UInt8) (fp0 : List Nat) (w : World) (H0 : (sSlice sByte).R w [v0] x0 fp0) :
    Calls Try.prog 5 #[v0] w fun e w' => e = .returned (.bool true) ∧ Below w.heap.size w w' := by
  have HH := Lib.hid H0
  obtain ⟨a, cap, hv, hc, hm, h⟩ := H0
  obtain rfl : v0 = .slice a x0.length cap := by simpa using hv
  unfold maxLen at hm
  clear h hv
  go_enter Try.func5, Try.ntmps5
  by_cases hbig : 1048576 < x0.length
  · go_wp2
    go_ret
    exact ⟨rfl, Below.refl _ _⟩
  go_wp2_with fail
  refine (DrawValueOf _ x0 fp0 _ HH.out).mono ?_
  rintro e w1 ⟨v1, L, rfl, hE, hok, hl, hB⟩
  obtain ⟨f1, r1, -⟩ := hE.read
  have hl61 : (L.map (·.d)).length ≤ 61 := by rw [List.length_map]; exact hl
  generalize L.map (·.d) = l at r1 hl61
  have HR1 := Lib.hid r1
  have HI := Lib.hid (fun (Q : World) (hQ : Below w1.heap.size w1 Q) => impl_ValueOf v1 l f1 Q ((sSlice sTok).below HR1.out hQ))
  have HS := Lib.hid (fun (Q : World) (hQ : Below w1.heap.size w1 Q) => spec_ValueOf v1 l f1 Q ((sSlice sTok).below HR1.out hQ))
  unfold ValOf at HI HS
  have HLT := Lib.hid ((sSlice sTok).lt HR1.out)
  obtain ⟨a1, c1, rfl, -⟩ := open_rows r1
  rcases hx : valRes l with ⟨n, f⟩
  rw [hx] at HI HS
  try dsimp only at HI HS
  have HVX := Lib.hid hx
  have hnn : (n != n) = false := by simp
  have hff : (f != f) = false := by simp
  clear hx hE hok hl r1
  go_wp2_with fail
  refine (HI.out _ (Below.refl _ _)).mono ?_
  rintro e w2 ⟨rfl, hb2⟩
  go_wp2_with fail
  refine (HS.out _ hb2).mono ?_
  rintro e w3 ⟨rfl, hb3⟩
  have hb13 := hb2.trans (hb3.mono hb2.size)
  have hB3 := hB.trans (hb13.mono hB.size)
  clear HI HS hb2 hb3
  by_cases hf : f = 0
  rotate_left
  · have hn := val_fault HVX.out hf
    subst hn
    have g1 : (f != 0) = true := by simp [hf]
    have g2 : (f == 0) = false := by simp [hf]
    clear hf HVX
    go_wp2_with (go_at_call 9; refine (alive _).mono ?_; rintro e w' ⟨rfl, rfl⟩)
    go_ret
    exact ⟨rfl, hB3⟩
  subst hf
  by_cases hlen : 60 < l.length + 3
  · have g1 : (60 : Int) < (l.length : Int) + 3 := by omega
    clear hlen
    go_wp2_with (go_at_call 9; refine (alive _).mono ?_; rintro e w' ⟨rfl, rfl⟩)
    go_ret
    exact ⟨rfl, hB3⟩
  have g1 : ¬ (60 : Int) < (l.length : Int) + 3 := by omega
  have hv := val_valid HVX.out
  have HP := Lib.hid (val_paren HVX.out hv (toks_paren hv (by omega)))
  have HQ := Lib.hid (val_not HVX.out hv (toks_not hv (by omega)))
  have HL3 := Lib.hid ((sSlice sTok).below HR1.out hb13)
  have hws := hb13.size
  have ba := alloc_below' w3 (.cells #[.int .i64 4, .string ⟨#[40]⟩, .bool false, .slice none 0 0] 36)
  have HLO := Lib.hid (RowN.lit1 (S := sTok) (e := 36) (w := w3) (base := w3.heap.size) (x := (⟨[.int .i64 4, .string ⟨#[40]⟩, .bool false, .slice none 0 0], oT, []⟩ : Elem Tok)) (Nat.le_refl _) rfl (mark_reads 40 w3))
  have HLA := Lib.hid ((sSlice sTok).below HL3.out ba)
  have hBa := hB3.trans (ba.mono hB3.size)
  obtain ⟨nl, HNL⟩ : ∃ nl : Nat, Hid (nl = l.length) := ⟨_, Lib.hid rfl⟩
  have hnl : nl ≤ 57 := by rw [HNL.out]; omega
  rw [show l.length = nl from HNL.out.symm] at HLA g1 ⊢
  clear hlen hv hb13 ba
  go_wp2_with (at_builtin; first | (refine wp_append_anyN ti_tok rfl (by decide) tok_one1 _ rfl (.tmp 54) (.tmp 55) rfl w3.heap.size (.slice (some ⟨w3.heap.size, 0, none⟩) 1 1) (.slice a1 nl c1) l f1 rfl HLO.out rfl HLA.out (fun b hb e => by simp only [Value.ownBlock, Option.some.injEq] at e; have := HLT.out b hb; omega) (by rw [← HNL.out]; unfold maxLen; simp; omega) (by rw [← HNL.out]; simp; omega) (by simp) ?_; intro v5 X w5 hX hXf hR5 hg5 hp5; have hb5 : Below w3.heap.size w3 w5 := ((Below.refl _ _).alloc (Nat.le_refl _) _).grown hg5 (by simp) (fun b hb => by simp only [Value.ownBlock, Option.some.injEq] at hb; omega); have ba5 := alloc_below' w5 (.cells #[.int .i64 4, .string ⟨#[41]⟩, .bool false, .slice none 0 0] 36); have HL6 := Lib.hid (heap_alloc_new w5 (.cells #[.int .i64 4, .string ⟨#[41]⟩, .bool false, .slice none 0 0] 36)); have HR6 := Lib.hid (hR5.below ba5); have hb6 := hb5.trans (ba5.mono hb5.size); have hXl : ([(⟨[.int .i64 4, .string ⟨#[40]⟩, .bool false, .slice none 0 0], oT, []⟩ : Elem Tok)] ++ X).length = nl + 1 := (by rw [List.length_append, HNL.out, ← hX, List.length_map]; simp; omega); obtain ⟨a5, c5, hv5, -⟩ := hR5.val; rw [hXl] at hv5; subst hv5; have HXL := Lib.hid hXl; have HXD := Lib.hid hX; clear hXl) | (refine wp_append_rowN (X := [(⟨[.int .i64 4, .string ⟨#[41]⟩, .bool false, .slice none 0 0], cT, []⟩ : Elem Tok)]) ti_tok rfl (by decide) _ rfl (.tmp 56) (.tmp 58) rfl w3.heap.size (.slice a5 (nl + 1) c5) rfl HR6.out ⟨w5.heap.size, 0, none⟩ 1 1 rfl rfl (fun x hx => by obtain rfl := List.mem_singleton.1 hx; exact ⟨rfl, mark_reads 41 _, by simp⟩) (fun x hx => by obtain rfl := List.mem_singleton.1 hx; exact tok_one1 _ _ _ _ (mark_reads 41 w5)) (fun j u hj => by rw [addr_add, Nat.zero_add, cell_of_row _ _ _ _ _ _ HL6.out]; simpa using hj) (by have := HXL.out; unfold maxLen; omega) (by have := HXL.out; omega) hb6.size ?_; intro v7 w7 hR7 hg7 hp7))
  have hb7 : Below w3.heap.size w3 w7 := hb6.grown hg7 hb6.size (fun b hb => (hR5.mine b hb).1)
  have hB7 := hB3.trans (hb7.mono hB3.size)
  obtain ⟨f7, r7, g7, -⟩ := hR7.read
  have hD7 : ([(⟨[.int .i64 4, .string ⟨#[40]⟩, .bool false, .slice none 0 0], oT, []⟩ : Elem Tok)] ++ X ++ [(⟨[.int .i64 4, .string ⟨#[41]⟩, .bool false, .slice none 0 0], cT, []⟩ : Elem Tok)]).map (·.d) = oT :: (l ++ [cT]) := by rw [List.map_append, List.map_append, HXD.out]; simp [oT, cT]
  rw [hD7] at r7
  have hlen7 : (oT :: (l ++ [cT])).length = nl + 2 := by rw [HNL.out]; simp
  obtain ⟨a7, c7, hv7, -⟩ := open_rows r7
  rw [hlen7] at hv7
  subst hv7
  have HR7 := Lib.hid r7
  have HLT7 := Lib.hid ((sSlice sTok).lt r7)
  have HV7 := Lib.hid (impl_ValueOf _ _ f7 w7 r7)
  unfold ValOf at HV7
  rw [HP.out] at HV7
  try dsimp only at HV7
  clear hR7 hg7 hp7 r7 g7 hD7 hR5 hg5 hp5 hXf hb5 ba5 hb6 hb7
  go_wp2_with fail
  refine HV7.out.mono ?_
  rintro e w8 ⟨rfl, hb8⟩
  have hB8 := hB7.trans (hb8.mono hB7.size)
  have hw78 := hb8.size
  have ba8 := alloc_below' w8 (.cells #[.int .i64 4, .string ⟨#[33]⟩, .bool false, .slice none 0 0] 36)
  have HLN := Lib.hid (RowN.lit1 (S := sTok) (e := 36) (w := w8) (base := w8.heap.size) (x := (⟨[.int .i64 4, .string ⟨#[33]⟩, .bool false, .slice none 0 0], nT, []⟩ : Elem Tok)) (Nat.le_refl _) rfl (mark_reads 33 w8))
  have HRA := Lib.hid ((sSlice sTok).below ((sSlice sTok).below HR7.out hb8) ba8)
  clear HV7 hb8 HR7 HL6 HR6 HLO HLA HL3
  go_wp2_with (at_builtin; refine wp_append_anyN ti_tok rfl (by decide) tok_one1 _ rfl (.tmp 67) (.tmp 68) rfl w8.heap.size (.slice (some ⟨w8.heap.size, 0, none⟩) 1 1) (.slice a7 (nl + 2) c7) (oT :: (l ++ [cT])) f7 rfl HLN.out rfl HRA.out (fun b hb e => by simp only [Value.ownBlock, Option.some.injEq] at e; have := HLT7.out b hb; omega) (by rw [hlen7]; unfold maxLen; simp; omega) (by rw [hlen7]; simp; omega) (by simp) ?_; intro v9 Y w9 hY hYf hR9 hg9 hp9)
  have hb9 : Below w8.heap.size w8 w9 := (ba8).grown hg9 (by simp) (fun b hb => by simp only [Value.ownBlock, Option.some.injEq] at hb; omega)
  have hB9 := hB8.trans (hb9.mono hB8.size)
  obtain ⟨f9, r9, -, -⟩ := hR9.read
  have hD9 : ([(⟨[.int .i64 4, .string ⟨#[33]⟩, .bool false, .slice none 0 0], nT, []⟩ : Elem Tok)] ++ Y).map (·.d) = nT :: oT :: (l ++ [cT]) := by rw [List.map_append, hY]; rfl
  rw [hD9] at r9
  obtain ⟨a9, c9, hv9, -⟩ := open_rows r9
  subst hv9
  have HV9 := Lib.hid (impl_ValueOf _ _ f9 w9 r9)
  unfold ValOf at HV9
  rw [HQ.out] at HV9
  try dsimp only at HV9
  have hm : (n == n) = true := by simp
  clear hR9 hg9 hp9 r9 hD9 hY hYf HRA HLN ba8 hb9
  by_cases hn : n = 0
  · have g2 : (n == 0) = true := by simp [hn]
    rw [show bit1 (decide (n = 0)) = 1 by rw [decide_eq_true hn]; rfl] at HV9
    clear hn
    go_wp2_with fail
    refine HV9.out.mono ?_
    rintro e w10 ⟨rfl, hb10⟩
    go_wp2
    go_ret
    exact ⟨rfl, hB9.trans (hb10.mono hB9.size)⟩
  · have g2 : (n == 0) = false := by simp [hn]
    rw [show bit1 (decide (n = 0)) = 0 by rw [decide_eq_false hn]; rfl] at HV9
    clear hn
    go_wp2_with fail
    refine HV9.out.mono ?_
    rintro e w10 ⟨rfl, hb10⟩
    go_wp2
    go_ret
    exact ⟨rfl, hB9.trans (hb10.mono hB9.size)⟩

theorem own : ownKnob Try.prog.godebug = none := by kernel_rfl
theorem laidOut : laidOutB Try.prog = true := by kernel_rfl
theorem readable : ∀ t ∈ Try.f5.params.toList, Try.prog.readableRec t = true ∧ t < Try.prog.types.size := by
  rw [Try.params5]
  simp only [List.mem_cons, List.not_mem_nil, or_false]
  rintro t rfl
  exact ⟨by kernel_rfl, of_decide_eq_true (by kernel_rfl)⟩

set_option maxRecDepth 100000 in
theorem lifted (os : Os) (started : os.Started) (H : Type) (enc : TypeId × Value → H) :
    ReturnsInHanded {} Try.checked os 5 .any (Rows.fnValueOfSpec.pre6 enc Try.prog Try.f5 Rows.fnValueOfRow.domain false) (Rows.fnValueOfSpec.post enc Try.prog Try.f5 false true false false) := by
  refine returnsInHanded_of_change (C := Try.checked) own started (by kernel_rfl) Try.func5
    (ChangeSpec.witness6 (enc := enc) (C := Try.checked) false ⟨#[], #[.slice none 0 0], []⟩ 8 (by kernel_rfl) (by kernel_rfl) (by kernel_rfl) (by kernel_rfl)) ?_
  intro W base args ds gs before hval0 hW hcnd _
  have hval : ∀ (j : Nat) t v, Try.f5.params[j]? = some t → args[j]? = some v → Value.okWide Try.prog W .any base t v := hval0
  have hW' := hW
  obtain ⟨p, q, hA0, hV, rfl, hfz, hnd⟩ := hW
  have hA : DataW.TrodAll enc Try.prog W 0 (fun _ => true) true Try.f5.params.toList args.toList ds p := hA0
  rw [Try.params5] at hA hval
  obtain ⟨v0, vs0, d0, ds0, p0, q0, hargs0, rfl, rfl, h0, r0⟩ := trodAll_cons hA
  obtain ⟨rfl, rfl, rfl⟩ := trodAll_nil r0
  obtain rfl : args = #[v0] := by cases args; simp_all
  obtain ⟨rfl, rfl⟩ := trodVars_none hV
  obtain ⟨a0, len0, cap0, rfl⟩ := okWide_slice Try.underlying22 (hval 0 22 v0 rfl rfl)
  obtain ⟨x0, fp0, H0⟩ := open_arg (opens_slice Try.underlying22 (by kernel_rfl) (by decide) (opens_byte Try.underlying5)) h0
  refine (walk _ x0 fp0 W H0).mono fun e W' ⟨he, hw⟩ => ?_
  subst he
  exact ⟨_, rfl, law_done laidOut readable rfl rfl Try.underlying4 hW' rfl rfl rfl hw⟩

theorem holds : Rows.FnValueOfSaid :=
  OpenClaim.holds_of_wide 5 Try.f5 rfl rfl rfl rfl rfl rfl rfl ⟨rfl, rfl, rfl, rfl, rfl⟩ rfl rfl rfl rfl rfl (by kernel_rfl) Try.func5 (by kernel_rfl)
    (of_decide_eq_true (by kernel_rfl)) (by unfold Func.isWrapper; first | (rw [if_pos (by decide +kernel)]; kernel_rfl) | (rw [if_neg (by decide +kernel)]; exact ⟨rfl, rfl⟩))
    (fun os started H enc _ => lifted os started H enc)


end Go.Proofs.Ytiaiggjfepoahaa.lawValueOf
