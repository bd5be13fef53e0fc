/- Texts that the proof of U stands on, in one file. -/
import Derived.Test.YtipfpppcbmpjiaaZU4
import Derived.Test.YtipfpppcbmpjiaaZU2
import Derived.Test.YtipfpppcbmpjiaaZU3
import Derived.Deep.RegionHeld3
import Derived.Deep.QuietTactic
import Derived.BigQuiet
import Derived.Outline
import Derived.StillTailTactics
import Derived.Deep.Fields
import Derived.ChangeSame
set_option linter.unusedVariables false
set_option linter.unusedSimpArgs false
/- Macros: their validity, their texts, and how they are read: no program. -/
namespace Go.Proofs.Ytipfpppcbmpjiaa
open Go.RowKit

structure DMacro where
  name : ByteArray
  function : Bool
  params : List ByteArray
  body : List Tok

def definedB : ByteArray := ⟨#[100, 101, 102, 105, 110, 101, 100]⟩
def hash1 : ByteArray := ⟨#[35]⟩
def hash2 : ByteArray := ⟨#[35, 35]⟩
def openB : ByteArray := ⟨#[40]⟩
def closeB : ByteArray := ⟨#[41]⟩
def commaB : ByteArray := ⟨#[44]⟩
/-- The number of the parameter that a token is, from k on, or -1. -/
def parFrom (ps : List ByteArray) (t : Tok) (k : Nat) : Int := if h : k < ps.length then (if t.kind = 1 ∧ ps[k] = t.text then (k : Int) else parFrom ps t (k + 1)) else -1
termination_by ps.length - k
def parOf (ps : List ByteArray) (t : Tok) : Int := parFrom ps t 0
def macHead (m : DMacro) : Bool := oneTok m.name 1 && !decide (m.name = definedB) && decide (m.params.length ≤ 4) && (m.function || decide (m.params.length = 0)) && decide (m.body.length ≤ 20)
def parOk (ps : List ByteArray) (k : Nat) : Bool := if h : k < ps.length then oneTok ps[k] 1 && (List.range k).all (fun j => !decide (ps[j]? = some ps[k])) else true
def bodOk (m : DMacro) (k : Nat) : Bool :=
  if h : k < m.body.length then
    tokOk m.body[k] && decide (m.body[k].hidden.length = 0) && !(decide (k = 0) && m.body[k].spaced) &&
    !(decide (m.body[k].text = hash2) && (decide (k = 0) || decide (k + 1 = m.body.length) || decide ((m.body[k - 1]'(by omega)).text = hash2))) &&
    !(m.function && decide (m.body[k].text = hash1) && (if h2 : k + 1 < m.body.length then decide (parOf m.params m.body[k + 1] < 0) else true))
  else true
def macOk (m : DMacro) : Bool := macHead m && (List.range m.params.length).all (parOk m.params) && (List.range m.body.length).all (bodOk m)

/-- The names of parameters from a place on, and where the body begins. -/
def parsAt (l : List Tok) (k : Nat) : Option (List ByteArray × Nat) :=
  if h : k + 1 < l.length then
    (if l[k].kind = 1 then (if l[k + 1].text = closeB then some ([l[k].text], k + 2) else if l[k + 1].text = commaB then (parsAt l (k + 2)).map (fun p => (l[k].text :: p.1, p.2)) else none) else none)
  else none
termination_by l.length - k
def parsOf (l : List Tok) : Option (List ByteArray × Nat) := if h : 2 < l.length then (if l[2].text = closeB ∧ l[2].kind = 4 then some ([], 3) else parsAt l 2) else none
/-- A body as it is read: nothing hidden, the first one not Spaced. -/
def bodyFrom (l : List Tok) (k : Nat) : List Tok := (l.drop k).mapIdx fun i t => ⟨t.kind, t.text, t.spaced && decide (0 < i), []⟩
def zeroMac : DMacro := ⟨⟨#[]⟩, false, [], []⟩
def macChk (m : DMacro) : DMacro × Bool := if macOk m = true then (m, true) else (zeroMac, false)
/-- Whether the second token opens parameters. -/
def opens2 (l : List Tok) : Bool := if h : 1 < l.length then decide (l[1].text = openB) && !l[1].spaced else false
def macOf (l : List Tok) : DMacro × Bool :=
  if h : toksOk l = true ∧ 0 < l.length then
    (if opens2 l = true then (match parsOf l with | some p => macChk ⟨l[0].text, true, p.1, bodyFrom l p.2⟩ | none => (zeroMac, false))
     else macChk ⟨l[0].text, false, [], bodyFrom l 1⟩)
  else (zeroMac, false)

/-! ### Valid macros -/
theorem macOk_facts {m : DMacro} (h : macOk m = true) : (oneTok m.name 1 = true ∧ m.name ≠ definedB ∧ m.params.length ≤ 4 ∧ (m.function = true ∨ m.params = []) ∧ m.body.length ≤ 20) ∧ (∀ k, (hk : k < m.params.length) → oneTok m.params[k] 1 = true) ∧ (∀ k, k < m.body.length → bodOk m k = true) := by
  unfold macOk macHead at h
  simp only [Bool.and_eq_true, Bool.not_eq_true', decide_eq_false_iff_not, decide_eq_true_eq, Bool.or_eq_true, List.all_eq_true, List.mem_range, List.length_eq_zero_iff] at h
  obtain ⟨⟨⟨⟨⟨⟨h1, h2⟩, h3⟩, h4⟩, h5⟩, h6⟩, h7⟩ := h
  refine ⟨⟨h1, h2, h3, h4, h5⟩, fun k hk => ?_, h7⟩
  have := h6 k hk
  unfold parOk at this
  rw [dif_pos hk, Bool.and_eq_true] at this
  exact this.1
theorem bodOk_facts {m : DMacro} {k : Nat} (hk : k < m.body.length) (h : bodOk m k = true) : tokOk m.body[k] = true ∧ m.body[k].hidden = [] ∧ (k = 0 → m.body[k].spaced = false) := by
  unfold bodOk at h
  rw [dif_pos hk] at h
  simp only [Bool.and_eq_true, decide_eq_true_eq, List.length_eq_zero_iff, Bool.not_eq_true', Bool.and_eq_false_iff, decide_eq_false_iff_not] at h
  obtain ⟨⟨⟨⟨h1, h2⟩, h3⟩, _⟩, _⟩ := h
  exact ⟨h1, h2, fun h => h3.resolve_left (fun h' => h' h)⟩
end Go.Proofs.Ytipfpppcbmpjiaa

/- Macro: its shape, and the law's own helpers. (Made by rec.py.) -/
namespace Go.Proofs.Ytipfpppcbmpjiaa
open Go.RowKit Go.ChangeShapes Go.WideShapes Go.Deep

def sMacro : Shape DMacro where
  m := 4
  R w cs d fp := ∃ (h2 : Value) (h3 : Value) (fp2 : List Nat) (fp3 : List Nat), cs = [.string d.name, .bool d.function, h2, h3] ∧ okStr d.name ∧ (sSlice sStr).R w [h2] d.params fp2 ∧ (sSlice sTok).R w [h3] d.body fp3 ∧ fp = fp2 ++ fp3
  frame := by
    rintro w w' cs d fp hf ⟨h2, h3, fp2, fp3, rfl, k0, K2, K3, rfl⟩
    exact ⟨h2, h3, fp2, fp3, rfl, k0, (sSlice sStr).frame (fun b hb => hf b (by simp [hb])) K2, (sSlice sTok).frame (fun b hb => hf b (by simp [hb])) K3, rfl⟩
  lt := by
    rintro w cs d fp ⟨h2, h3, fp2, fp3, rfl, k0, K2, K3, rfl⟩ b hb
    rcases List.mem_append.1 hb with hb | hb
    · exact (sSlice sStr).lt K2 b hb
    · exact (sSlice sTok).lt K3 b hb
theorem ti_Macro : TI Try.prog 23 70 (.agg #[.string ⟨#[]⟩, .bool false, .slice none 0 0, .slice none 0 0]) 4 72 := ⟨by kernel_rfl, by kernel_rfl⟩
def mkMacro (k : Int) (x : DMacro) : DMacro := ⟨mtext (k), (k + 1) % 3 == 0, marks mtext (k + 1 + 1) x.params.length, mkTokenS (k + 1 + 1 + (x.params.length : Int)) x.body⟩
def cntMacro (x : DMacro) : Nat := 2 + x.params.length + cntTokenS x.body
def mkMacroS (k : Int) (l : List DMacro) : List DMacro := mkAll mkMacro cntMacro k l
def cntMacroS (l : List DMacro) : Nat := cntAll cntMacro l
def wtMacro (x : DMacro) : Nat := x.name.size + wtStringS x.params + wtTokenS x.body
def wtMacroS (l : List DMacro) : Nat := l.length + (l.map wtMacro).sum

section
variable {H : Type} {enc : TypeId × Value → H} {P : Program} {w : World} {base : Nat} {spare : Nat → Bool} {held : Bool}
theorem opensP_Macro {t : TypeId} {f0 f1 f2 f3 : Field} (hs : P.underlying t = some (.struct #[f0, f1, f2, f3])) (hone : oneCellFields P #[f0, f1, f2, f3] = true) (hC : P.cellsOf t = 4) (h0 : Opens enc P w base spare held f0.type sStr) (h1 : Opens enc P w base spare held f1.type sBool) (h2 : Opens enc P w base spare held f2.type (sSlice sStr)) (h3 : Opens enc P w base spare held f3.type (sSlice sTok)) : Opens enc P w base spare held t sMacro := by
  intro fuel cs x h
  obtain ⟨xs, n, _, hx, hcl, hlen, hg⟩ := DataW.trod_struct hs h
  rw [hC] at hcl
  match cs, hcl with
  | [c0, c1, c2, c3], _ =>
    obtain ⟨o0, k0⟩ := hone_of hone 0 f0 rfl
    have g0 := hg 0 f0 rfl
    rw [o0, k0] at g0
    obtain ⟨o1, k1⟩ := hone_of hone 1 f1 rfl
    have g1 := hg 1 f1 rfl
    rw [o1, k1] at g1
    obtain ⟨o2, k2⟩ := hone_of hone 2 f2 rfl
    have g2 := hg 2 f2 rfl
    rw [o2, k2] at g2
    obtain ⟨o3, k3⟩ := hone_of hone 3 f3 rfl
    have g3 := hg 3 f3 rfl
    rw [o3, k3] at g3
    match xs, hlen with
    | [y0, y1, y2, y3], _ =>
      obtain ⟨d0, p0, hc0, hok0, rfl⟩ := h0 n _ _ g0
      obtain ⟨d1, p1, hc1, hok1, rfl⟩ := h1 n _ _ g1
      obtain ⟨d2, p2, hc2⟩ := h2 n _ _ g2
      obtain ⟨d3, p3, hc3⟩ := h3 n _ _ g3
      simp at hc0 hc1 hc2 hc3
      subst hc0
      subst hc1
      exact ⟨⟨d0, d1, d2, d3⟩, p2 ++ p3, c2, c3, p2, p3, rfl, hok0, hc2, hc3, rfl⟩
end
section
variable {H : Type} {enc : TypeId × Value → H} {w : World} {base : Nat} {spare : Nat → Bool} {held : Bool}
theorem opens_Macro : Opens enc Try.prog w base spare held 66 sMacro :=
  opensP_Macro Try.underlying66 (by kernel_rfl) (by kernel_rfl) (opens_str Try.underlying9) (opens_bool Try.underlying4) (opens_slice Try.underlying31 (by kernel_rfl) (by decide) (opens_str Try.underlying9)) (opens_slice Try.underlying36 (by kernel_rfl) (by decide) opens_Token)
end
set_option maxHeartbeats 8000000 in
set_option maxRecDepth 100000 in
theorem eqMacro_same (cs1 cs2 : List Value) (x : DMacro) (fp1 fp2 : List Nat) (w : World) (H1 : sMacro.R w cs1 x fp1) (H2 : sMacro.R w cs2 x fp2) :
    Calls Try.prog 43 #[.agg cs1.toArray, .agg cs2.toArray] w fun e w' => e = .returned (.bool true) ∧ Below w.heap.size w w' := by
  obtain ⟨h2, h3, fpa2, fpa3, rfl, -, K2, K3, rfl⟩ := H1
  obtain ⟨g2, g3, fpb2, fpb3, rfl, -, L2, L3, rfl⟩ := H2
  have b0 := alloc_below' w (.cells #[.string x.name, .bool x.function, h2, h3] 70)
  have b1 := b0.trans ((alloc_below' (w.alloc (.cells #[.string x.name, .bool x.function, h2, h3] 70)) (.cells #[.string x.name, .bool x.function, g2, g3] 70)).mono b0.size)
  have HC2 : Hid (∀ W, Below w.heap.size w W → Calls Try.prog 61 #[h2, g2] W fun e w' => e = .returned (.bool true) ∧ Below W.heap.size W w') := fun W hb => eqStringS_same h2 g2 x.params _ _ W ((sSlice sStr).below K2 hb) ((sSlice sStr).below L2 hb)
  have HC3 : Hid (∀ W, Below w.heap.size w W → Calls Try.prog 14 #[h3, g3] W fun e w' => e = .returned (.bool true) ∧ Below W.heap.size W w') := fun W hb => eqTokenS_same h3 g3 x.body _ _ W ((sSlice sTok).below K3 hb) ((sSlice sTok).below L3 hb)
  have HX := Lib.hid (alloc2_blk w #[.string x.name, .bool x.function, h2, h3] #[.string x.name, .bool x.function, g2, g3] 70 70)
  have e0 := bytes_beq (rfl : x.name = x.name)
  have e1 : (x.function != x.function) = false := by simp
  go_enter Try.func43, Try.ntmps43
  go_wp2_with fail
  refine (HC2.out _ b1).mono ?_
  rintro e w2 ⟨rfl, c2⟩
  have d2 := b1.trans (c2.mono b1.size)
  replace HX := Lib.hid (And.intro ((c2.block _ (Array.getElem?_eq_some_iff.1 HX.out.1).1).trans HX.out.1) ((c2.block _ (Array.getElem?_eq_some_iff.1 HX.out.2).1).trans HX.out.2))
  have qa3 : w2.cell? ⟨w.heap.size, 3, none⟩ = some (h3) := cell_of_row _ _ 3 _ _ _ HX.out.1
  have qb3 : w2.cell? ⟨w.heap.size + 1, 3, none⟩ = some (g3) := cell_of_row _ _ 3 _ _ _ HX.out.2
  clear c2
  go_wp2_with fail
  refine (HC3.out _ d2).mono ?_
  rintro e w3 ⟨rfl, c3⟩
  have d3 := d2.trans (c3.mono d2.size)
  go_wp2
  go_ret
  exact ⟨rfl, d3⟩

set_option maxHeartbeats 8000000 in
set_option maxRecDepth 100000 in
theorem eqMacroS_same (v1 v2 : Value) (l : List DMacro) (fp1 fp2 : List Nat) (w : World) (H1 : (sSlice sMacro).R w [v1] l fp1) (H2 : (sSlice sMacro).R w [v2] l fp2) :
    Calls Try.prog 15 #[v1, v2] w fun e w' => e = .returned (.bool true) ∧ Below w.heap.size w w' := by
  obtain ⟨a1, cap1, rfl, hc1, hm1, hrow1⟩ := open_rows H1
  obtain ⟨a2, cap2, rfl, hc2, hm2, hrow2⟩ := open_rows H2
  unfold maxLen at hm1 hm2
  have hnb : ((l.length : Int) != (l.length : Int)) = false := by simp
  go_enter Try.func15, Try.ntmps15
  go_wp2
  go_loopw [5] (fun i wr => ∃ k : Nat, k ≤ l.length ∧ i = .int .i64 k ∧ Below w.heap.size w wr) (fun i _ => l.length - (intOf i).toNat)
  case atStart => exact ⟨0, by omega, rfl, Below.refl _ _⟩
  case round =>
    obtain ⟨k, hk, rfl, hb⟩ := hrel
    by_cases hlt : k < l.length
    · obtain ⟨b1, off1, fps1, rfl, hb1, rfl, he1⟩ := hrow1 (by omega)
      obtain ⟨b2, off2, fps2, rfl, hb2, rfl, he2⟩ := hrow2 (by omega)
      obtain ⟨es1, hE1, hR1⟩ := he1 k hlt
      obtain ⟨es2, hE2, hR2⟩ := he2 k hlt
      clear hrow1 hrow2 he1 he2 H1 H2
      replace hE1 := hE1.frame (hb.block b1 hb1)
      replace hE2 := hE2.frame (hb.block b2 hb2)
      have HC : Hid (∀ W, Below wr.heap.size wr W → Calls Try.prog 43 #[.agg es1.toArray, .agg es2.toArray] W fun e w' => e = .returned (.bool true) ∧ Below W.heap.size W w') := fun W hW => eqMacro_same _ _ l[k] _ _ W (sMacro.below (sMacro.below hR1 hb) hW) (sMacro.below (sMacro.below hR2 hb) hW)
      obtain ⟨h2, h3, fpa2, fpa3, rfl, -, K2, K3, -⟩ := hR1
      obtain ⟨g2, g3, fpb2, fpb3, rfl, -, L2, L3, -⟩ := hR2
      have c1_0 : wr.cell? ⟨b1, off1 + k * 4, none⟩ = some _ := elem_cell0 hE1 (by decide) rfl
      have c1_1 : wr.cell? ⟨b1, off1 + k * 4 + 1, none⟩ = some _ := elem_cell (j := 1) hE1 (by decide) rfl
      have c1_2 : wr.cell? ⟨b1, off1 + k * 4 + 2, none⟩ = some _ := elem_cell (j := 2) hE1 (by decide) rfl
      have c1_3 : wr.cell? ⟨b1, off1 + k * 4 + 3, none⟩ = some _ := elem_cell (j := 3) hE1 (by decide) rfl
      have c2_0 : wr.cell? ⟨b2, off2 + k * 4, none⟩ = some _ := elem_cell0 hE2 (by decide) rfl
      have c2_1 : wr.cell? ⟨b2, off2 + k * 4 + 1, none⟩ = some _ := elem_cell (j := 1) hE2 (by decide) rfl
      have c2_2 : wr.cell? ⟨b2, off2 + k * 4 + 2, none⟩ = some _ := elem_cell (j := 2) hE2 (by decide) rfl
      have c2_3 : wr.cell? ⟨b2, off2 + k * 4 + 3, none⟩ = some _ := elem_cell (j := 3) hE2 (by decide) rfl
      go_wp2_with fail
      go_still_tail 8, (by kernel_rfl)
      change wpList _ _ _ _ _ wr.drew
      have hd : Below wr.heap.size wr wr.drew := belowN (Below.refl _ _) 1
      generalize wr.drew = w2 at *
      go_wp2_with (go_at_call 43; refine (HC.out _ hd).mono ?_; rintro e w3 ⟨rfl, hb3⟩)
      go_roundw
      case rel => exact ⟨k + 1, by omega, by go_num, (hb.trans (hd.mono hb.size)).trans (hb3.mono (Nat.le_trans hb.size hd.size))⟩
      case measure => simp [intOf]; omega
    · go_wp2
      go_ret
      exact ⟨rfl, hb⟩

set_option maxHeartbeats 8000000 in
set_option maxRecDepth 100000 in
theorem markMacroS (v : Value) (l : List DMacro) (fp : List Nat) (lo : Nat) (k : Int) (w : World) (h0 : 0 ≤ k) (h1 : k + cntMacroS l ≤ 2305843009213693952) (H : (sSlice sMacro).R w [v] l fp) (O : Own w lo fp) :
    Calls Try.prog 16 #[v, .int .i64 k] w (Marked (sSlice sMacro) v (mkMacroS k l) fp lo (k + cntMacroS l) w) := by
  have HI := Lib.hid H
  obtain ⟨a, cap, rfl, hc, hm, hrow0⟩ := open_rows H
  have hm' := hm
  unfold maxLen at hm
  clear H hrow0
  go_enter Try.func16, Try.ntmps16
  go_wp2
  go_loopw [1, 5] (fun t i wr => ∃ (j : Nat) (L : List DMacro) (kk : Int), j ≤ l.length ∧ i = .int .i64 j ∧ t = .int .i64 kk ∧ Hid (kk = k + cntAll cntMacro (l.take j)) ∧ Hid (MkUpto mkMacro cntMacro k l j L) ∧ Hid ((sSlice sMacro).R wr [.slice a l.length cap] L fp) ∧ Own wr lo fp ∧ Kept fp w wr) (fun _ i _ => l.length - (intOf i).toNat)
  case atStart => exact ⟨0, l, k, by omega, rfl, rfl, by show _ = _; simp [cntAll], MkUpto.zero _ _, HI.out, O, Kept.refl _ _⟩
  case round =>
    obtain ⟨j, L, kk, hj, rfl, rfl, HKK, HM, HR, HO, HK⟩ := hrel
    by_cases hlt : j < l.length
    · obtain ⟨a', cap', hv, hc', hm'', hrow⟩ := open_rows HR.out
      have hLl := HM.out.len
      obtain ⟨b, off, fps, hab, hb, hfp, he⟩ := hrow (by omega)
      simp only [Value.slice.injEq] at hv
      obtain ⟨rfl, hv2, rfl⟩ := hv
      subst hab
      clear hv2
      rw [hLl] at hfp
      subst hfp
      obtain ⟨es, hE, hR⟩ := he j (by omega)
      rw [HM.out.at hlt] at hR
      have hle := cntAll_le (c := cntMacro) l (j + 1)
      rw [cntAll_take hlt] at hle
      have hc3 : cntMacro l[j] = 2 + l[j].params.length + cntTokenS l[j].body := rfl
      have hKb : (0 : Int) ≤ kk ∧ kk + ((2 + l[j].params.length + cntTokenS l[j].body : Nat) : Int) ≤ 2305843009213693952 := by
        have := HKK.out
        unfold cntMacroS at h1
        omega
      obtain ⟨hk0, hk1⟩ := hKb
      have HX := Lib.hid (HM.out.succ hlt)
      have HXK : Hid (kk + ((2 + l[j].params.length + cntTokenS l[j].body : Nat) : Int) = k + cntAll cntMacro (l.take (j + 1))) := by
        show _ = _
        rw [cntAll_take hlt]
        have := HKK.out
        omega
      rw [← HKK.out] at HX
      obtain ⟨h2, h3, fp_2, fp_3, rfl, _k0, K2, K3, hfj⟩ := hR
      have hnd := HO.1
      have hap := flat_apart hnd hlt
      have hbm : b ∈ b :: (List.range l.length).flatMap fps := by simp
      have Hrow : Hid (∀ (w' : World) (d : DMacro) (es' : List Value), Turned b (off + j * sMacro.m) (off + j * sMacro.m + sMacro.m) (fps j) wr w' → ElemAt w' b off sMacro.m j es' → sMacro.R w' es' d (fps j) → (sSlice sMacro).R w' [.slice (some ⟨b, off, none⟩) l.length cap] (L.set j d) (b :: (List.range l.length).flatMap fps)) :=
        fun w' d es' hT h1 h2 => row_turned hLl hc hm' hb he hlt hnd hT h1 h2
      clear he hrow hc' hm'' hle h1 hLl hc3
      have hm4 : sMacro.m = 4 := rfl
      rw [hm4] at hE
      have hnj := flat_nodup hnd hlt
      rw [hfj] at hnj hap
      have Hfj := Lib.hid hfj
      obtain ⟨hn1, hn2, hn3⟩ := List.nodup_append.1 hnj
      clear hfj
      have W0 := Lib.hid (Wr.start (fpj := (fp_2 ++ fp_3)) hE HO hb hbm hap.1)
      have HOK : Hid (okStr (mtext (kk))) := mtext_size (by omega)
      go_wp2_with fail
      refine (markText _ _ (by omega)).mono ?_
      rintro e u0 ⟨rfl, hb0⟩
      have W1 := Lib.hid (W0.out.below hb0)
      replace K2 := (sSlice sStr).below K2 hb0
      replace K3 := (sSlice sTok).below K3 hb0
      clear hb0 
      have c0 := W1.out.cell0 (by decide) rfl
      have f0 := W1.out.frozen (off + j * 4)
      have W2 := Lib.hid (W1.out.set0 (by decide) (.string (mtext (kk))))
      replace K2 := (sSlice sStr).setB (b := b) K2 (fun hx => hap.1 (by simp [hx])) (off + j * 4) (.string (mtext (kk)))
      replace K3 := (sSlice sTok).setB (b := b) K3 (fun hx => hap.1 (by simp [hx])) (off + j * 4) (.string (mtext (kk)))
      have c1 := W2.out.cell 1 (by decide) rfl
      have f1 := W2.out.frozen (off + j * 4 + 1)
      have W3 := Lib.hid (W2.out.set 1 (by decide) (.bool ((kk + 1) % 3 == 0)))
      replace K2 := (sSlice sStr).setB (b := b) K2 (fun hx => hap.1 (by simp [hx])) (off + j * 4 + 1) (.bool ((kk + 1) % 3 == 0))
      replace K3 := (sSlice sTok).setB (b := b) K3 (fun hx => hap.1 (by simp [hx])) (off + j * 4 + 1) (.bool ((kk + 1) % 3 == 0))
      have c2 := W3.out.cell 2 (by decide) rfl
      have HN2 := Lib.hid (W3.out.o.sub hn1 (fun x hx => flat_sub hlt x (by rw [Hfj.out]; simp [hx])))
      go_wp2_with fail
      refine (markStringS _ _ _ lo _ _ (by omega) (by omega) K2 HN2.out).mono ?_
      rintro e u2 ⟨rfl, R2, O2, hk2⟩
      have W4 := Lib.hid (W3.out.sub hk2 O2 (fun x hx => by simp [hx]))
      replace K3 := (sSlice sTok).kept K3 (fun b hb hx => hn3 b hx b hb rfl) hk2
      clear hk2 HN2 O2 c0 f0 c1 f1 c2
      have c3 := W4.out.cell 3 (by decide) rfl
      have HN3 := Lib.hid (W4.out.o.sub hn2 (fun x hx => flat_sub hlt x (by rw [Hfj.out]; simp [hx])))
      go_wp2_with fail
      refine (markTokenS _ _ _ lo _ _ (by omega) (by omega) K3 HN3.out).mono ?_
      rintro e u3 ⟨rfl, R3, O3, hk3⟩
      have W5 := Lib.hid (W4.out.sub hk3 O3 (fun x hx => by simp [hx]))
      replace R2 := (sSlice sStr).kept R2 (fun b hb hx => hn3 b hb b hx rfl) hk3
      clear hk3 HN3 O3 c3
      rw [← Hfj.out] at W5
      have HRn := Lib.hid (Hrow.out _ (mkMacro kk l[j]) _ W5.out.t W5.out.e ⟨h2, h3, fp_2, fp_3, rfl, HOK.out, R2, R3, Hfj.out⟩)
      have HKn := Lib.hid (HK.trans (W5.out.t.keptAll hlt))
      have HOn := Lib.hid W5.out.o
      clear Hrow HR HO HK hnd hap hb W0 W1 W2 W3 W4 W5 R2 R3
      go_wp2
      go_roundw
      case rel => exact ⟨j + 1, _, _, by omega, by go_num, rfl, by show _ = _; have := HXK.out; omega, HX, HRn, HOn.out, HKn.out⟩
      case measure => simp [intOf]; omega
    · have HD := HM.out.done (by omega)
      have hjl : l.take j = l := List.take_of_length_le (by omega)
      have HKD := HKK.out
      rw [hjl] at HKD
      have HF := Lib.hid HKD
      have HRD := HR.out
      rw [HD] at HRD
      have HRF := Lib.hid HRD
      clear hjl HKD HRD HR HM HKK HD
      go_wp2
      go_ret
      exact ⟨by rw [HF.out]; rfl, HRF.out, HO, HK⟩

set_option maxHeartbeats 8000000 in
set_option maxRecDepth 100000 in
theorem szMacro (cs : List Value) (x : DMacro) (fp : List Nat) (w : World) (B : Int) (h0 : 0 ≤ B) (h1 : B ≤ 1048576) (H : sMacro.R w cs x fp) :
    Calls Try.prog 38 #[.agg cs.toArray, .int .i64 B] w fun e w' => ∃ r : Int, e = .returned (.int .i64 r) ∧ SzR B r (wtMacro x) ∧ Below w.heap.size w w' := by
  obtain ⟨v2, v3, fp2, fp3, rfl, k0, K2, K3, rfl⟩ := H
  unfold okStr maxLen at k0
  have b0 := alloc_below' w (.cells #[.string x.name, .bool x.function, v2, v3] 66)
  have HC2 : Hid (∀ W r, Below w.heap.size w W → 0 ≤ r → r ≤ 1048576 → Calls Try.prog 59 #[v2, .int .i64 r] W fun e w' => ∃ r' : Int, e = .returned (.int .i64 r') ∧ SzR r r' (wtStringS x.params) ∧ Below W.heap.size W w') := fun W r hb hr0 hr1 => (szStringS v2 x.params _ W r hr0 hr1 ((sSlice sStr).below K2 hb)).mono fun e w' ⟨r, a, b, c⟩ => ⟨r, a, b, c ▸ Below.refl _ _⟩
  have HC3 : Hid (∀ W r, Below w.heap.size w W → 0 ≤ r → r ≤ 1048576 → Calls Try.prog 11 #[v3, .int .i64 r] W fun e w' => ∃ r' : Int, e = .returned (.int .i64 r') ∧ SzR r r' (wtTokenS x.body) ∧ Below W.heap.size W w') := fun W r hb hr0 hr1 => (szTokenS v3 x.body _ W r hr0 hr1 ((sSlice sTok).below K3 hb)).mono fun e w' ⟨r, a, b, c⟩ => ⟨r, a, b, c⟩
  have HX := Lib.hid (heap_alloc_new w (.cells #[.string x.name, .bool x.function, v2, v3] 66))
  clear K2
  clear K3
  go_enter Try.func38, Try.ntmps38
  by_cases ht0 : B < x.name.size
  · have HN : Hid (SzR B (-1) (wtMacro x)) := SzR.no (by unfold wtMacro; omega)
    go_wp2
    go_ret
    exact ⟨-1, rfl, HN.out, b0⟩
  go_wp2_with fail
  refine (HC2.out _ _ b0 (by omega) (by omega)).mono ?_
  rintro e u2 ⟨r2, rfl, hr2, c2⟩
  have e2 := b0.trans (c2.mono b0.size)
  replace HX := Lib.hid ((c2.block _ (Array.getElem?_eq_some_iff.1 HX.out).1).trans HX.out)
  have q2_3 : u2.cell? ⟨w.heap.size, 3, none⟩ = some v3 := cell_of_row _ _ 3 _ _ _ HX.out
  clear c2
  by_cases hn2 : r2 < 0
  · have HN : Hid (SzR B (-1) (wtMacro x)) := by
      refine SzR.no ?_
      unfold SzR at hr2; unfold wtMacro; split at hr2 <;> omega
    go_wp2
    go_ret
    exact ⟨-1, rfl, HN.out, e2⟩
  have hg2 := hr2.good hn2
  have hl2 := hr2.le (by omega)
  clear hr2
  go_wp2_with fail
  refine (HC3.out _ _ e2 (by omega) (by omega)).mono ?_
  rintro e u3 ⟨r3, rfl, hr3, c3⟩
  have e3 := e2.trans (c3.mono e2.size)
  clear c3
  by_cases hn3 : r3 < 0
  · have HN : Hid (SzR B (-1) (wtMacro x)) := by
      refine SzR.no ?_
      unfold SzR at hr3; unfold wtMacro; split at hr3 <;> omega
    go_wp2
    go_ret
    exact ⟨-1, rfl, HN.out, e3⟩
  have hg3 := hr3.good hn3
  have hl3 := hr3.le (by omega)
  clear hr3
  have HN : Hid (SzR B r3 (wtMacro x)) := SzR.yes (by unfold wtMacro; omega) (by unfold wtMacro; omega)
  clear hg2 hg3
  go_wp2
  go_ret
  exact ⟨r3, rfl, HN.out, e3⟩

set_option maxHeartbeats 8000000 in
set_option maxRecDepth 100000 in
theorem toMacro (cs : List Value) (x : DMacro) (fp : List Nat) (w : World) (hW : wtMacro x ≤ 1048576) (H : sMacro.R w cs x fp) :
    Calls Try.prog 40 #[.agg cs.toArray] w (MadeC sMacro x w) := by
  obtain ⟨v2, v3, fp2, fp3, rfl, k0, K2, K3, rfl⟩ := H
  have HC2 : Hid (∀ W, Below w.heap.size w W → Calls Try.prog 60 #[v2] W (Made (sSlice sStr) x.params W)) := fun W hb => toStringS v2 x.params _ W (by unfold wtMacro at hW; omega) ((sSlice sStr).below K2 hb)
  have HC3 : Hid (∀ W, Below w.heap.size w W → Calls Try.prog 13 #[v3] W (Made (sSlice sTok) x.body W)) := fun W hb => toTokenS v3 x.body _ W (by unfold wtMacro at hW; omega) ((sSlice sTok).below K3 hb)
  clear K2
  clear K3
  go_enter Try.func40, Try.ntmps40
  have b3 := below3 w #[.string x.name, .bool x.function, v2, v3] #[.string ⟨#[]⟩, .bool false, .slice none 0 0, .slice none 0 0] #[.string x.name, .bool x.function, .slice none 0 0, .slice none 0 0] 66 70 70
  have HA := Lib.hid (alloc3_blk0 w #[.string x.name, .bool x.function, v2, v3] #[.string ⟨#[]⟩, .bool false, .slice none 0 0, .slice none 0 0] #[.string x.name, .bool x.function, .slice none 0 0, .slice none 0 0] 66 70 70)
  obtain ⟨g1_, g2_, g3_⟩ := alloc3_blk w #[.string x.name, .bool x.function, v2, v3] #[.string ⟨#[]⟩, .bool false, .slice none 0 0, .slice none 0 0] #[.string x.name, .bool x.function, .slice none 0 0, .slice none 0 0] 66 70 70
  have HG := Lib.hid (And.intro g1_ g2_)
  have HS := Lib.hid g3_
  clear g1_ g2_ g3_
  go_wp2_with fail
  refine (HC2.out _ b3).mono ?_
  rintro e u2 ⟨h2, fp2, rfl, R2, O2, c2⟩
  have lo2 : ∀ b ∈ fp2, w.heap.size + 3 ≤ b := fun b hb => by have := (O2.2 b hb).1; rw [HS.out] at this; omega
  replace HA := Lib.hid ((c2.block _ (Array.getElem?_eq_some_iff.1 HA.out).1).trans HA.out)
  replace HG := Lib.hid (And.intro ((c2.block _ (Array.getElem?_eq_some_iff.1 HG.out.1).1).trans HG.out.1) ((c2.block _ (Array.getElem?_eq_some_iff.1 HG.out.2).1).trans HG.out.2))
  have e2 := b3.trans (c2.mono b3.size)
  clear c2
  obtain ⟨a2, cap2, rfl, -⟩ := open_rows R2
  have hn1_2 : w.heap.size + 1 ∉ fp2 := fun hx => by have := lo2 _ hx; omega
  have hn2_2 : w.heap.size + 1 + 1 ∉ fp2 := fun hx => by have := lo2 _ hx; omega
  have d2 : u2.cell? ⟨w.heap.size + 1 + 1, 2, none⟩ = some (.slice none 0 0) := cell_of_row _ _ 2 _ _ _ HG.out.2
  have f2 : u2.frozen? ⟨w.heap.size + 1 + 1, 2, none⟩ = false := frozen_of_row _ _ 2 _ _ HG.out.2
  replace HA := Lib.hid (blk_other HA.out (by omega : w.heap.size ≠ w.heap.size + 1 + 1) 2 (.slice a2 x.params.length cap2))
  replace HG := Lib.hid (And.intro (blk_other HG.out.1 (by omega : w.heap.size + 1 ≠ w.heap.size + 1 + 1) 2 (.slice a2 x.params.length cap2)) (blk_set HG.out.2 2 (.slice a2 x.params.length cap2)))
  replace R2 := Lib.hid ((sSlice sStr).setB R2 hn2_2 2 (.slice a2 x.params.length cap2))
  replace O2 := Lib.hid (O2.setCell ⟨w.heap.size + 1 + 1, 2, none⟩ (.slice a2 x.params.length cap2))
  replace e2 := e2.setCell (p := ⟨w.heap.size + 1 + 1, 2, none⟩) (by simp; omega) (.slice a2 x.params.length cap2)
  have U2 : Hid (∀ b ∈ fp2, b < (u2.setCell ⟨w.heap.size + 1 + 1, 2, none⟩ (.slice a2 x.params.length cap2)).heap.size) := fun b hb => (O2.out.lt b hb)
  have Z2 : Hid (w.heap.size + 1 + 1 < (u2.setCell ⟨w.heap.size + 1 + 1, 2, none⟩ (.slice a2 x.params.length cap2)).heap.size) := (Array.getElem?_eq_some_iff.1 HG.out.2).1
  have p3 : (u2.setCell ⟨w.heap.size + 1 + 1, 2, none⟩ (.slice a2 x.params.length cap2)).cell? ⟨w.heap.size, 3, none⟩ = some v3 := cell_of_row _ _ 3 _ _ _ HA.out
  go_wp2_with fail
  refine (HC3.out _ e2).mono ?_
  rintro e u3 ⟨h3, fp3, rfl, R3, O3, c3⟩
  have lo3 := Lib.hid (show ∀ b ∈ fp3, _ ≤ b from fun b hb => (O3.2 b hb).1)
  replace HA := Lib.hid ((c3.block _ (Array.getElem?_eq_some_iff.1 HA.out).1).trans HA.out)
  replace HG := Lib.hid (And.intro ((c3.block _ (Array.getElem?_eq_some_iff.1 HG.out.1).1).trans HG.out.1) ((c3.block _ (Array.getElem?_eq_some_iff.1 HG.out.2).1).trans HG.out.2))
  have e3 := e2.trans (c3.mono e2.size)
  replace R2 := Lib.hid ((sSlice sStr).below R2.out c3)
  replace O2 := Lib.hid (O2.out.grow c3)
  have ap3 : Hid (∀ b ∈ fp2, b ∉ fp3) := fun b h1 h2 => by have := lo3.out b h2; have := U2.out b h1; omega
  clear c3
  obtain ⟨a3, cap3, rfl, -⟩ := open_rows R3
  have hn1_3 : w.heap.size + 1 ∉ fp3 := fun hx => by have := lo3.out _ hx; have := Z2.out; omega
  have hn2_3 : w.heap.size + 1 + 1 ∉ fp3 := fun hx => by have := lo3.out _ hx; have := Z2.out; omega
  have d3 : u3.cell? ⟨w.heap.size + 1 + 1, 3, none⟩ = some (.slice none 0 0) := cell_of_row _ _ 3 _ _ _ HG.out.2
  have f3 : u3.frozen? ⟨w.heap.size + 1 + 1, 3, none⟩ = false := frozen_of_row _ _ 3 _ _ HG.out.2
  replace HA := Lib.hid (blk_other HA.out (by omega : w.heap.size ≠ w.heap.size + 1 + 1) 3 (.slice a3 x.body.length cap3))
  replace HG := Lib.hid (And.intro (blk_other HG.out.1 (by omega : w.heap.size + 1 ≠ w.heap.size + 1 + 1) 3 (.slice a3 x.body.length cap3)) (blk_set HG.out.2 3 (.slice a3 x.body.length cap3)))
  replace R3 := Lib.hid ((sSlice sTok).setB R3 hn2_3 3 (.slice a3 x.body.length cap3))
  replace O3 := Lib.hid (O3.setCell ⟨w.heap.size + 1 + 1, 3, none⟩ (.slice a3 x.body.length cap3))
  replace R2 := Lib.hid ((sSlice sStr).setB R2.out hn2_2 3 (.slice a3 x.body.length cap3))
  replace O2 := Lib.hid (O2.out.setCell ⟨w.heap.size + 1 + 1, 3, none⟩ (.slice a3 x.body.length cap3))
  replace e3 := e3.setCell (p := ⟨w.heap.size + 1 + 1, 3, none⟩) (by simp; omega) (.slice a3 x.body.length cap3)
  have U3 : Hid (∀ b ∈ fp3, b < (u3.setCell ⟨w.heap.size + 1 + 1, 3, none⟩ (.slice a3 x.body.length cap3)).heap.size) := fun b hb => (O3.out.lt b hb)
  have Z3 : Hid (w.heap.size + 1 + 1 < (u3.setCell ⟨w.heap.size + 1 + 1, 3, none⟩ (.slice a3 x.body.length cap3)).heap.size) := (Array.getElem?_eq_some_iff.1 HG.out.2).1
  -- the copy

  have y0 : (u3.setCell ⟨w.heap.size + 1 + 1, 3, none⟩ (.slice a3 x.body.length cap3)).cell? ⟨w.heap.size + 1, 0, none⟩ = some (.string ⟨#[]⟩) := cell_of_row _ _ 0 _ _ _ HG.out.1
  have z0 : (u3.setCell ⟨w.heap.size + 1 + 1, 3, none⟩ (.slice a3 x.body.length cap3)).cell? ⟨w.heap.size + 1 + 1, 0, none⟩ = some (.string x.name) := cell_of_row _ _ 0 _ _ _ HG.out.2
  have w0 : (u3.setCell ⟨w.heap.size + 1 + 1, 3, none⟩ (.slice a3 x.body.length cap3)).frozen? ⟨w.heap.size + 1, 0, none⟩ = false := frozen_of_row _ _ 0 _ _ HG.out.1
  have y1 : (u3.setCell ⟨w.heap.size + 1 + 1, 3, none⟩ (.slice a3 x.body.length cap3)).cell? ⟨w.heap.size + 1, 1, none⟩ = some (.bool false) := cell_of_row _ _ 1 _ _ _ HG.out.1
  have z1 : (u3.setCell ⟨w.heap.size + 1 + 1, 3, none⟩ (.slice a3 x.body.length cap3)).cell? ⟨w.heap.size + 1 + 1, 1, none⟩ = some (.bool x.function) := cell_of_row _ _ 1 _ _ _ HG.out.2
  have w1 : (u3.setCell ⟨w.heap.size + 1 + 1, 3, none⟩ (.slice a3 x.body.length cap3)).frozen? ⟨w.heap.size + 1, 1, none⟩ = false := frozen_of_row _ _ 1 _ _ HG.out.1
  have y2 : (u3.setCell ⟨w.heap.size + 1 + 1, 3, none⟩ (.slice a3 x.body.length cap3)).cell? ⟨w.heap.size + 1, 2, none⟩ = some (.slice none 0 0) := cell_of_row _ _ 2 _ _ _ HG.out.1
  have z2 : (u3.setCell ⟨w.heap.size + 1 + 1, 3, none⟩ (.slice a3 x.body.length cap3)).cell? ⟨w.heap.size + 1 + 1, 2, none⟩ = some (.slice a2 x.params.length cap2) := cell_of_row _ _ 2 _ _ _ HG.out.2
  have w2 : (u3.setCell ⟨w.heap.size + 1 + 1, 3, none⟩ (.slice a3 x.body.length cap3)).frozen? ⟨w.heap.size + 1, 2, none⟩ = false := frozen_of_row _ _ 2 _ _ HG.out.1
  have y3 : (u3.setCell ⟨w.heap.size + 1 + 1, 3, none⟩ (.slice a3 x.body.length cap3)).cell? ⟨w.heap.size + 1, 3, none⟩ = some (.slice none 0 0) := cell_of_row _ _ 3 _ _ _ HG.out.1
  have z3 : (u3.setCell ⟨w.heap.size + 1 + 1, 3, none⟩ (.slice a3 x.body.length cap3)).cell? ⟨w.heap.size + 1 + 1, 3, none⟩ = some (.slice a3 x.body.length cap3) := cell_of_row _ _ 3 _ _ _ HG.out.2
  have w3 : (u3.setCell ⟨w.heap.size + 1 + 1, 3, none⟩ (.slice a3 x.body.length cap3)).frozen? ⟨w.heap.size + 1, 3, none⟩ = false := frozen_of_row _ _ 3 _ _ HG.out.1
  have RF2 := Lib.hid ((sSlice sStr).setB ((sSlice sStr).setB ((sSlice sStr).setB ((sSlice sStr).setB (R2.out) hn1_2 0 (.string x.name)) hn1_2 1 (.bool x.function)) hn1_2 2 (.slice a2 x.params.length cap2)) hn1_2 3 (.slice a3 x.body.length cap3))
  have OF2 := Lib.hid (((((O2.out).setCell ⟨w.heap.size + 1, 0, none⟩ (.string x.name)).setCell ⟨w.heap.size + 1, 1, none⟩ (.bool x.function)).setCell ⟨w.heap.size + 1, 2, none⟩ (.slice a2 x.params.length cap2)).setCell ⟨w.heap.size + 1, 3, none⟩ (.slice a3 x.body.length cap3))
  have RF3 := Lib.hid ((sSlice sTok).setB ((sSlice sTok).setB ((sSlice sTok).setB ((sSlice sTok).setB (R3.out) hn1_3 0 (.string x.name)) hn1_3 1 (.bool x.function)) hn1_3 2 (.slice a2 x.params.length cap2)) hn1_3 3 (.slice a3 x.body.length cap3))
  have OF3 := Lib.hid (((((O3.out).setCell ⟨w.heap.size + 1, 0, none⟩ (.string x.name)).setCell ⟨w.heap.size + 1, 1, none⟩ (.bool x.function)).setCell ⟨w.heap.size + 1, 2, none⟩ (.slice a2 x.params.length cap2)).setCell ⟨w.heap.size + 1, 3, none⟩ (.slice a3 x.body.length cap3))
  have BF := Lib.hid (((((e3).setCell (p := ⟨w.heap.size + 1, 0, none⟩) (by simp) (.string x.name)).setCell (p := ⟨w.heap.size + 1, 1, none⟩) (by simp) (.bool x.function)).setCell (p := ⟨w.heap.size + 1, 2, none⟩) (by simp) (.slice a2 x.params.length cap2)).setCell (p := ⟨w.heap.size + 1, 3, none⟩) (by simp) (.slice a3 x.body.length cap3))
  have HF := Lib.hid (blk_set (blk_set (blk_set (blk_set (HG.out.1) 0 (.string x.name)) 1 (.bool x.function)) 2 (.slice a2 x.params.length cap2)) 3 (.slice a3 x.body.length cap3))
  clear HG HA
  go_wp2
  refine bodyPost_ret (results_cell_row rfl _ _ (w.heap.size + 1) _ _ _ _ rfl HF.out Try.underlying70 rfl (by kernel_rfl)) rfl ?_
  exact ⟨[.string x.name, .bool x.function, .slice a2 x.params.length cap2, .slice a3 x.body.length cap3], fp2 ++ fp3, rfl, ⟨_, _, fp2, fp3, rfl, k0, RF2.out, RF3.out, rfl⟩, Own.app (OF2.out.lower (by rw [HS.out]; omega)) (OF3.out.lower (by have := Z2.out; omega)) ap3.out, BF.out⟩

set_option maxHeartbeats 2000000 in
set_option maxRecDepth 100000 in
theorem szMacroS (v : Value) (l : List DMacro) (fp : List Nat) (w : World) (B : Int) (h0 : 0 ≤ B) (h1 : B ≤ 1048576) (H : (sSlice sMacro).R w [v] l fp) :
    Calls Try.prog 10 #[v, .int .i64 B] w fun e w' => ∃ r : Int, e = .returned (.int .i64 r) ∧ SzR B r (wtMacroS l) ∧ Below w.heap.size w w' := by
  obtain ⟨a, cap, rfl, hc, hm, hrow⟩ := open_rows H
  unfold maxLen at hm
  clear H
  by_cases hl : B < l.length
  · have HN : Hid (SzR B (-1) (wtMacroS l)) := SzR.no (by unfold wtMacroS; omega)
    go_enter Try.func10, Try.ntmps10
    go_wp2
    go_ret
    exact ⟨-1, rfl, HN.out, Below.refl _ _⟩
  · go_enter Try.func10, Try.ntmps10
    go_wp2
    go_loopw [1, 5] (fun t i wr => ∃ (k : Nat) (r : Int), k ≤ l.length ∧ i = .int .i64 k ∧ t = .int .i64 r ∧ 0 ≤ r ∧ r ≤ B ∧ Hid (r = B - l.length - (((l.take k).map wtMacro).sum : Nat)) ∧ Below w.heap.size w wr) (fun _ i _ => l.length - (intOf i).toNat)
    case atStart => exact ⟨0, _, by omega, rfl, rfl, by omega, by omega, by show _ = _; simp, Below.refl _ _⟩
    case round =>
      obtain ⟨k, r, hk, rfl, rfl, hr0, hr1, HA, hb⟩ := hrel
      by_cases hlt : k < l.length
      · obtain ⟨b1, off1, fps1, rfl, hb1, -, he1⟩ := hrow (by omega)
        obtain ⟨es1, hE1, hR1⟩ := he1 k hlt
        clear hrow he1
        have hR2 := sMacro.below hR1 hb
        obtain ⟨h2, h3, _fp2, _fp3, rfl, _k0, _K2, _K3, -⟩ := hR1
        have HC := Lib.hid (szMacro _ _ _ wr r hr0 (by omega) hR2)
        clear hR2
        replace hE1 := hE1.frame (hb.block b1 hb1)
        have c10 : wr.cell? ⟨b1, off1 + k * 4, none⟩ = some _ := elem_cell0 hE1 (by decide) rfl
        have c11 : wr.cell? ⟨b1, off1 + k * 4 + 1, none⟩ = some _ := elem_cell (j := 1) hE1 (by decide) rfl
        have c12 : wr.cell? ⟨b1, off1 + k * 4 + 2, none⟩ = some _ := elem_cell (j := 2) hE1 (by decide) rfl
        have c13 : wr.cell? ⟨b1, off1 + k * 4 + 3, none⟩ = some _ := elem_cell (j := 3) hE1 (by decide) rfl
        clear hE1
        have HT := Lib.hid (wsum_succ wtMacro l k hlt)
        have HT2 := Lib.hid (wsum_le wtMacro l (k + 1))
        go_wp2_with fail
        refine (HC.out).mono ?_
        rintro e w1 ⟨r', rfl, hr', hb2⟩
        clear c10 c11 c12 c13
        by_cases hn : r' < 0
        · have HN : Hid (SzR B (-1) (wtMacroS l)) := SzR.no (by
            have hx : r < wtMacro l[k] := by unfold SzR at hr'; split at hr' <;> omega
            have := HT2.out; have := HT.out; have := HA.out; unfold wtMacroS; omega)
          go_wp2
          go_ret
          exact ⟨-1, rfl, HN.out, hb.trans (hb2.mono hb.size)⟩
        · have hg := hr'.good hn
          have hle := hr'.le hr0
          have HA' : Hid (r' = B - l.length - (((l.take (k + 1)).map wtMacro).sum : Nat)) := by
            show _ = _
            have := HT.out; have := HA.out
            omega
          clear hr' hg
          go_wp2
          go_roundw
          case rel => exact ⟨k + 1, _, by omega, by go_num, rfl, by omega, by omega, HA'.out, hb.trans (hb2.mono hb.size)⟩
          case measure => simp [intOf]; omega
      · have HN : Hid (SzR B r (wtMacroS l)) := by
          have h := HA.out
          rw [List.take_of_length_le (by omega)] at h
          exact SzR.yes (by unfold wtMacroS; omega) (by unfold wtMacroS; omega)
        go_wp2
        go_ret
        exact ⟨r, rfl, HN.out, hb⟩


set_option maxHeartbeats 4000000 in
set_option maxRecDepth 100000 in
theorem toMacroS (v : Value) (l : List DMacro) (fp : List Nat) (w : World) (hW : wtMacroS l ≤ 1048576) (H : (sSlice sMacro).R w [v] l fp) :
    Calls Try.prog 12 #[v] w (Made (sSlice sMacro) l w) := by
  have hB : l.length ≤ 1048576 := by unfold wtMacroS at hW; omega
  have HW : Hid (∀ k, (hk : k < l.length) → wtMacro l[k] ≤ 1048576) := fun k hk => by have := wsum_at wtMacro l k hk; unfold wtMacroS at hW; omega
  obtain ⟨a, cap, rfl, hc, hm, hrow⟩ := open_rows H
  unfold maxLen at hm
  clear H hW
  go_enter Try.func12, Try.ntmps12
  go_wp2_with (at_make; refine wp_make_full ti_Macro _ rfl _ _ rfl w.heap.size l.length rfl rfl (by omega) (by unfold maxLen; omega) (Nat.le_refl _) ?_; intro w1 hown hgrow)
  have hbel := (Below.refl w.heap.size w).grown hgrow (Nat.le_refl _) (by simp)
  have HF0 := Filling.start (S := sMacro) (l := l) hown
  clear hgrow hown
  go_loopw [4] (fun i wr => ∃ (k : Nat) (L : List (Elem DMacro)) (R : List Value), k ≤ l.length ∧ i = .int .i64 k ∧ Hid (Filling sMacro w.heap.size 70 l k wr L R) ∧ Below w.heap.size w wr) (fun i _ => l.length - (intOf i).toNat)
  case atStart => exact ⟨0, _, _, by omega, rfl, HF0, hbel⟩
  case round =>
    obtain ⟨k, L, R, hk, rfl, HF, hb⟩ := hrel
    clear HF0 hbel
    by_cases hlt : k < l.length
    · obtain ⟨b1, off1, fps1, rfl, hb1, -, he1⟩ := hrow (by omega)
      obtain ⟨es1, hE1, hR1⟩ := he1 k hlt
      clear hrow he1
      have hR2 := sMacro.below hR1 hb
      obtain ⟨h2, h3, _fp2, _fp3, rfl, _k0, _K2, _K3, -⟩ := hR1
      have HC := Lib.hid (toMacro _ _ _ wr (HW.out k hlt) hR2)
      clear hR2
      replace hE1 := hE1.frame (hb.block b1 hb1)
      have c10 : wr.cell? ⟨b1, off1 + k * 4, none⟩ = some _ := elem_cell0 hE1 (by decide) rfl
      have c11 : wr.cell? ⟨b1, off1 + k * 4 + 1, none⟩ = some _ := elem_cell (j := 1) hE1 (by decide) rfl
      have c12 : wr.cell? ⟨b1, off1 + k * 4 + 2, none⟩ = some _ := elem_cell (j := 2) hE1 (by decide) rfl
      have c13 : wr.cell? ⟨b1, off1 + k * 4 + 3, none⟩ = some _ := elem_cell (j := 3) hE1 (by decide) rfl
      clear hE1
      go_wp2_with fail
      refine (HC.out).mono ?_
      rintro e w2 ⟨cs, fp2, rfl, hR2, hO2, hb2⟩
      have HN := Lib.hid (HF.out.next (cs := cs) hlt hb2 (by obtain ⟨y2, y3, _fp2, _fp3, rfl, _k0, K2, K3, rfl⟩ := hR2; rfl) hR2 hO2)
      obtain ⟨y2, y3, _fp2, _fp3, rfl, _k0, K2, K3, rfl⟩ := hR2
      obtain ⟨ah2, caph2, rfl, -⟩ := open_rows K2
      obtain ⟨ah3, caph3, rfl, -⟩ := open_rows K3
      have HF2 := Lib.hid (HF.out.below hb2)
      obtain ⟨u0, d0⟩ : ∃ u, w2.cell? ⟨w.heap.size, k * 4, none⟩ = some u := HF2.out.cell hlt (j := 0) (by decide)
      obtain ⟨u1, d1⟩ : ∃ u, w2.cell? ⟨w.heap.size, k * 4 + 1, none⟩ = some u := HF2.out.cell hlt (j := 1) (by decide)
      obtain ⟨u2, d2⟩ : ∃ u, w2.cell? ⟨w.heap.size, k * 4 + 2, none⟩ = some u := HF2.out.cell hlt (j := 2) (by decide)
      obtain ⟨u3, d3⟩ : ∃ u, w2.cell? ⟨w.heap.size, k * 4 + 3, none⟩ = some u := HF2.out.cell hlt (j := 3) (by decide)
      have f0 := HF2.out.frozen (k * 4)
      have f1 := HF2.out.frozen (k * 4 + 1)
      have f2 := HF2.out.frozen (k * 4 + 2)
      have f3 := HF2.out.frozen (k * 4 + 3)
      clear c10 c11 c12 c13 K2 K3 hO2
      go_wp2
      obtain ⟨R', HN⟩ := HN.out
      go_roundw
      case rel => exact ⟨k + 1, _, R', by omega, by go_num, HN, putAll_below (Nat.le_refl _) [_, _, _, _] _ (k * 4) (hb.trans (hb2.mono hb.size))⟩
      case measure => simp [intOf]; omega
    · obtain ⟨fp', h1, h2⟩ := HF.out.done (by omega)
      go_wp2
      go_ret
      exact ⟨_, fp', rfl, h1, h2, hb⟩


end Go.Proofs.Ytipfpppcbmpjiaa

/- Whether two tokens need a space between them: the program and its model. -/
namespace Go.Proofs.Ytipfpppcbmpjiaa
open Go.RowKit

def begins (x y : UInt8) : Bool := decide (x.toNat = 47) && (decide (y.toNat = 47) || decide (y.toNat = 42))
end Go.Proofs.Ytipfpppcbmpjiaa

/- Whether two texts are read otherwise together: the model. -/
namespace Go.Proofs.Ytipfpppcbmpjiaa
open Go.RowKit
end Go.Proofs.Ytipfpppcbmpjiaa

/- PrintTokens: the model. -/
namespace Go.Proofs.Ytipfpppcbmpjiaa
open Go.RowKit
end Go.Proofs.Ytipfpppcbmpjiaa

/- Macros: the model's own helpers; what both sides walk over. -/
namespace Go.Proofs.Ytipfpppcbmpjiaa
open Go.RowKit

set_option maxHeartbeats 1000000 in
theorem spec_l5Name (x : ByteArray) (w : World) (hs : x.size ≤ maxLen) :
    Calls Try.prog 74 #[.string x] w (Says (oneTok x 1) w) := by
  have HT : Hid (∀ W, Calls Try.prog 50 #[.string x] W (TokMade (tokRes x) W)) := fun W => spec_TokensOf x W hs
  go_enter Try.func74, Try.ntmps74
  rcases one_ways x 1 with ⟨hr, HF⟩ | ⟨l, hr, hl, HF⟩ | ⟨t, hr, hk, HF⟩ | ⟨t, hr, hk, hx, HF⟩ | ⟨t, hr, hk, hx, _, HF⟩
  · rw [hr] at HT
    clear hr
    go_wp2_with (go_at_call 50; refine (HT.out _).mono ?_; rintro e w' ⟨v, fp, rfl, hR, hO, hB⟩)
    go_ret
    exact ⟨ret_bool HF.out.symm, hB⟩
  · rw [hr] at HT
    have hl' : ((l.length : Int) == 1) = false := by simp; omega
    clear hr hl
    go_wp2_with (go_at_call 50; refine (HT.out _).mono ?_; rintro e w' ⟨v, fp, rfl, hR, hO, hB⟩; obtain ⟨a, cap, rfl, _, _, _⟩ := open_rows hR)
    go_ret
    exact ⟨ret_bool HF.out.symm, hB⟩
  · rw [hr] at HT
    have hk' : (t.kind == 1) = false := by simp [hk]
    clear hr hk
    go_wp2_with (go_at_call 50; refine (HT.out _).mono ?_; rintro e w' ⟨v, fp, rfl, hR, hO, hB⟩; obtain ⟨b, off, cap, h, rfl, hc1, hc2, hb, h0, h1, h2, h3, _, _⟩ := open_one hR)
    go_ret
    exact ⟨ret_bool HF.out.symm, hB⟩
  · rw [hr] at HT
    have hk' : (t.kind == 1) = true := by simp [hk]
    have hx' : (t.text.toList == x.toList) = false := bytes_bne hx
    clear hr hk hx
    go_wp2_with (go_at_call 50; refine (HT.out _).mono ?_; rintro e w' ⟨v, fp, rfl, hR, hO, hB⟩; obtain ⟨b, off, cap, h, rfl, hc1, hc2, hb, h0, h1, h2, h3, _, _⟩ := open_one hR)
    go_ret
    exact ⟨ret_bool HF.out.symm, hB⟩
  · rw [hr] at HT
    have hk' : (t.kind == 1) = true := by simp [hk]
    have hx' : (t.text.toList == x.toList) = true := bytes_beq hx
    clear hr hk hx
    go_wp2_with (go_at_call 50; refine (HT.out _).mono ?_; rintro e w' ⟨v, fp, rfl, hR, hO, hB⟩; obtain ⟨b, off, cap, h, rfl, hc1, hc2, hb, h0, h1, h2, h3, _, _⟩ := open_one hR)
    go_ret
    exact ⟨ret_bool HF.out.symm, hB⟩

theorem par_end {ps : List ByteArray} {t : Tok} {k : Nat} (h : ps.length ≤ k) : parFrom ps t k = -1 := by rw [parFrom, dif_neg (by omega)]
theorem par_hit {ps : List ByteArray} {t : Tok} {k : Nat} (h : k < ps.length) (h1 : t.kind = 1) (h2 : ps[k] = t.text) : parFrom ps t k = k := by rw [parFrom, dif_pos h, if_pos ⟨h1, h2⟩]
theorem par_miss {ps : List ByteArray} {t : Tok} {k : Nat} (h : k < ps.length) (h1 : ¬ (t.kind = 1 ∧ ps[k] = t.text)) : parFrom ps t k = parFrom ps t (k + 1) := by rw [parFrom, dif_pos h, if_neg h1]

set_option maxHeartbeats 4000000 in
set_option maxRecDepth 100000 in
theorem spec_l5Param (csM csT : List Value) (m : DMacro) (t : Tok) (fpM fpT : List Nat) (w : World) (HM : sMacro.R w csM m fpM) (HT : sTok.R w csT t fpT) :
    Calls Try.prog 75 #[.agg csM.toArray, .agg csT.toArray] w fun e w' => e = .returned (.int .i64 (parOf m.params t)) ∧ Below w.heap.size w w' := by
  obtain ⟨h2, h3, fp2, fp3, rfl, -, K2, K3, rfl⟩ := HM
  obtain ⟨hh, rfl, -, -, -⟩ := HT
  obtain ⟨a, cap, rfl, hc, hm, hcell, hsz⟩ := open_strs K2
  unfold maxLen at hm
  clear K2 K3
  have b0 := alloc_below' w (.cells #[.string m.name, .bool m.function, .slice a m.params.length cap, h3] 70)
  have b1 := b0.trans ((alloc_below' (w.alloc (.cells #[.string m.name, .bool m.function, .slice a m.params.length cap, h3] 70)) (.cells #[.int .i64 t.kind, .string t.text, .bool t.spaced, hh] 33)).mono b0.size)
  have HX := Lib.hid (alloc2_blk w #[.string m.name, .bool m.function, .slice a m.params.length cap, h3] #[.int .i64 t.kind, .string t.text, .bool t.spaced, hh] 70 33)
  go_enter Try.func75, Try.ntmps75
  go_wp2
  generalize (w.alloc (.cells #[.string m.name, .bool m.function, .slice a m.params.length cap, h3] 70)).alloc (.cells #[.int .i64 t.kind, .string t.text, .bool t.spaced, hh] 33) = W at *
  clear b0
  go_loopw [5] (fun i wr => ∃ k : Nat, k ≤ m.params.length ∧ i = .int .i64 k ∧ Hid (parOf m.params t = parFrom m.params t k) ∧ Below W.heap.size W wr) (fun i _ => m.params.length - (intOf i).toNat)
  case atStart => exact ⟨0, by omega, rfl, rfl, Below.refl _ _⟩
  case round =>
    obtain ⟨k, hk, rfl, HP, hb⟩ := hrel
    have HX1 := Lib.hid (And.intro ((hb.block _ (Array.getElem?_eq_some_iff.1 HX.out.1).1).trans HX.out.1) ((hb.block _ (Array.getElem?_eq_some_iff.1 HX.out.2).1).trans HX.out.2))
    have q2 : wr.cell? ⟨w.heap.size, 2, none⟩ = some (.slice a m.params.length cap) := cell_of_row _ _ 2 _ _ _ HX1.out.1
    have p0 : wr.cell? ⟨w.heap.size + 1, 0, none⟩ = some (.int .i64 t.kind) := cell_of_row _ _ 0 _ _ _ HX1.out.2
    have p1 : wr.cell? ⟨w.heap.size + 1, 1, none⟩ = some (.string t.text) := cell_of_row _ _ 1 _ _ _ HX1.out.2
    by_cases hlt : k < m.params.length
    · obtain ⟨b, off, rfl, hbl, _, hc2⟩ := hcell (by omega)
      have hck := ((b1.trans (hb.mono b1.size)).cell (p := ⟨b, off + k, none⟩) hbl).trans (hc2 k hlt)
      clear hcell hc2
      by_cases e1 : t.kind = 1
      · have g1 : (t.kind == 1) = true := by simp [e1]
        by_cases e2 : m.params[k] = t.text
        · have g2 := bytes_beq e2
          have HF := Lib.hid (par_hit hlt e1 e2)
          clear e1 e2
          go_wp2
          go_quiet (fail)
          go_wp2
          go_ret
          exact ⟨ret_int (by rw [HP.out, HF.out]), b1.trans ((belowN hb _).mono b1.size)⟩
        · have g2 : (m.params[k].toList == t.text.toList) = false := bytes_bne e2
          have HF := Lib.hid (par_miss hlt (fun h => e2 h.2))
          clear e1 e2
          go_wp2
          go_quiet (fail)
          go_wp2
          go_roundw
          case rel => exact ⟨k + 1, by omega, by go_num, by show _ = _; rw [HP.out, HF.out], belowN hb _⟩
          case measure => simp [intOf]; omega
      · have g1 : (t.kind == 1) = false := by simp [e1]
        have HF := Lib.hid (par_miss hlt (fun h => e1 h.1))
        clear e1
        go_wp2
        go_quiet (fail)
        go_wp2
        go_roundw
        case rel => exact ⟨k + 1, by omega, by go_num, by show _ = _; rw [HP.out, HF.out], belowN hb _⟩
        case measure => simp [intOf]; omega
    · have HF := Lib.hid (par_end (t := t) (by omega : m.params.length ≤ k))
      go_wp2
      go_ret
      exact ⟨ret_int (by rw [HP.out, HF.out]), b1.trans (hb.mono b1.size)⟩

end Go.Proofs.Ytipfpppcbmpjiaa

/- The text of a macro is read as the macro again: no program. -/
namespace Go.Proofs.Ytipfpppcbmpjiaa
open Go.RowKit

/-! ### Tokens that need no space between them -/
def markT (c : UInt8) : Tok := ⟨4, ⟨#[c]⟩, false, []⟩
def nameT (s : ByteArray) : Tok := ⟨1, s, false, []⟩
theorem nameT_ok {s : ByteArray} (h : oneTok s 1 = true) : tokOk (nameT s) = true := by
  unfold tokOk nameT
  rw [Bool.and_eq_true]
  exact ⟨h, by show hidOk [] = true; decide⟩
theorem wEnd_words (s : ByteArray) (k : Nat) : ∀ j, (h : j < s.size) → k ≤ j → j < wEnd s k → isWord s[j] = true := by
  induction k using wEnd.induct (s := s) with
  | case1 k h hc ih =>
    intro j hj hkj hje
    rw [wEnd_in h hc] at hje
    by_cases e : j = k
    · subst e; exact hc
    · exact ih j hj (by omega) hje
  | case2 k h hc => intro j hj hkj hje; rw [wEnd_stop h (by simpa using hc)] at hje; omega
  | case3 k h => intro j hj hkj hje; rw [wEnd_out (by omega)] at hje; omega
/-- A name: at most twelve bytes, each of a word. -/
theorem name_facts {s : ByteArray} (h : oneTok s 1 = true) : 0 < s.size ∧ s.size ≤ 12 ∧ ∀ j, (hj : j < s.size) → isWord s[j] = true := by
  obtain ⟨h0, _, hc, _⟩ := tokOk_cut (nameT_ok h)
  obtain ⟨_, hk⟩ := (tokOk_facts (nameT_ok h)).1
  have h0' : 0 < s.size := h0
  have hc' : cutEnd s 0 = (s.size : Nat) := hc
  have hk' : (1 : Int) = cutKind s[0] := hk
  have hw : isWord s[0] = true := by
    unfold cutKind at hk'
    unfold isWord
    split at hk'
    · omega
    · split at hk'
      · rename_i h; rw [h]; rfl
      · split at hk' <;> omega
  rw [cutEnd_word h0' hw] at hc'
  split at hc'
  · omega
  · exact ⟨h0', by omega, fun j hj => wEnd_words s 0 j hj (by omega) (by omega)⟩
/-! ### Printing token by token -/
/-! ### The tokens of a macro's text -/
/-- The head's tokens up to the parameter k. -/
def hL (m : DMacro) : Nat → List Tok
  | 0 => [nameT m.name, markT 40]
  | k + 1 => (if 0 < k then hL m k ++ [markT 44] else hL m k) ++ [nameT (if h : k < m.params.length then m.params[k] else ⟨#[]⟩)]
/-! ### Reading it -/
theorem bodyFrom_len (l : List Tok) (k : Nat) : (bodyFrom l k).length = l.length - k := by simp [bodyFrom]
theorem bodyFrom_get (l : List Tok) (k i : Nat) (h : i < (bodyFrom l k).length) : (bodyFrom l k)[i] = ⟨(l[k + i]'(by rw [bodyFrom_len] at h; omega)).kind, (l[k + i]'(by rw [bodyFrom_len] at h; omega)).text, (l[k + i]'(by rw [bodyFrom_len] at h; omega)).spaced && decide (0 < i), []⟩ := by simp [bodyFrom]
/-! ### What the other promises ask -/
theorem macOf_ok {l : List Tok} {m : DMacro} (h : macOf l = (m, true)) : macOk m = true := by
  have hc : ∀ x : DMacro, macChk x = (m, true) → macOk m = true := fun x hx => by
    unfold macChk at hx
    split at hx
    · rename_i h1
      simp only [Prod.mk.injEq, and_true] at hx
      rw [← hx]; exact h1
    · simp at hx
  unfold macOf at h
  split at h
  · split at h
    · split at h
      · exact hc _ h
      · simp at h
    · exact hc _ h
  · simp at h
theorem macOf_no {l : List Tok} {m : DMacro} (h : macOf l = (m, false)) : m = zeroMac := by
  have hc : ∀ x : DMacro, macChk x = (m, false) → m = zeroMac := fun x hx => by
    unfold macChk at hx
    split at hx
    · simp at hx
    · simp only [Prod.mk.injEq, and_true] at hx; exact hx.symm
  unfold macOf at h
  split at h
  · split at h
    · split at h
      · exact hc _ h
      · simp only [Prod.mk.injEq, and_true] at h; exact h.symm
    · exact hc _ h
  · simp only [Prod.mk.injEq, and_true] at h; exact h.symm
end Go.Proofs.Ytipfpppcbmpjiaa

/- Valid macros, part by part, as both sides ask for them: no program. -/
namespace Go.Proofs.Ytipfpppcbmpjiaa
open Go.RowKit

/-- A text beside a literal. -/
theorem txt_dec (x : ByteArray) (l : List UInt8) : (x.toList == l) = decide (x = ⟨l.toArray⟩) := by
  rw [ByteArray.toList_eq]
  by_cases h : x = ⟨l.toArray⟩
  · subst h; simp
  · rw [decide_eq_false h, beq_eq_false_iff_ne]
    intro e
    apply h
    rw [← e]
theorem txt_t {x : ByteArray} {l : List UInt8} (h : x = ⟨l.toArray⟩) : (x.toList == l) = true := by rw [txt_dec, decide_eq_true h]
theorem txt_f {x : ByteArray} {l : List UInt8} (h : x ≠ ⟨l.toArray⟩) : (x.toList == l) = false := by rw [txt_dec, decide_eq_false h]

/-! ### Parameters -/
def ParUpto (ps : List ByteArray) (k : Nat) : Prop := ∀ j, j < k → parOk ps j = true
theorem ParUpto.zero (ps : List ByteArray) : ParUpto ps 0 := by intro j h; omega
theorem ParUpto.succ {ps : List ByteArray} {k : Nat} (h : ParUpto ps k) (h1 : parOk ps k = true) : ParUpto ps (k + 1) := by
  intro j hj
  by_cases e : j = k
  · subst e; exact h1
  · exact h j (by omega)
/-- None of the first j parameters is the parameter k. -/
def NotUpto (ps : List ByteArray) (x : ByteArray) (j : Nat) : Prop := ∀ i, i < j → ps[i]? ≠ some x
theorem NotUpto.zero (ps : List ByteArray) (x : ByteArray) : NotUpto ps x 0 := by intro i h; omega
theorem NotUpto.succ {ps : List ByteArray} {x : ByteArray} {j : Nat} (h : NotUpto ps x j) (hj : j < ps.length) (hn : ps[j] ≠ x) : NotUpto ps x (j + 1) := by
  intro i hi
  by_cases e : i = j
  · subst e; rw [List.getElem?_eq_getElem hj]; intro h'; exact hn (Option.some.inj h')
  · exact h i (by omega)
theorem par_name {ps : List ByteArray} {k : Nat} (hk : k < ps.length) (h : oneTok ps[k] 1 = false) : parOk ps k = false := by unfold parOk; rw [dif_pos hk, h]; rfl
theorem par_twice {ps : List ByteArray} {k j : Nat} (hk : k < ps.length) (hj : j < k) (h : ps[j]'(by omega) = ps[k]) : parOk ps k = false := by
  unfold parOk
  rw [dif_pos hk]
  have : (List.range k).all (fun j => !decide (ps[j]? = some ps[k])) = false := by
    rw [List.all_eq_false]
    exact ⟨j, by simpa using hj, by simp [List.getElem?_eq_getElem (show j < ps.length by omega), h]⟩
  rw [this, Bool.and_false]
theorem par_yes {ps : List ByteArray} {k : Nat} (hk : k < ps.length) (h : oneTok ps[k] 1 = true) (hn : NotUpto ps ps[k] k) : parOk ps k = true := by
  unfold parOk
  rw [dif_pos hk, h, Bool.true_and, List.all_eq_true]
  intro j hj
  have := hn j (by simpa using hj)
  simp [this]

/-! ### The body -/
/-- What the program asks of the token k of a body, besides its being valid. -/
def bodI (b : List Tok) (k : Nat) : Bool :=
  if h : k < b.length then
    decide (b[k].hidden.length = 0) && !(decide (k = 0) && b[k].spaced) && !(decide (b[k].text = hash2) && (decide (k = 0) || decide (k + 1 = b.length) || decide ((b[k - 1]'(by omega)).text = hash2)))
  else true
/-- A text is among others. -/
def hasTx (ps : List ByteArray) (x : ByteArray) : Bool := ps.any fun p => decide (p = x)
theorem hasTx_iff {ps : List ByteArray} {x : ByteArray} : hasTx ps x = true ↔ x ∈ ps := by
  unfold hasTx
  rw [List.any_eq_true]
  exact ⟨fun ⟨p, h1, h2⟩ => by rw [← of_decide_eq_true h2]; exact h1, fun h => ⟨x, h, by simp⟩⟩
/-- # stands before a parameter. -/
def signS (m : DMacro) (k : Nat) : Bool := if h : k < m.body.length then !(decide (m.body[k].text = hash1) && (if h2 : k + 1 < m.body.length then decide (parOf m.params m.body[k + 1] < 0) else true)) else true
def signI (m : DMacro) (k : Nat) : Bool := if h : k < m.body.length then !(decide (m.body[k].text = hash1) && (if h2 : k + 1 < m.body.length then !hasTx m.params m.body[k + 1].text else true)) else true
theorem bodOk_split (m : DMacro) (k : Nat) (hk : k < m.body.length) : bodOk m k = (tokOk m.body[k] && bodI m.body k && (!m.function || signS m k)) := by
  unfold bodOk bodI signS
  rw [dif_pos hk, dif_pos hk, dif_pos hk]
  cases tokOk m.body[k] <;> cases decide (m.body[k].hidden.length = 0) <;> cases (decide (k = 0) && m.body[k].spaced) <;> cases m.function <;> simp
/-- The ways of the token k of a body. -/
theorem bodI_ways {b : List Tok} {k : Nat} (hk : k < b.length) :
    (b[k].hidden.length ≠ 0 ∧ Hid (bodI b k = false)) ∨
    (b[k].hidden.length = 0 ∧ k = 0 ∧ b[k].spaced = true ∧ Hid (bodI b k = false)) ∨
    (b[k].hidden.length = 0 ∧ k = 0 ∧ b[k].spaced = false ∧ b[k].text = hash2 ∧ Hid (bodI b k = false)) ∨
    (b[k].hidden.length = 0 ∧ k = 0 ∧ b[k].spaced = false ∧ b[k].text ≠ hash2 ∧ Hid (bodI b k = true)) ∨
    (b[k].hidden.length = 0 ∧ k ≠ 0 ∧ b[k].text = hash2 ∧ k + 1 = b.length ∧ Hid (bodI b k = false)) ∨
    (b[k].hidden.length = 0 ∧ k ≠ 0 ∧ b[k].text = hash2 ∧ k + 1 ≠ b.length ∧ (b[k - 1]'(by omega)).text = hash2 ∧ Hid (bodI b k = false)) ∨
    (b[k].hidden.length = 0 ∧ k ≠ 0 ∧ b[k].text = hash2 ∧ k + 1 ≠ b.length ∧ (b[k - 1]'(by omega)).text ≠ hash2 ∧ Hid (bodI b k = true)) ∨
    (b[k].hidden.length = 0 ∧ k ≠ 0 ∧ b[k].text ≠ hash2 ∧ Hid (bodI b k = true)) := by
  have e : bodI b k = (decide (b[k].hidden.length = 0) && !(decide (k = 0) && b[k].spaced) && !(decide (b[k].text = hash2) && (decide (k = 0) || decide (k + 1 = b.length) || decide ((b[k - 1]'(by omega)).text = hash2)))) := by
    unfold bodI; rw [dif_pos hk]
  by_cases h1 : b[k].hidden.length = 0
  · by_cases h2 : k = 0
    · subst h2
      cases h3 : b[0].spaced
      · by_cases h4 : b[0].text = hash2
        · exact .inr (.inr (.inl ⟨h1, rfl, rfl, h4, by show _ = _; rw [e, h3, decide_eq_true h4]; simp⟩))
        · exact .inr (.inr (.inr (.inl ⟨h1, rfl, rfl, h4, by show _ = _; rw [e, h3, decide_eq_true h1, decide_eq_false h4]; simp⟩)))
      · exact .inr (.inl ⟨h1, rfl, rfl, by show _ = _; rw [e, h3]; simp⟩)
    · by_cases h4 : b[k].text = hash2
      · by_cases h5 : k + 1 = b.length
        · exact .inr (.inr (.inr (.inr (.inl ⟨h1, h2, h4, h5, by show _ = _; rw [e]; simp [h4, h5]⟩))))
        · by_cases h6 : (b[k - 1]'(by omega)).text = hash2
          · exact .inr (.inr (.inr (.inr (.inr (.inl ⟨h1, h2, h4, h5, h6, by show _ = _; rw [e]; simp [h4, h6]⟩)))))
          · exact .inr (.inr (.inr (.inr (.inr (.inr (.inl ⟨h1, h2, h4, h5, h6, by show _ = _; rw [e]; simp [h1, h2, h5, h6]⟩))))))
      · exact .inr (.inr (.inr (.inr (.inr (.inr (.inr ⟨h1, h2, h4, by show _ = _; rw [e]; simp [h1, h2, h4]⟩))))))
  · exact .inl ⟨h1, by show _ = _; rw [e]; simp [h1]⟩
def BodUpto (p : Nat → Bool) (k : Nat) : Prop := ∀ j, j < k → p j = true
theorem BodUpto.zero (p : Nat → Bool) : BodUpto p 0 := by intro j h; omega
theorem BodUpto.succ {p : Nat → Bool} {k : Nat} (h : BodUpto p k) (h1 : p k = true) : BodUpto p (k + 1) := by
  intro j hj
  by_cases e : j = k
  · subst e; exact h1
  · exact h j (by omega)
theorem range_no {p : Nat → Bool} {n k : Nat} (hk : k < n) (h : p k = false) : (List.range n).all p = false := by
  rw [List.all_eq_false]; exact ⟨k, by simpa using hk, by simp [h]⟩
theorem range_yes {p : Nat → Bool} {n : Nat} (h : ∀ j, j < n → p j = true) : (List.range n).all p = true := by
  rw [List.all_eq_true]; intro j hj; exact h j (by simpa using hj)

theorem signS_other {m : DMacro} {k : Nat} (hk : k < m.body.length) (h : m.body[k].text ≠ hash1) : signS m k = true := by unfold signS; rw [dif_pos hk, decide_eq_false h]; rfl
theorem signS_last {m : DMacro} {k : Nat} (hk : k < m.body.length) (h : m.body[k].text = hash1) (hl : k + 1 = m.body.length) : signS m k = false := by unfold signS; rw [dif_pos hk, decide_eq_true h, dif_neg (by omega)]; rfl
theorem signS_no {m : DMacro} {k : Nat} (hk : k + 1 < m.body.length) (h : (m.body[k]'(by omega)).text = hash1) (hp : parOf m.params m.body[k + 1] < 0) : signS m k = false := by unfold signS; rw [dif_pos (by omega), decide_eq_true h, dif_pos hk, decide_eq_true hp]; rfl
theorem signS_yes {m : DMacro} {k : Nat} (hk : k + 1 < m.body.length) (h : (m.body[k]'(by omega)).text = hash1) (hp : ¬ parOf m.params m.body[k + 1] < 0) : signS m k = true := by unfold signS; rw [dif_pos (by omega), decide_eq_true h, dif_pos hk, decide_eq_false hp]; rfl

/-! ### Macros of the model -/
theorem macOk_head {m : DMacro} (h : macHead m = false) : macOk m = false := by unfold macOk; rw [h]; rfl
theorem macOk_par {m : DMacro} {k : Nat} (hk : k < m.params.length) (h : parOk m.params k = false) : macOk m = false := by unfold macOk; rw [range_no hk h]; simp
theorem macOk_bod {m : DMacro} {k : Nat} (hk : k < m.body.length) (h : bodOk m k = false) : macOk m = false := by unfold macOk; rw [range_no hk h]; simp
theorem macOk_yes {m : DMacro} (h : macHead m = true) (h1 : ParUpto m.params m.params.length) (h2 : BodUpto (bodOk m) m.body.length) : macOk m = true := by unfold macOk; rw [h, range_yes h1, range_yes h2]; rfl
/-- The ways of a macro's head. -/
theorem head_ways (m : DMacro) :
    (oneTok m.name 1 = false ∧ Hid (macOk m = false)) ∨
    (oneTok m.name 1 = true ∧ m.name = definedB ∧ Hid (macOk m = false)) ∨
    (oneTok m.name 1 = true ∧ m.name ≠ definedB ∧ 4 < m.params.length ∧ Hid (macOk m = false)) ∨
    (oneTok m.name 1 = true ∧ m.name ≠ definedB ∧ m.params.length ≤ 4 ∧ m.function = false ∧ 0 < m.params.length ∧ Hid (macOk m = false)) ∨
    (oneTok m.name 1 = true ∧ m.name ≠ definedB ∧ m.params.length ≤ 4 ∧ (m.function = true ∨ m.params.length = 0) ∧ 20 < m.body.length ∧ Hid (macOk m = false)) ∨
    (oneTok m.name 1 = true ∧ m.name ≠ definedB ∧ m.params.length ≤ 4 ∧ (m.function = true ∨ m.params.length = 0) ∧ m.body.length ≤ 20 ∧ Hid (macHead m = true)) := by
  have hd : macHead m = (oneTok m.name 1 && !decide (m.name = definedB) && decide (m.params.length ≤ 4) && (m.function || decide (m.params.length = 0)) && decide (m.body.length ≤ 20)) := rfl
  cases h1 : oneTok m.name 1
  · exact .inl ⟨rfl, macOk_head (by rw [hd, h1]; rfl)⟩
  by_cases h2 : m.name = definedB
  · exact .inr (.inl ⟨rfl, h2, macOk_head (by rw [hd, h1]; simp [h2])⟩)
  by_cases h3 : m.params.length ≤ 4
  · cases h4 : m.function
    · by_cases h5 : m.params.length = 0
      · by_cases h6 : m.body.length ≤ 20
        · exact .inr (.inr (.inr (.inr (.inr ⟨rfl, h2, h3, .inr h5, h6, by show _ = _; rw [hd, h1]; simp [h2, h5, h6]⟩))))
        · exact .inr (.inr (.inr (.inr (.inl ⟨rfl, h2, h3, .inr h5, by omega, macOk_head (by rw [hd]; simp [h6])⟩))))
      · exact .inr (.inr (.inr (.inl ⟨rfl, h2, h3, rfl, by omega, macOk_head (by rw [hd, h4]; simp [h5])⟩)))
    · by_cases h6 : m.body.length ≤ 20
      · exact .inr (.inr (.inr (.inr (.inr ⟨rfl, h2, h3, .inl rfl, h6, by show _ = _; rw [hd, h1, h4]; simp [h2, h3, h6]⟩))))
      · exact .inr (.inr (.inr (.inr (.inl ⟨rfl, h2, h3, .inl rfl, by omega, macOk_head (by rw [hd]; simp [h6])⟩))))
  · exact .inr (.inr (.inl ⟨rfl, h2, by omega, macOk_head (by rw [hd]; simp [h3])⟩))

/-! ### Macros of the program -/
def parsOk (ps : List ByteArray) : Bool := decide (ps.length ≤ 4) && (List.range ps.length).all (parOk ps)
def bodyOkI (b : List Tok) : Bool := decide (b.length ≤ 20) && toksOk b && (List.range b.length).all (bodI b)
def signsOk (m : DMacro) : Bool := (List.range m.body.length).all (signI m)
/-- A text is one token of one kind. -/
theorem one_kind {x : ByteArray} {k k' : Int} (h : oneTok x k = true) (h' : oneTok x k' = true) : k = k' := by
  rcases one_ways x k with ⟨_, H⟩ | ⟨_, _, _, H⟩ | ⟨_, _, _, H⟩ | ⟨_, _, _, _, H⟩ | ⟨t, hr, hk, _, _, _⟩
  · exact absurd (H.out.symm.trans h) (by simp)
  · exact absurd (H.out.symm.trans h) (by simp)
  · exact absurd (H.out.symm.trans h) (by simp)
  · exact absurd (H.out.symm.trans h) (by simp)
  · unfold oneTok at h'
    rw [hr] at h'
    simp at h'
    rw [← hk, ← h'.1]
theorem parFrom_neg {ps : List ByteArray} {t : Tok} (hk : t.kind = 1) (k : Nat) : parFrom ps t k < 0 ↔ t.text ∉ ps.drop k := by
  induction k using parFrom.induct (ps := ps) (t := t) with
  | case1 k h hc =>
    rw [parFrom, dif_pos h, if_pos hc, List.drop_eq_getElem_cons h]
    simp [hc.2]
  | case2 k h hc ih =>
    rw [parFrom, dif_pos h, if_neg hc, ih, List.drop_eq_getElem_cons h]
    have hn : ¬ t.text = ps[k] := fun e => hc ⟨hk, e.symm⟩
    rw [List.mem_cons, not_or]
    exact ⟨fun h => ⟨hn, h⟩, fun h => h.2⟩
  | case3 k h => rw [parFrom, dif_neg h, List.drop_eq_nil_iff.2 (by omega)]; simp
theorem parFrom_kind {ps : List ByteArray} {t : Tok} (hk : t.kind ≠ 1) (k : Nat) : parFrom ps t k < 0 := by
  induction k using parFrom.induct (ps := ps) (t := t) with
  | case1 k h hc => exact absurd hc.1 hk
  | case2 k h hc ih => rw [parFrom, dif_pos h, if_neg hc]; exact ih
  | case3 k h => rw [parFrom, dif_neg h]; omega
theorem sign_same {m : DMacro} (hp : ∀ k, (hk : k < m.params.length) → oneTok m.params[k] 1 = true) (hb : ∀ k, (hk : k < m.body.length) → tokOk m.body[k] = true) (k : Nat) : signI m k = signS m k := by
  unfold signI signS
  by_cases h : k < m.body.length
  · rw [dif_pos h, dif_pos h]
    by_cases h2 : k + 1 < m.body.length
    · rw [dif_pos h2, dif_pos h2]
      have e : (!hasTx m.params m.body[k + 1].text) = decide (parOf m.params m.body[k + 1] < 0) := by
        by_cases hk : m.body[k + 1].kind = 1
        · have := parFrom_neg (ps := m.params) hk 0
          rw [List.drop_zero] at this
          unfold parOf
          by_cases hm : m.body[k + 1].text ∈ m.params
          · have h3 : ¬ parFrom m.params m.body[k + 1] 0 < 0 := fun h => this.1 h hm
            rw [hasTx_iff.2 hm, decide_eq_false h3]; rfl
          · have h4 : hasTx m.params m.body[k + 1].text = false := by
              cases h : hasTx m.params m.body[k + 1].text
              · rfl
              · exact absurd (hasTx_iff.1 h) hm
            rw [h4, decide_eq_true (this.2 hm)]; rfl
        · have h3 := parFrom_kind (ps := m.params) hk 0
          have hm : m.body[k + 1].text ∉ m.params := fun hm => by
            obtain ⟨i, hi, he⟩ := List.getElem_of_mem hm
            have h4 := hp i hi
            rw [he] at h4
            have h5 := hb (k + 1) h2
            unfold tokOk at h5
            rw [Bool.and_eq_true] at h5
            exact hk (one_kind h5.1 h4)
          have h4 : hasTx m.params m.body[k + 1].text = false := by
            cases h : hasTx m.params m.body[k + 1].text
            · rfl
            · exact absurd (hasTx_iff.1 h) hm
          unfold parOf
          rw [h4, decide_eq_true h3]; rfl
      rw [e]
    · rw [dif_neg h2, dif_neg h2]
  · rw [dif_neg h, dif_neg h]
theorem all_and (n : Nat) (p q : Nat → Bool) : (List.range n).all (fun k => p k && q k) = ((List.range n).all p && (List.range n).all q) := by
  induction n with
  | zero => rfl
  | succ n ih =>
    simp only [List.range_succ, List.all_append, ih, List.all_cons, List.all_nil, Bool.and_true]
    cases (List.range n).all p <;> cases (List.range n).all q <;> cases p n <;> cases q n <;> rfl
theorem all_ext {n : Nat} {p q : Nat → Bool} (h : ∀ k, k < n → p k = q k) : (List.range n).all p = (List.range n).all q := by
  cases hq : (List.range n).all q
  · rw [List.all_eq_false] at hq
    obtain ⟨k, hk, h2⟩ := hq
    have hk' : k < n := by simpa using hk
    exact range_no hk' (by rw [h k hk']; simpa using h2)
  · rw [List.all_eq_true] at hq
    exact range_yes fun j hj => by rw [h j hj]; exact hq j (by simpa using hj)
theorem toks_range {b : List Tok} (h : b.length ≤ 20) : toksOk b = (List.range b.length).all (fun k => if h : k < b.length then tokOk b[k] else true) := by
  unfold toksOk
  rw [decide_eq_true (by omega : b.length ≤ 60), Bool.true_and]
  cases hr : (List.range b.length).all (fun k => if h : k < b.length then tokOk b[k] else true)
  · rw [List.all_eq_false] at hr ⊢
    obtain ⟨k, hk, h2⟩ := hr
    have hk' : k < b.length := by simpa using hk
    rw [dif_pos hk'] at h2
    exact ⟨b[k], List.getElem_mem hk', h2⟩
  · rw [List.all_eq_true] at hr ⊢
    intro t ht
    obtain ⟨i, hi, rfl⟩ := List.getElem_of_mem ht
    have := hr i (by simpa using hi)
    rw [dif_pos hi] at this
    exact this
/-- The program's question is the model's. -/
theorem mac_impl (m : DMacro) : macOk m = (oneTok m.name 1 && !decide (m.name = definedB) && (if m.function = true then parsOk m.params && bodyOkI m.body && signsOk m else decide (m.params.length = 0) && bodyOkI m.body)) := by
  have hd : macHead m = (oneTok m.name 1 && !decide (m.name = definedB) && decide (m.params.length ≤ 4) && (m.function || decide (m.params.length = 0)) && decide (m.body.length ≤ 20)) := rfl
  have hB : m.body.length ≤ 20 → (List.range m.body.length).all (bodOk m) = (toksOk m.body && (List.range m.body.length).all (bodI m.body) && (List.range m.body.length).all (fun k => !m.function || signS m k)) := by
    intro hl
    rw [toks_range hl, ← all_and, ← all_and]
    exact all_ext fun k hk => by rw [dif_pos hk]; exact bodOk_split m k hk
  unfold macOk
  rw [hd]
  by_cases hl : m.body.length ≤ 20
  · rw [hB hl, decide_eq_true hl]
    cases hf : m.function
    · rw [if_neg (by simp)]
      have e1 : (List.range m.body.length).all (fun k => !false || signS m k) = true := range_yes fun _ _ => rfl
      rw [e1]
      unfold bodyOkI
      rw [decide_eq_true hl]
      by_cases h0 : m.params.length = 0
      · rw [h0]
        simp
      · rw [decide_eq_false h0]; simp
    · rw [if_pos rfl]
      unfold parsOk bodyOkI signsOk
      rw [decide_eq_true hl]
      have e1 : (List.range m.body.length).all (fun k => !true || signS m k) = (List.range m.body.length).all (signS m) := all_ext fun _ _ => by simp
      rw [e1]
      cases hp : (List.range m.params.length).all (parOk m.params)
      · simp
      cases ht : toksOk m.body
      · simp
      have e2 : (List.range m.body.length).all (signI m) = (List.range m.body.length).all (signS m) := all_ext fun k _ => by
        refine sign_same (fun k hk => ?_) (fun k hk => ?_) k
        · rw [List.all_eq_true] at hp
          have := hp k (by simpa using hk)
          unfold parOk at this
          rw [dif_pos hk, Bool.and_eq_true] at this
          exact this.1
        · rw [toks_range hl, List.all_eq_true] at ht
          have := ht k (by simpa using hk)
          rw [dif_pos hk] at this
          exact this
      rw [e2]
      simp only [Bool.true_or, Bool.and_true, Bool.true_and, Bool.and_assoc]
  · have e1 : bodyOkI m.body = false := by unfold bodyOkI; rw [decide_eq_false hl]; rfl
    rw [decide_eq_false hl, e1]
    simp

end Go.Proofs.Ytipfpppcbmpjiaa
