/- Texts that the proof of U stands on, in one file. -/
import Derived.Test.YtgjjidjkpmmcoaaZU4
import Derived.Test.YtgjjidjkpmmcoaaZU2
import Derived.Test.YtgjjidjkpmmcoaaZU3
import Derived.Deep.RegionHeld3
import Derived.Deep.QuietTactic
import Derived.BigQuiet
import Derived.Outline
import Derived.StillTailTactics
import Derived.Deep.Fields
import Derived.ChangeSame
set_option linter.unusedVariables false
set_option linter.unusedSimpArgs false
/- Slices of tokens as arguments of a law: their size, their copy. -/
namespace Go.Proofs.Ytgjjidjkpmmcoaa
open Go.RowKit

def wtTokenS (l : List Tok) : Nat := l.length + (l.map wtToken).sum

set_option maxHeartbeats 2000000 in
set_option maxRecDepth 100000 in
theorem szTokenS (v : Value) (l : List Tok) (fp : List Nat) (w : World) (B : Int) (h0 : 0 ≤ B) (h1 : B ≤ 1048576) (H : (sSlice sTok).R w [v] l fp) :
    Calls Try.prog 15 #[v, .int .i64 B] w fun e w' => ∃ r : Int, e = .returned (.int .i64 r) ∧ SzR B r (wtTokenS l) ∧ Below w.heap.size w w' := by
  obtain ⟨a, cap, rfl, hc, hm, hrow⟩ := open_rows H
  unfold maxLen at hm
  clear H
  by_cases hl : B < l.length
  · have HN : Hid (SzR B (-1) (wtTokenS l)) := SzR.no (by unfold wtTokenS; omega)
    go_enter Try.func15, Try.ntmps15
    go_wp2
    go_ret
    exact ⟨-1, rfl, HN.out, Below.refl _ _⟩
  · go_enter Try.func15, Try.ntmps15
    go_wp2
    go_loopw [1, 5] (fun t i wr => ∃ (k : Nat) (r : Int), k ≤ l.length ∧ i = .int .i64 k ∧ t = .int .i64 r ∧ 0 ≤ r ∧ r ≤ B ∧ Hid (r = B - l.length - (((l.take k).map wtToken).sum : Nat)) ∧ Below w.heap.size w wr) (fun _ i _ => l.length - (intOf i).toNat)
    case atStart => exact ⟨0, _, by omega, rfl, rfl, by omega, by omega, by show _ = _; simp, Below.refl _ _⟩
    case round =>
      obtain ⟨k, r, hk, rfl, rfl, hr0, hr1, HA, hb⟩ := hrel
      by_cases hlt : k < l.length
      · obtain ⟨b1, off1, fps1, rfl, hb1, -, he1⟩ := hrow (by omega)
        obtain ⟨es1, hE1, hR1⟩ := he1 k hlt
        clear hrow he1
        have hR2 := sTok.below hR1 hb
        obtain ⟨h1', rfl, _, _, _⟩ := hR1
        have HC := Lib.hid (szToken _ _ _ wr r hr0 (by omega) hR2)
        clear hR2
        replace hE1 := hE1.frame (hb.block b1 hb1)
        have c10 : wr.cell? ⟨b1, off1 + k * 4, none⟩ = some _ := elem_cell0 hE1 (by decide) rfl
        have c11 : wr.cell? ⟨b1, off1 + k * 4 + 1, none⟩ = some _ := elem_cell (j := 1) hE1 (by decide) rfl
        have c12 : wr.cell? ⟨b1, off1 + k * 4 + 2, none⟩ = some _ := elem_cell (j := 2) hE1 (by decide) rfl
        have c13 : wr.cell? ⟨b1, off1 + k * 4 + 3, none⟩ = some _ := elem_cell (j := 3) hE1 (by decide) rfl
        clear hE1
        have HT := Lib.hid (wsum_succ wtToken l k hlt)
        have HT2 := Lib.hid (wsum_le wtToken l (k + 1))
        go_wp2_with fail
        refine (HC.out).mono ?_
        rintro e w1 ⟨r', rfl, hr', hb2⟩
        clear c10 c11 c12 c13
        by_cases hn : r' < 0
        · have HN : Hid (SzR B (-1) (wtTokenS l)) := SzR.no (by
            have hx : r < wtToken l[k] := by unfold SzR at hr'; split at hr' <;> omega
            have := HT2.out; have := HT.out; have := HA.out; unfold wtTokenS; omega)
          go_wp2
          go_ret
          exact ⟨-1, rfl, HN.out, hb.trans (hb2.mono hb.size)⟩
        · have hg := hr'.good hn
          have hle := hr'.le hr0
          have HA' : Hid (r' = B - l.length - (((l.take (k + 1)).map wtToken).sum : Nat)) := by
            show _ = _
            have := HT.out; have := HA.out
            omega
          clear hr' hg
          go_wp2
          go_roundw
          case rel => exact ⟨k + 1, _, by omega, by go_num, rfl, by omega, by omega, HA'.out, hb.trans (hb2.mono hb.size)⟩
          case measure => simp [intOf]; omega
      · have HN : Hid (SzR B r (wtTokenS l)) := by
          have h := HA.out
          rw [List.take_of_length_le (by omega)] at h
          exact SzR.yes (by unfold wtTokenS; omega) (by unfold wtTokenS; omega)
        go_wp2
        go_ret
        exact ⟨r, rfl, HN.out, hb⟩

set_option maxHeartbeats 4000000 in
set_option maxRecDepth 100000 in
theorem toTokenS (v : Value) (l : List Tok) (fp : List Nat) (w : World) (hW : wtTokenS l ≤ 1048576) (H : (sSlice sTok).R w [v] l fp) :
    Calls Try.prog 17 #[v] w (Made (sSlice sTok) l w) := by
  have hB : l.length ≤ 1048576 := by unfold wtTokenS at hW; omega
  have HW : Hid (∀ k, (hk : k < l.length) → wtToken l[k] ≤ 1048576) := fun k hk => by have := wsum_at wtToken l k hk; unfold wtTokenS at hW; omega
  obtain ⟨a, cap, rfl, hc, hm, hrow⟩ := open_rows H
  unfold maxLen at hm
  clear H hW
  go_enter Try.func17, Try.ntmps17
  go_wp2_with (at_make; refine wp_make_full ti_tok _ rfl _ _ rfl w.heap.size l.length rfl rfl (by omega) (by unfold maxLen; omega) (Nat.le_refl _) ?_; intro w1 hown hgrow)
  have hbel := (Below.refl w.heap.size w).grown hgrow (Nat.le_refl _) (by simp)
  have HF0 := Filling.start (S := sTok) (l := l) hown
  clear hgrow hown
  go_loopw [4] (fun i wr => ∃ (k : Nat) (L : List (Elem Tok)) (R : List Value), k ≤ l.length ∧ i = .int .i64 k ∧ Hid (Filling sTok w.heap.size 28 l k wr L R) ∧ Below w.heap.size w wr) (fun i _ => l.length - (intOf i).toNat)
  case atStart => exact ⟨0, _, _, by omega, rfl, HF0, hbel⟩
  case round =>
    obtain ⟨k, L, R, hk, rfl, HF, hb⟩ := hrel
    clear HF0 hbel
    by_cases hlt : k < l.length
    · obtain ⟨b1, off1, fps1, rfl, hb1, -, he1⟩ := hrow (by omega)
      obtain ⟨es1, hE1, hR1⟩ := he1 k hlt
      clear hrow he1
      have hR2 := sTok.below hR1 hb
      obtain ⟨h1', rfl, _, _, _⟩ := hR1
      have HC := Lib.hid (toToken _ _ _ wr (HW.out k hlt) hR2)
      clear hR2
      replace hE1 := hE1.frame (hb.block b1 hb1)
      have c10 : wr.cell? ⟨b1, off1 + k * 4, none⟩ = some _ := elem_cell0 hE1 (by decide) rfl
      have c11 : wr.cell? ⟨b1, off1 + k * 4 + 1, none⟩ = some _ := elem_cell (j := 1) hE1 (by decide) rfl
      have c12 : wr.cell? ⟨b1, off1 + k * 4 + 2, none⟩ = some _ := elem_cell (j := 2) hE1 (by decide) rfl
      have c13 : wr.cell? ⟨b1, off1 + k * 4 + 3, none⟩ = some _ := elem_cell (j := 3) hE1 (by decide) rfl
      clear hE1
      go_wp2_with fail
      refine (HC.out).mono ?_
      rintro e w2 ⟨cs, fp2, rfl, hR2, hO2, hb2⟩
      have HN := Lib.hid (HF.out.next (cs := cs) hlt hb2 (by obtain ⟨_, rfl, _⟩ := hR2; rfl) hR2 hO2)
      obtain ⟨h2, rfl, _, _, K2⟩ := hR2
      obtain ⟨ah, caph, rfl, -⟩ := open_rows K2
      have HF2 := Lib.hid (HF.out.below hb2)
      obtain ⟨u0, d0⟩ : ∃ u, w2.cell? ⟨w.heap.size, k * 4, none⟩ = some u := HF2.out.cell hlt (j := 0) (by decide)
      obtain ⟨u1, d1⟩ : ∃ u, w2.cell? ⟨w.heap.size, k * 4 + 1, none⟩ = some u := HF2.out.cell hlt (j := 1) (by decide)
      obtain ⟨u2, d2⟩ : ∃ u, w2.cell? ⟨w.heap.size, k * 4 + 2, none⟩ = some u := HF2.out.cell hlt (j := 2) (by decide)
      obtain ⟨u3, d3⟩ : ∃ u, w2.cell? ⟨w.heap.size, k * 4 + 3, none⟩ = some u := HF2.out.cell hlt (j := 3) (by decide)
      have f0 := HF2.out.frozen (k * 4)
      have f1 := HF2.out.frozen (k * 4 + 1)
      have f2 := HF2.out.frozen (k * 4 + 2)
      have f3 := HF2.out.frozen (k * 4 + 3)
      clear c10 c11 c12 c13 K2 hO2
      go_wp2
      obtain ⟨R', HN⟩ := HN.out
      go_roundw
      case rel => exact ⟨k + 1, _, R', by omega, by go_num, HN, putAll_below (Nat.le_refl _) [_, _, _, _] _ (k * 4) (hb.trans (hb2.mono hb.size))⟩
      case measure => simp [intOf]; omega
    · obtain ⟨fp', h1, h2⟩ := HF.out.done (by omega)
      go_wp2
      go_ret
      exact ⟨_, fp', rfl, h1, h2, hb⟩

end Go.Proofs.Ytgjjidjkpmmcoaa

/- Macros: their validity, their texts, and how they are read: no program. -/
namespace Go.Proofs.Ytgjjidjkpmmcoaa
open Go.RowKit

structure DMacro where
  name : ByteArray
  function : Bool
  params : List ByteArray
  body : List Tok

def definedB : ByteArray := ⟨#[100, 101, 102, 105, 110, 101, 100]⟩
def hash1 : ByteArray := ⟨#[35]⟩
def hash2 : ByteArray := ⟨#[35, 35]⟩
def openB : ByteArray := ⟨#[40]⟩
def closeB : ByteArray := ⟨#[41]⟩
def commaB : ByteArray := ⟨#[44]⟩
/-- The number of the parameter that a token is, from k on, or -1. -/
def parFrom (ps : List ByteArray) (t : Tok) (k : Nat) : Int := if h : k < ps.length then (if t.kind = 1 ∧ ps[k] = t.text then (k : Int) else parFrom ps t (k + 1)) else -1
termination_by ps.length - k
def parOf (ps : List ByteArray) (t : Tok) : Int := parFrom ps t 0
theorem parFrom_key (ps : List ByteArray) {t u : Tok} (h1 : t.kind = u.kind) (h2 : t.text = u.text) (k : Nat) : parFrom ps t k = parFrom ps u k := by
  induction k using parFrom.induct (ps := ps) (t := t) with
  | case1 k h hc => rw [parFrom.eq_def ps t k, dif_pos h, if_pos hc, parFrom.eq_def ps u k, dif_pos h, if_pos (by rw [← h1, ← h2]; exact hc)]
  | case2 k h hc ih => rw [parFrom.eq_def ps t k, dif_pos h, if_neg hc, ih, parFrom.eq_def ps u k, dif_pos h, if_neg (by rw [← h1, ← h2]; exact hc)]
  | case3 k h => rw [parFrom.eq_def ps t k, dif_neg h, parFrom.eq_def ps u k, dif_neg h]

def macHead (m : DMacro) : Bool := oneTok m.name 1 && !decide (m.name = definedB) && decide (m.params.length ≤ 4) && (m.function || decide (m.params.length = 0)) && decide (m.body.length ≤ 20)
def parOk (ps : List ByteArray) (k : Nat) : Bool := if h : k < ps.length then oneTok ps[k] 1 && (List.range k).all (fun j => !decide (ps[j]? = some ps[k])) else true
def bodOk (m : DMacro) (k : Nat) : Bool :=
  if h : k < m.body.length then
    tokOk m.body[k] && decide (m.body[k].hidden.length = 0) && !(decide (k = 0) && m.body[k].spaced) &&
    !(decide (m.body[k].text = hash2) && (decide (k = 0) || decide (k + 1 = m.body.length) || decide ((m.body[k - 1]'(by omega)).text = hash2))) &&
    !(m.function && decide (m.body[k].text = hash1) && (if h2 : k + 1 < m.body.length then decide (parOf m.params m.body[k + 1] < 0) else true))
  else true
def macOk (m : DMacro) : Bool := macHead m && (List.range m.params.length).all (parOk m.params) && (List.range m.body.length).all (bodOk m)

/-- The head of a macro's text, up to the parameter k. -/
def hdTo (m : DMacro) : Nat → ByteArray
  | 0 => m.name ++ openB
  | k + 1 => (if 0 < k then hdTo m k ++ commaB else hdTo m k) ++ (if h : k < m.params.length then m.params[k] else ⟨#[]⟩)
def headOf (m : DMacro) : ByteArray := if m.function = true then hdTo m m.params.length ++ closeB else m.name
def macOut (m : DMacro) : ByteArray := if 0 < m.body.length then headOf m ++ ⟨#[32]⟩ ++ (printRes m.body).1 else headOf m
def macText (m : DMacro) : ByteArray × Bool := if macOk m = true then (if (printRes m.body).2 = false ∨ 200 < (macOut m).size then (⟨#[]⟩, false) else (macOut m, true)) else (⟨#[]⟩, false)

/-- The names of parameters from a place on, and where the body begins. -/
def parsAt (l : List Tok) (k : Nat) : Option (List ByteArray × Nat) :=
  if h : k + 1 < l.length then
    (if l[k].kind = 1 then (if l[k + 1].text = closeB then some ([l[k].text], k + 2) else if l[k + 1].text = commaB then (parsAt l (k + 2)).map (fun p => (l[k].text :: p.1, p.2)) else none) else none)
  else none
termination_by l.length - k
def parsOf (l : List Tok) : Option (List ByteArray × Nat) := if h : 2 < l.length then (if l[2].text = closeB ∧ l[2].kind = 4 then some ([], 3) else parsAt l 2) else none
/-- A body as it is read: nothing hidden, the first one not Spaced. -/
def bodyFrom (l : List Tok) (k : Nat) : List Tok := (l.drop k).mapIdx fun i t => ⟨t.kind, t.text, t.spaced && decide (0 < i), []⟩
def zeroMac : DMacro := ⟨⟨#[]⟩, false, [], []⟩
def macChk (m : DMacro) : DMacro × Bool := if macOk m = true then (m, true) else (zeroMac, false)
/-- Whether the second token opens parameters. -/
def opens2 (l : List Tok) : Bool := if h : 1 < l.length then decide (l[1].text = openB) && !l[1].spaced else false
def macOf (l : List Tok) : DMacro × Bool :=
  if h : toksOk l = true ∧ 0 < l.length then
    (if opens2 l = true then (match parsOf l with | some p => macChk ⟨l[0].text, true, p.1, bodyFrom l p.2⟩ | none => (zeroMac, false))
     else macChk ⟨l[0].text, false, [], bodyFrom l 1⟩)
  else (zeroMac, false)

/-! ### Valid macros -/
theorem macOk_facts {m : DMacro} (h : macOk m = true) : (oneTok m.name 1 = true ∧ m.name ≠ definedB ∧ m.params.length ≤ 4 ∧ (m.function = true ∨ m.params = []) ∧ m.body.length ≤ 20) ∧ (∀ k, (hk : k < m.params.length) → oneTok m.params[k] 1 = true) ∧ (∀ k, k < m.body.length → bodOk m k = true) := by
  unfold macOk macHead at h
  simp only [Bool.and_eq_true, Bool.not_eq_true', decide_eq_false_iff_not, decide_eq_true_eq, Bool.or_eq_true, List.all_eq_true, List.mem_range, List.length_eq_zero_iff] at h
  obtain ⟨⟨⟨⟨⟨⟨h1, h2⟩, h3⟩, h4⟩, h5⟩, h6⟩, h7⟩ := h
  refine ⟨⟨h1, h2, h3, h4, h5⟩, fun k hk => ?_, h7⟩
  have := h6 k hk
  unfold parOk at this
  rw [dif_pos hk, Bool.and_eq_true] at this
  exact this.1
theorem bodOk_facts {m : DMacro} {k : Nat} (hk : k < m.body.length) (h : bodOk m k = true) : tokOk m.body[k] = true ∧ m.body[k].hidden = [] ∧ (k = 0 → m.body[k].spaced = false) := by
  unfold bodOk at h
  rw [dif_pos hk] at h
  simp only [Bool.and_eq_true, decide_eq_true_eq, List.length_eq_zero_iff, Bool.not_eq_true', Bool.and_eq_false_iff, decide_eq_false_iff_not] at h
  obtain ⟨⟨⟨⟨h1, h2⟩, h3⟩, _⟩, _⟩ := h
  exact ⟨h1, h2, fun h => h3.resolve_left (fun h' => h' h)⟩
theorem tokOk_bare {t : Tok} (h : tokOk t = true) (sp : Bool) : tokOk ⟨t.kind, t.text, sp, []⟩ = true := by
  unfold tokOk at h ⊢
  rw [Bool.and_eq_true] at h ⊢
  exact ⟨h.1, by show hidOk [] = true; decide⟩
/-- Only the kinds and texts of a body count. -/
theorem macOk_keys {m : DMacro} {b : List Tok} (h : macOk m = true) (hl : b.length = m.body.length) (hk : ∀ k, (h1 : k < b.length) → (h2 : k < m.body.length) → b[k].kind = m.body[k].kind ∧ b[k].text = m.body[k].text ∧ b[k].hidden = [] ∧ (k = 0 → b[k].spaced = false)) :
    macOk ⟨m.name, m.function, m.params, b⟩ = true := by
  have hF := macOk_facts h
  unfold macOk at h ⊢
  rw [Bool.and_eq_true] at h ⊢
  refine ⟨?_, ?_⟩
  · have h1 := h.1
    unfold macHead at h1 ⊢
    simp only [hl] at h1 ⊢
    exact h1
  · rw [List.all_eq_true]
    intro k hkm
    rw [List.mem_range] at hkm
    have hkb : k < m.body.length := by simpa [hl] using hkm
    have hkb' : k < b.length := by omega
    have hB := hF.2.2 k hkb
    have hf := bodOk_facts hkb hB
    obtain ⟨e1, e2, e3, e4⟩ := hk k hkb' hkb
    have ht : tokOk b[k] = true := by
      have := tokOk_bare hf.1 b[k].spaced
      rw [← e1, ← e2, ← e3] at this
      exact this
    unfold bodOk at hB ⊢
    rw [dif_pos hkb] at hB
    rw [dif_pos (show k < (⟨m.name, m.function, m.params, b⟩ : DMacro).body.length from hkb')]
    simp only [ht, e2, e3, hl, List.length_nil, decide_true, Bool.true_and]
    simp only [hf.1, hf.2.1, List.length_nil, decide_true, Bool.true_and] at hB
    have e5 : (decide (k = 0) && b[k].spaced) = false := by
      by_cases h0 : k = 0
      · rw [e4 h0, Bool.and_false]
      · simp [h0]
    have e6 : (b[k - 1]'(by omega)).text = (m.body[k - 1]'(by omega)).text := (hk (k - 1) (by omega) (by omega)).2.1
    rw [e5, e6]
    rw [Bool.and_eq_true, Bool.and_eq_true] at hB
    rw [Bool.and_eq_true, Bool.and_eq_true]
    refine ⟨⟨by simp, hB.1.2⟩, ?_⟩
    have h2 := hB.2
    by_cases h3 : k + 1 < m.body.length
    · rw [dif_pos h3] at h2
      obtain ⟨g1, g2, _, _⟩ := hk (k + 1) (by omega) h3
      have e7 : parOf m.params (b[k + 1]'(by omega)) = parOf m.params m.body[k + 1] := parFrom_key _ g1 g2 0
      rw [dif_pos h3, e7]
      exact h2
    · rw [dif_neg h3] at h2 ⊢
      exact h2

end Go.Proofs.Ytgjjidjkpmmcoaa

/- Macro: its shape, and the law's own helpers. (Made by rec.py.) -/
namespace Go.Proofs.Ytgjjidjkpmmcoaa
open Go.RowKit Go.ChangeShapes Go.WideShapes Go.Deep

def sMacro : Shape DMacro where
  m := 4
  R w cs d fp := ∃ (h2 : Value) (h3 : Value) (fp2 : List Nat) (fp3 : List Nat), cs = [.string d.name, .bool d.function, h2, h3] ∧ okStr d.name ∧ (sSlice sStr).R w [h2] d.params fp2 ∧ (sSlice sTok).R w [h3] d.body fp3 ∧ fp = fp2 ++ fp3
  frame := by
    rintro w w' cs d fp hf ⟨h2, h3, fp2, fp3, rfl, k0, K2, K3, rfl⟩
    exact ⟨h2, h3, fp2, fp3, rfl, k0, (sSlice sStr).frame (fun b hb => hf b (by simp [hb])) K2, (sSlice sTok).frame (fun b hb => hf b (by simp [hb])) K3, rfl⟩
  lt := by
    rintro w cs d fp ⟨h2, h3, fp2, fp3, rfl, k0, K2, K3, rfl⟩ b hb
    rcases List.mem_append.1 hb with hb | hb
    · exact (sSlice sStr).lt K2 b hb
    · exact (sSlice sTok).lt K3 b hb
def mkMacro (k : Int) (x : DMacro) : DMacro := ⟨mtext (k), (k + 1) % 3 == 0, marks mtext (k + 1 + 1) x.params.length, mkTokenS (k + 1 + 1 + (x.params.length : Int)) x.body⟩
def cntMacro (x : DMacro) : Nat := 2 + x.params.length + cntTokenS x.body
def mkMacroS (k : Int) (l : List DMacro) : List DMacro := mkAll mkMacro cntMacro k l
def cntMacroS (l : List DMacro) : Nat := cntAll cntMacro l
def wtMacro (x : DMacro) : Nat := x.name.size + wtStringS x.params + wtTokenS x.body
def wtMacroS (l : List DMacro) : Nat := l.length + (l.map wtMacro).sum

section
variable {H : Type} {enc : TypeId × Value → H} {P : Program} {w : World} {base : Nat} {spare : Nat → Bool} {held : Bool}
theorem opensP_Macro {t : TypeId} {f0 f1 f2 f3 : Field} (hs : P.underlying t = some (.struct #[f0, f1, f2, f3])) (hone : oneCellFields P #[f0, f1, f2, f3] = true) (hC : P.cellsOf t = 4) (h0 : Opens enc P w base spare held f0.type sStr) (h1 : Opens enc P w base spare held f1.type sBool) (h2 : Opens enc P w base spare held f2.type (sSlice sStr)) (h3 : Opens enc P w base spare held f3.type (sSlice sTok)) : Opens enc P w base spare held t sMacro := by
  intro fuel cs x h
  obtain ⟨xs, n, _, hx, hcl, hlen, hg⟩ := DataW.trod_struct hs h
  rw [hC] at hcl
  match cs, hcl with
  | [c0, c1, c2, c3], _ =>
    obtain ⟨o0, k0⟩ := hone_of hone 0 f0 rfl
    have g0 := hg 0 f0 rfl
    rw [o0, k0] at g0
    obtain ⟨o1, k1⟩ := hone_of hone 1 f1 rfl
    have g1 := hg 1 f1 rfl
    rw [o1, k1] at g1
    obtain ⟨o2, k2⟩ := hone_of hone 2 f2 rfl
    have g2 := hg 2 f2 rfl
    rw [o2, k2] at g2
    obtain ⟨o3, k3⟩ := hone_of hone 3 f3 rfl
    have g3 := hg 3 f3 rfl
    rw [o3, k3] at g3
    match xs, hlen with
    | [y0, y1, y2, y3], _ =>
      obtain ⟨d0, p0, hc0, hok0, rfl⟩ := h0 n _ _ g0
      obtain ⟨d1, p1, hc1, hok1, rfl⟩ := h1 n _ _ g1
      obtain ⟨d2, p2, hc2⟩ := h2 n _ _ g2
      obtain ⟨d3, p3, hc3⟩ := h3 n _ _ g3
      simp at hc0 hc1 hc2 hc3
      subst hc0
      subst hc1
      exact ⟨⟨d0, d1, d2, d3⟩, p2 ++ p3, c2, c3, p2, p3, rfl, hok0, hc2, hc3, rfl⟩
end
section
variable {H : Type} {enc : TypeId × Value → H} {w : World} {base : Nat} {spare : Nat → Bool} {held : Bool}
end
abbrev zero_Macro : Value := .agg #[.string ByteArray.empty, .bool false, .slice none 0 0, .slice none 0 0]

def cntVMacro (x : DMacro) : Nat := x.params.length + cntTokenS x.body
def mkVMacro (k : Int) (x : DMacro) : DMacro := ⟨x.name, x.function, (marks mtext (k) x.params.length), (mkTokenS (k + (x.params.length : Int)) x.body)⟩
end Go.Proofs.Ytgjjidjkpmmcoaa

/- Whether two tokens need a space between them: the program and its model. -/
namespace Go.Proofs.Ytgjjidjkpmmcoaa
open Go.RowKit

def begins (x y : UInt8) : Bool := decide (x.toNat = 47) && (decide (y.toNat = 47) || decide (y.toNat = 42))
theorem meets_begins {a b : ByteArray} (ha : 0 < a.size) (hb : 0 < b.size) : meets a b = begins (a[a.size - 1]'(by omega)) b[0] := by
  unfold meets; rw [dif_pos ⟨ha, hb⟩]; rfl

set_option maxHeartbeats 1000000 in
theorem impl_beginsComment (x y : UInt8) (w : World) :
    Calls Try.prog 60 #[.int .u8 x.toNat, .int .u8 y.toNat] w fun e w' => e = .returned (.bool (begins x y)) ∧ w' = w := by
  by_cases hx : x.toNat = 47
  · have q1 : ((x.toNat : Int) == 47) = true := by simp; omega
    by_cases hy : y.toNat = 47
    · have q2 : ((y.toNat : Int) == 47) = true := by simp; omega
      have HF : Hid (begins x y = true) := by simp [Hid, begins, hx, hy]
      clear hx hy
      go_enter Try.func60, Try.ntmps60
      go_wp2
      go_ret
      exact ⟨ret_bool HF.out.symm, rfl⟩
    · have q2 : ((y.toNat : Int) == 47) = false := by simp; omega
      by_cases hz : y.toNat = 42
      · have q3 : ((y.toNat : Int) == 42) = true := by simp; omega
        have HF : Hid (begins x y = true) := by simp [Hid, begins, hx, hz]
        clear hx hy hz
        go_enter Try.func60, Try.ntmps60
        go_wp2
        go_ret
        exact ⟨ret_bool HF.out.symm, rfl⟩
      · have q3 : ((y.toNat : Int) == 42) = false := by simp; omega
        have HF : Hid (begins x y = false) := by simp [Hid, begins, hy, hz]
        clear hx hy hz
        go_enter Try.func60, Try.ntmps60
        go_wp2
        go_ret
        exact ⟨ret_bool HF.out.symm, rfl⟩
  · have q1 : ((x.toNat : Int) == 47) = false := by simp; omega
    have HF : Hid (begins x y = false) := by simp [Hid, begins, hx]
    clear hx
    go_enter Try.func60, Try.ntmps60
    go_wp2
    go_ret
    exact ⟨ret_bool HF.out.symm, rfl⟩

theorem run_lastB (P : Program) (t : TypeId) (s : ByteArray) (h : P.underlying t = some .string) (h0 : 0 < s.size) (W : World) :
    (Instr.index t (.string s) (.int .i64 ((s.size : Int) - 1))).run P W = .ok (.int .u8 ((s[s.size - 1]'(by omega)).toNat : Int)) W := by
  rw [run_index_string W t s .i64 _ h, dif_pos (by omega)]
  congr 4
  congr 1
  omega

/-- A literal of structs, as a slice. -/
theorem lit_row {α : Type} {S : Shape α} {w : World} {e : TypeId} (L : List (Elem α)) (hlen : ∀ x ∈ L, x.cells.length = S.m) (hR : ∀ x ∈ L, S.R w x.cells x.d x.fp) (hn : L.length ≤ maxLen) :
    ∃ fp, (sSlice S).R (w.alloc (.cells (L.flatMap (·.cells)).toArray e)) [.slice (some ⟨w.heap.size, 0, none⟩) L.length L.length] (L.map (·.d)) fp := by
  have h := World.ownsRow_lit (base := w.heap.size) (e := e) (size := S.m) w (L.flatMap (·.cells)).toArray L.length (Nat.le_refl _) hn (by simpa using flatMap_len hlen)
  obtain ⟨fp, h1, _⟩ := slice_of_row h fun x hx => ⟨hlen x hx, S.below (hR x hx) (alloc_below' _ _)⟩
  exact ⟨fp, h1⟩

/-- What is asked of two tokens, before their texts meet. -/
def needBy (a b : Tok) (ok : Bool) (l : List Tok) : Bool := !ok || !sameTx l [a, b]
theorem need_meets {a b : Tok} (h : meets a.text b.text = true) : glued a.text b.text = true := by unfold glued; rw [h, Bool.or_true]
theorem need_no {a b : Tok} (ha : tokOk a = true) (hb : tokOk b = true) {l : List Tok} (h : meets a.text b.text = false) (hr : tokRes (a.text ++ b.text) = (l, false)) : glued a.text b.text = true := by
  have := glued_same ha hb
  rw [hr] at this
  unfold glued
  rw [← this, h]; rfl
theorem need_yes {a b : Tok} (ha : tokOk a = true) (hb : tokOk b = true) {l : List Tok} (h : meets a.text b.text = false) (hr : tokRes (a.text ++ b.text) = (l, true)) : glued a.text b.text = !sameTx l [a, b] := by
  have := glued_same ha hb
  rw [hr] at this
  unfold glued
  rw [← this, h]; simp

set_option maxHeartbeats 4000000 in
set_option maxRecDepth 100000 in
theorem impl_needSpace (cs1 cs2 : List Value) (a b : Tok) (fp1 fp2 : List Nat) (w : World) (H1 : sTok.R w cs1 a fp1) (H2 : sTok.R w cs2 b fp2) (ha : tokOk a = true) (hb : tokOk b = true) :
    Calls Try.prog 50 #[.agg cs1.toArray, .agg cs2.toArray] w (Says (glued a.text b.text) w) := by
  obtain ⟨⟨ha0, -⟩, ha2⟩ := tokOk_facts ha
  obtain ⟨⟨hb0, -⟩, hb2⟩ := tokOk_facts hb
  have HM := meets_begins ha0 hb0
  have hwl : IntKind.i64.wrap ((a.text.size : Int) - 1) = (a.text.size : Int) - 1 := IntWalk.i64_in _ (by omega)
  have hix := run_lastB Try.prog 9 a.text Try.underlying9 ha0
  have hi1 : (0 : Int) ≤ (a.text.size : Int) - 1 := by omega
  have hi2 : (0 : Int) < (b.text.size : Int) := by omega
  have HC := fun W => impl_beginsComment (a.text[a.text.size - 1]'(by omega)) b.text[0] W
  rw [← HM] at HC
  have HT : Hid (∀ W, Calls Try.prog 25 #[.string (a.text ++ b.text)] W (TokMade (tokRes (a.text ++ b.text)) W)) := fun W => impl_TokensOf (a.text ++ b.text) W (by rw [ByteArray.size_append]; unfold maxLen; omega)
  have hadd := fun W => run_string_add_sum (P := Try.prog) W a.text b.text (by omega)
  have R1 := H1
  have R2 := H2
  obtain ⟨h1, rfl, -, -, K1⟩ := H1
  obtain ⟨h2, rfl, -, -, K2⟩ := H2
  obtain ⟨a1, cap1, rfl, -⟩ := open_rows K1
  obtain ⟨a2, cap2, rfl, -⟩ := open_rows K2
  clear K1 K2 HM
  have b1 := alloc_below' w (.cells #[.int .i64 a.kind, .string a.text, .bool a.spaced, .slice a1 a.hidden.length cap1] 28)
  have b2 := b1.trans ((alloc_below' (w.alloc (.cells #[.int .i64 a.kind, .string a.text, .bool a.spaced, .slice a1 a.hidden.length cap1] 28)) (.cells #[.int .i64 b.kind, .string b.text, .bool b.spaced, .slice a2 b.hidden.length cap2] 28)).mono b1.size)
  cases hm : meets a.text b.text
  · rw [hm] at HC
    rcases hr : tokRes (a.text ++ b.text) with ⟨l, ok⟩
    rw [hr] at HT
    cases ok
    · have HF := Lib.hid (need_no ha hb hm hr)
      clear hm hr ha hb R1 R2
      go_enter Try.func50, Try.ntmps50
      go_wp2
      go_quiet (first | (go_at_call 60; refine Calls.quiet_of_same (HC _)))
      go_wp2_with (go_at_call 25; refine (HT.out _).mono ?_; rintro e w' ⟨v, fp, rfl, hR, hO, hB⟩)
      go_ret
      exact ⟨ret_bool HF.out.symm, (belowN b2 nq).trans (hB.mono (belowN b2 nq).size)⟩
    · have HF := Lib.hid (need_yes ha hb hm hr)
      clear hm hr ha hb
      have HX := Lib.hid (alloc2_blk w #[.int .i64 a.kind, .string a.text, .bool a.spaced, .slice a1 a.hidden.length cap1] #[.int .i64 b.kind, .string b.text, .bool b.spaced, .slice a2 b.hidden.length cap2] 28 28)
      go_enter Try.func50, Try.ntmps50
      go_wp2
      go_quiet (first | (go_at_call 60; refine Calls.quiet_of_same (HC _)))
      go_wp2_with fail
      refine (HT.out _).mono ?_
      rintro e w3 ⟨v, fp, rfl, hR, hO, hB⟩
      have hbel := (belowN b2 nq).trans (hB.mono (belowN b2 nq).size)
      have HY := Lib.hid (And.intro ((hB.block _ (Array.getElem?_eq_some_iff.1 HX.out.1).1).trans HX.out.1) ((hB.block _ (Array.getElem?_eq_some_iff.1 HX.out.2).1).trans HX.out.2))
      have q0 : w3.cell? ⟨w.heap.size, 0, none⟩ = some (.int .i64 a.kind) := cell_of_row _ _ 0 _ _ _ HY.out.1
      have q1 : w3.cell? ⟨w.heap.size, 1, none⟩ = some (.string a.text) := cell_of_row _ _ 1 _ _ _ HY.out.1
      have q2 : w3.cell? ⟨w.heap.size, 2, none⟩ = some (.bool a.spaced) := cell_of_row _ _ 2 _ _ _ HY.out.1
      have q3 : w3.cell? ⟨w.heap.size, 3, none⟩ = some (.slice a1 a.hidden.length cap1) := cell_of_row _ _ 3 _ _ _ HY.out.1
      have p0 : w3.cell? ⟨w.heap.size + 1, 0, none⟩ = some (.int .i64 b.kind) := cell_of_row _ _ 0 _ _ _ HY.out.2
      have p1 : w3.cell? ⟨w.heap.size + 1, 1, none⟩ = some (.string b.text) := cell_of_row _ _ 1 _ _ _ HY.out.2
      have p2 : w3.cell? ⟨w.heap.size + 1, 2, none⟩ = some (.bool b.spaced) := cell_of_row _ _ 2 _ _ _ HY.out.2
      have p3 : w3.cell? ⟨w.heap.size + 1, 3, none⟩ = some (.slice a2 b.hidden.length cap2) := cell_of_row _ _ 3 _ _ _ HY.out.2
      obtain ⟨fpl, HL⟩ := lit_row (S := sTok) (w := w3) (e := 28) [⟨[.int .i64 a.kind, .string a.text, .bool a.spaced, .slice a1 a.hidden.length cap1], a, fp1⟩, ⟨[.int .i64 b.kind, .string b.text, .bool b.spaced, .slice a2 b.hidden.length cap2], b, fp2⟩] (by simp [sTok]) (by
        intro x hx
        rcases List.mem_cons.1 hx with rfl | hx
        · exact sTok.below R1 hbel
        · obtain rfl := List.mem_singleton.1 hx
          exact sTok.below R2 hbel) (by simp [maxLen])
      have HC2 : Hid (Calls Try.prog 27 #[v, .slice (some ⟨w3.heap.size, 0, none⟩) 2 2] (w3.alloc (.cells #[.int .i64 a.kind, .string a.text, .bool a.spaced, .slice a1 a.hidden.length cap1, .int .i64 b.kind, .string b.text, .bool b.spaced, .slice a2 b.hidden.length cap2] 28)) (Says (sameTx l [a, b]) (w3.alloc (.cells #[.int .i64 a.kind, .string a.text, .bool a.spaced, .slice a1 a.hidden.length cap1, .int .i64 b.kind, .string b.text, .bool b.spaced, .slice a2 b.hidden.length cap2] 28)))) :=
        impl_SameTexts _ _ _ _ _ _ _ ((sSlice sTok).below hR (alloc_below' _ _)) HL
      have b4 := hbel.trans ((alloc_below' w3 (.cells #[.int .i64 a.kind, .string a.text, .bool a.spaced, .slice a1 a.hidden.length cap1, .int .i64 b.kind, .string b.text, .bool b.spaced, .slice a2 b.hidden.length cap2] 28)).mono hbel.size)
      clear hR hO hB R1 R2 HL HT HC hadd hix
      go_wp2_with fail
      refine (HC2.out).mono ?_
      rintro e w5 ⟨rfl, b5⟩
      go_wp2
      go_ret
      exact ⟨ret_bool (by rw [HF.out]), b4.trans (b5.mono b4.size)⟩
  · have HF := Lib.hid (need_meets hm)
    rw [hm] at HC
    clear hm R1 R2 HT ha hb
    go_enter Try.func50, Try.ntmps50
    go_wp2
    go_quiet (first | (go_at_call 60; refine Calls.quiet_of_same (HC _)))
    go_wp2
    go_ret
    exact ⟨ret_bool HF.out.symm, belowN b2 nq⟩

end Go.Proofs.Ytgjjidjkpmmcoaa

/- Whether two texts are read otherwise together: the model. -/
namespace Go.Proofs.Ytgjjidjkpmmcoaa
open Go.RowKit

/-- Two tokens, opened: their texts' cells. -/
theorem open_two {w : World} {v : Value} {t1 t2 : Tok} {fp : List Nat} (H : (sSlice sTok).R w [v] [t1, t2] fp) :
    ∃ b off cap, v = .slice (some ⟨b, off, none⟩) 2 cap ∧ cap ≤ maxLen ∧ 2 ≤ cap ∧ b < w.heap.size ∧ w.cell? ⟨b, off + 1, none⟩ = some (.string t1.text) ∧ w.cell? ⟨b, off + 4 + 1, none⟩ = some (.string t2.text) := by
  obtain ⟨a, cap, rfl, hc, hm, h⟩ := open_rows H
  obtain ⟨b, off, fps, rfl, hb, _, he⟩ := h (by simp)
  obtain ⟨es, ⟨h1, h2⟩, hh, rfl, _, _, _⟩ := he 0 (by simp)
  obtain ⟨es', ⟨h1', h2'⟩, hh', rfl, _, _, _⟩ := he 1 (by simp)
  refine ⟨b, off, cap, rfl, hm, by simpa using hc, hb, ?_, ?_⟩
  · simpa [sTok] using h2 1 (by decide)
  · simpa [sTok, Nat.add_assoc] using h2' 1 (by decide)

theorem meet_list {a b : ByteArray} (ha : 0 < a.size) (hb : 0 < b.size) : (a.extract (a.size - 1) a.size ++ b.extract 0 1).toList = [a[a.size - 1]'(by omega), b[0]] := by
  rw [ByteArray.toList_eq, ByteArray.data_append, Array.toList_append, ext_list, ext_list]
  have h1 : a.data.toList.drop (a.size - 1) = [a[a.size - 1]'(by omega)] := by
    rw [List.drop_eq_getElem_cons (by show a.size - 1 < a.size; omega)]
    have : a.data.toList.drop (a.size - 1 + 1) = [] := List.drop_eq_nil_iff.2 (by show a.size ≤ _; omega)
    rw [this]
    simp [ByteArray.getElem_eq_getElem_data]
  have h2 : (b.data.toList.drop 0).take (1 - 0) = [b[0]] := by
    rw [List.drop_zero]
    obtain ⟨c, l, hl⟩ : ∃ c l, b.data.toList = c :: l := by
      cases h : b.data.toList with
      | nil =>
        have : b.size = 0 := by show b.data.toList.length = 0; rw [h]; rfl
        omega
      | cons c l => exact ⟨c, l, rfl⟩
    have h3 : b[0] = c := by
      have h4 : b.data.toList[0]? = some c := by rw [hl]; rfl
      rw [ByteArray.getElem_eq_getElem_data]
      rw [List.getElem?_eq_getElem (by rw [hl]; simp)] at h4
      simpa using h4
    rw [hl, h3]; rfl
  rw [h1, h2, List.take_of_length_le (by simp; omega)]; rfl
/-- The three ways of two texts where they meet. -/
theorem meet_ways {a b : ByteArray} (ha : 0 < a.size) (hb : 0 < b.size) :
    (((a.extract (a.size - 1) a.size ++ b.extract 0 1).toList == [47, 47]) = true ∧ Hid (meets a b = true)) ∨
    (((a.extract (a.size - 1) a.size ++ b.extract 0 1).toList == [47, 47]) = false ∧ ((a.extract (a.size - 1) a.size ++ b.extract 0 1).toList == [47, 42]) = true ∧ Hid (meets a b = true)) ∨
    (((a.extract (a.size - 1) a.size ++ b.extract 0 1).toList == [47, 47]) = false ∧ ((a.extract (a.size - 1) a.size ++ b.extract 0 1).toList == [47, 42]) = false ∧ Hid (meets a b = false)) := by
  rw [meet_list ha hb, meets_begins ha hb]
  generalize a[a.size - 1]'(by omega) = x
  generalize b[0] = y
  have e47 : ∀ z : UInt8, z = 47 ↔ z.toNat = 47 := fun z => by rw [← UInt8.toNat_inj]; rfl
  have e42 : ∀ z : UInt8, z = 42 ↔ z.toNat = 42 := fun z => by rw [← UInt8.toNat_inj]; rfl
  by_cases h1 : x.toNat = 47
  · by_cases h2 : y.toNat = 47
    · exact .inl ⟨by simp [e47, h1, h2], by simp [Hid, begins, h1, h2]⟩
    · by_cases h3 : y.toNat = 42
      · exact .inr (.inl ⟨by simp [e47, h2], by simp [e47, e42, h1, h3], by simp [Hid, begins, h1, h3]⟩)
      · exact .inr (.inr ⟨by simp [e47, h2], by simp [e42, h3], by simp [Hid, begins, h2, h3]⟩)
  · exact .inr (.inr ⟨by simp [e47, h1], by simp [e47, h1], by simp [Hid, begins, h1]⟩)

end Go.Proofs.Ytgjjidjkpmmcoaa

/- PrintTokens: the model. -/
namespace Go.Proofs.Ytgjjidjkpmmcoaa
open Go.RowKit

/-- What PrintTokens hands back. -/
def Printed (l : List Tok) (w : World) (e : Ending) (w' : World) : Prop := e = .returned (.tuple #[.string (printRes l).1, .bool (printRes l).2]) ∧ Below w.heap.size w w'
theorem printed_ret {l : List Tok} {s : ByteArray} {b : Bool} {w w' : World} (h : printRes l = (s, b)) (hb : Below w.heap.size w w') : Printed l w (.returned (.tuple #[.string s, .bool b])) w' := ⟨by rw [h], hb⟩

end Go.Proofs.Ytgjjidjkpmmcoaa

/- Macros: the model's own helpers; what both sides walk over. -/
namespace Go.Proofs.Ytgjjidjkpmmcoaa
open Go.RowKit
theorem par_end {ps : List ByteArray} {t : Tok} {k : Nat} (h : ps.length ≤ k) : parFrom ps t k = -1 := by rw [parFrom, dif_neg (by omega)]
theorem par_hit {ps : List ByteArray} {t : Tok} {k : Nat} (h : k < ps.length) (h1 : t.kind = 1) (h2 : ps[k] = t.text) : parFrom ps t k = k := by rw [parFrom, dif_pos h, if_pos ⟨h1, h2⟩]
theorem par_miss {ps : List ByteArray} {t : Tok} {k : Nat} (h : k < ps.length) (h1 : ¬ (t.kind = 1 ∧ ps[k] = t.text)) : parFrom ps t k = parFrom ps t (k + 1) := by rw [parFrom, dif_pos h, if_neg h1]

end Go.Proofs.Ytgjjidjkpmmcoaa

/- Rows of the call's own whose elements have memory behind them. Over any program. -/
namespace Go.Proofs.Ytgjjidjkpmmcoaa
open Go.RowKit

structure RowE {α : Type} (S : Shape α) (base : Nat) (e : TypeId) (v : Value) (L : List (Elem α)) (w : World) : Prop where
  row : w.ownsRow base e S.m v L.length (L.flatMap (·.cells))
  len : ∀ x ∈ L, x.cells.length = S.m
  el : ∀ x ∈ L, S.R w x.cells x.d x.fp
  lo : ∀ x ∈ L, ∀ b ∈ x.fp, base ≤ b
  ty : ∀ x ∈ L, ∀ b ∈ x.fp, ∃ cur t fr, w.heap[b]? = some (.cells cur t fr) ∧ t ≠ e

section
variable {α : Type} {S : Shape α} {base : Nat} {e : TypeId} {v v' : Value} {L : List (Elem α)} {w w' : World}
theorem ownsRow_same {n : Nat} {xs : List Value} {m : Nat} (h : w.ownsRow base e m v n xs) (hb : ∀ g, v.ownBlock = some g → w'.heap[g]? = w.heap[g]?) : w'.ownsRow base e m v n xs := by
  refine ⟨h.1, ?_⟩
  rcases h.2 with h0 | ⟨g, cap, cur, h1, h2, h3, h4⟩
  · exact .inl h0
  · exact .inr ⟨g, cap, cur, h1, h2, (hb g (by rw [h1]; rfl)).trans h3, h4⟩
theorem RowE.same (h : RowE S base e v L w) (hb : ∀ b, b < w.heap.size → base ≤ b → w'.heap[b]? = w.heap[b]?) : RowE S base e v L w' where
  row := ownsRow_same h.row fun g hg => by
    have := h.row.lt g hg
    exact hb g this.2 this.1
  len := h.len
  el := fun x hx => S.frame (fun b hb' => hb b (S.lt (h.el x hx) b hb') (h.lo x hx b hb')) (h.el x hx)
  lo := h.lo
  ty := fun x hx b hb' => by
    obtain ⟨cur, t, fr, h1, h2⟩ := h.ty x hx b hb'
    exact ⟨cur, t, fr, (hb b (S.lt (h.el x hx) b hb') (h.lo x hx b hb')).trans h1, h2⟩
theorem RowE.below (h : RowE S base e v L w) (hb : Below w.heap.size w w') : RowE S base e v L w' := h.same fun b hb' _ => hb.block b hb'
theorem RowE.keptR {rb : Nat} (h : RowE S base e v L w) (hk : Kept [rb] w w') (hr : rb < base) : RowE S base e v L w' := h.same fun b hb hl => hk.block b hb (by simp; omega)
theorem RowE.lower {base' : Nat} (h : RowE S base e v L w) (hl : base' ≤ base) : RowE S base' e v L w where
  row := ⟨h.row.1, by
    rcases h.row.2 with h0 | ⟨g, cap, cur, h1, h2, h3⟩
    · exact .inl h0
    · exact .inr ⟨g, cap, cur, h1, Nat.le_trans hl h2, h3⟩⟩
  len := h.len
  el := h.el
  lo := fun x hx b hb => Nat.le_trans hl (h.lo x hx b hb)
  ty := h.ty
theorem RowE.nil (S : Shape α) (base : Nat) (e : TypeId) (w : World) : RowE S base e (.slice none 0 0) [] w := ⟨World.ownsRow_nil _ _ _ _, by simp, by simp, by simp, by simp⟩
theorem RowE.val (h : RowE S base e v L w) : ∃ a cap, v = .slice a L.length cap ∧ L.length ≤ cap ∧ cap ≤ maxLen ∧ (0 < L.length → ∃ g, a = some ⟨g, 0, none⟩ ∧ base ≤ g ∧ g < w.heap.size) := by
  rcases h.row.2 with ⟨rfl, h0⟩ | ⟨g, cap, cur, rfl, hb, hg, hn, hc, _⟩
  · exact ⟨none, 0, by rw [h0], by omega, by simp, fun h => by omega⟩
  · exact ⟨_, cap, rfl, hn, hc, fun _ => ⟨g, rfl, hb, (Array.getElem?_eq_some_iff.1 hg).1⟩⟩
theorem RowE.mine (h : RowE S base e v L w) : ∀ b, v.ownBlock = some b → base ≤ b := fun b hb => (h.row.lt b hb).1
theorem RowE.slice (h : RowE S base e v L w) : ∃ fp, (sSlice S).R w [v] (L.map (·.d)) fp := by
  obtain ⟨fp, h1, _⟩ := slice_of_row h.row fun x hx => ⟨h.len x hx, h.el x hx⟩
  exact ⟨fp, h1⟩
/-- The blocks behind an element are not the row's. -/
theorem RowE.ap (h : RowE S base e v L w) {x : Elem α} (hx : x ∈ L) {b : Nat} (hb : b ∈ x.fp) : v.ownBlock ≠ some b := by
  intro hv
  obtain ⟨cur, t, fr, h1, h2⟩ := h.ty x hx b hb
  rcases h.row.2 with ⟨rfl, _⟩ | ⟨g, cap, cur', rfl, _, hg, _⟩
  · simp [Value.ownBlock] at hv
  · simp only [Value.ownBlock, Option.some.injEq] at hv
    subst hv
    rw [h1] at hg
    simp only [Option.some.injEq, Obj.cells.injEq] at hg
    exact h2 hg.2.1
theorem RowE.frozen {g n cap : Nat} (h : RowE S base e (.slice (some ⟨g, 0, none⟩) n cap) L w) (o : Nat) : w.frozen? ⟨g, o, none⟩ = false := by
  rcases h.row.2 with ⟨h', _⟩ | ⟨g', cap', cur, h', _, hg, _⟩
  · cases h'
  · simp only [Value.slice.injEq, Option.some.injEq, Addr.mk.injEq, and_true] at h'
    obtain ⟨rfl, _⟩ := h'
    exact frozen_of_row w g o cur e hg
/-- An element's cells. -/
theorem RowE.cellAt {g n cap : Nat} (h : RowE S base e (.slice (some ⟨g, 0, none⟩) n cap) L w) {k : Nat} (hk : k < L.length) {j : Nat} (hj : j < S.m) {u : Value} (hu : L[k].cells[j]? = some u) : w.cell? ⟨g, k * S.m + j, none⟩ = some u := by
  have hn : L.length = n := by
    rcases h.row.2 with ⟨h', _⟩ | ⟨g', cap', cur, h', _⟩
    · cases h'
    · simp only [Value.slice.injEq] at h'; exact h'.2.1.symm
  subst hn
  rw [h.row.cellAt (k * S.m + j) (by have : (k + 1) * S.m ≤ L.length * S.m := Nat.mul_le_mul_right _ hk; rw [Nat.succ_mul] at this; omega)]
  exact (flatMap_at (f := Elem.cells) h.len hk hj).trans hu
theorem flatMap_set {f : Elem α → List Value} {m : Nat} : ∀ {L : List (Elem α)} (_ : ∀ x ∈ L, (f x).length = m) {k : Nat} (hk : k < L.length) {j : Nat} (_ : j < m) (u : Value) (x' : Elem α) (_ : f x' = (f L[k]).set j u), (L.flatMap f).set (k * m + j) u = (L.set k x').flatMap f
  | [], _, k, hk, _, _, _, _, _ => by simp at hk
  | x :: L, hL, 0, _, j, hj, u, x', hx => by
    simp only [List.flatMap_cons, List.set_cons_zero, Nat.zero_mul, Nat.zero_add]
    rw [List.set_append_left _ _ (by rw [hL x (by simp)]; exact hj), hx]; rfl
  | x :: L, hL, k + 1, hk, j, hj, u, x', hx => by
    have hl := hL x (by simp)
    have e : (k + 1) * m + j = m + (k * m + j) := by rw [Nat.succ_mul]; omega
    simp only [List.flatMap_cons, List.set_cons_succ]
    rw [List.set_append_right _ _ (by rw [hl, e]; omega), hl, e, Nat.add_sub_cancel_left]
    rw [flatMap_set (fun y hy => hL y (by simp [hy])) (by simpa using hk) hj u x' (by simpa using hx)]
/-- A store into an element. -/
theorem RowE.set {g n cap : Nat} (h : RowE S base e (.slice (some ⟨g, 0, none⟩) n cap) L w) {k : Nat} (hk : k < L.length) {j : Nat} (hj : j < S.m) (u : Value) (x' : Elem α) (hx : x'.cells = L[k].cells.set j u)
    (hR : S.R w x'.cells x'.d x'.fp) (hlo : ∀ b ∈ x'.fp, base ≤ b) (hty : ∀ b ∈ x'.fp, ∃ cur t fr, w.heap[b]? = some (.cells cur t fr) ∧ t ≠ e) :
    RowE S base e (.slice (some ⟨g, 0, none⟩) n cap) (L.set k x') (w.setCell ⟨g, k * S.m + j, none⟩ u) := by
  have hne : ∀ b : Nat, (∃ cur t fr, w.heap[b]? = some (.cells cur t fr) ∧ t ≠ e) → b ≠ g := by
    rintro b ⟨cur, t, fr, h1, h2⟩ rfl
    rcases h.row.2 with ⟨h', _⟩ | ⟨g', cap', cur', h', _, hg, _⟩
    · cases h'
    · simp only [Value.slice.injEq, Option.some.injEq, Addr.mk.injEq, and_true] at h'
      obtain ⟨rfl, _⟩ := h'
      rw [h1] at hg
      simp only [Option.some.injEq, Obj.cells.injEq] at hg
      exact h2 hg.2.1
  have hblk : ∀ b : Nat, b ≠ g → (w.setCell ⟨g, k * S.m + j, none⟩ u).heap[b]? = w.heap[b]? := fun b hb => Below.heap_setCell _ _ _ _ hb
  have hmem : ∀ x ∈ L.set k x', x = x' ∨ x ∈ L := fun x hx => by
    rcases List.mem_or_eq_of_mem_set hx with h | h
    · exact .inr h
    · exact .inl h
  refine ⟨?_, fun x hx' => ?_, fun x hx' => ?_, fun x hx' => ?_, fun x hx' => ?_⟩
  · have hn : L.length = n := by
      rcases h.row.2 with ⟨h', _⟩ | ⟨g', cap', cur, h', _⟩
      · cases h'
      · simp only [Value.slice.injEq] at h'; exact h'.2.1.symm
    have hrow := h.row
    rw [hn] at hrow
    have := (hrow.stored (k * S.m + j) u).1
    rw [flatMap_set h.len hk hj u x' hx] at this
    rw [List.length_set, hn]
    exact this
  · rcases hmem x hx' with rfl | hx'
    · rw [hx, List.length_set]; exact h.len _ (List.getElem_mem hk)
    · exact h.len x hx'
  · rcases hmem x hx' with rfl | hx'
    · exact S.frame (fun b hb => hblk b (hne b (hty b hb))) hR
    · exact S.frame (fun b hb => hblk b (hne b (h.ty x hx' b hb))) (h.el x hx')
  · rcases hmem x hx' with rfl | hx'
    · exact hlo
    · exact h.lo x hx'
  · intro b hb
    rcases hmem x hx' with rfl | hx'
    · obtain ⟨cur, t, fr, h1, h2⟩ := hty b hb
      exact ⟨cur, t, fr, (hblk b (hne b ⟨cur, t, fr, h1, h2⟩)).trans h1, h2⟩
    · obtain ⟨cur, t, fr, h1, h2⟩ := h.ty x hx' b hb
      exact ⟨cur, t, fr, (hblk b (hne b ⟨cur, t, fr, h1, h2⟩)).trans h1, h2⟩
/-- Elements appended. -/
theorem RowE.appended (h : RowE S base e v L w) {X : List (Elem α)} (hrow : w'.ownsRow base e S.m v' (L ++ X).length ((L ++ X).flatMap (·.cells))) (hg : w.grownBy w' v.ownBlock)
    (hlen : ∀ x ∈ X, x.cells.length = S.m) (hR : ∀ x ∈ X, S.R w x.cells x.d x.fp) (hlo : ∀ x ∈ X, ∀ b ∈ x.fp, base ≤ b) (hty : ∀ x ∈ X, ∀ b ∈ x.fp, ∃ cur t fr, w.heap[b]? = some (.cells cur t fr) ∧ t ≠ e) :
    RowE S base e v' (L ++ X) w' := by
  have hne : ∀ b : Nat, (∃ cur t fr, w.heap[b]? = some (.cells cur t fr) ∧ t ≠ e) → w'.heap[b]? = w.heap[b]? := by
    rintro b ⟨cur, t, fr, h1, h2⟩
    refine hg.block b (Array.getElem?_eq_some_iff.1 h1).1 fun hv => ?_
    rcases h.row.2 with ⟨rfl, _⟩ | ⟨g', cap', cur', rfl, _, hg', _⟩
    · simp [Value.ownBlock] at hv
    · simp only [Value.ownBlock, Option.some.injEq] at hv
      subst hv
      rw [h1] at hg'
      simp only [Option.some.injEq, Obj.cells.injEq] at hg'
      exact h2 hg'.2.1
  refine ⟨hrow, fun x hx => ?_, fun x hx => ?_, fun x hx => ?_, fun x hx b hb => ?_⟩ <;> rcases List.mem_append.1 hx with hx | hx
  · exact h.len x hx
  · exact hlen x hx
  · exact S.frame (fun b hb => hne b (h.ty x hx b hb)) (h.el x hx)
  · exact S.frame (fun b hb => hne b (hty x hx b hb)) (hR x hx)
  · exact h.lo x hx
  · exact hlo x hx
  · obtain ⟨cur, t, fr, h1, h2⟩ := h.ty x hx b hb
    exact ⟨cur, t, fr, (hne b ⟨cur, t, fr, h1, h2⟩).trans h1, h2⟩
  · obtain ⟨cur, t, fr, h1, h2⟩ := hty x hx b hb
    exact ⟨cur, t, fr, (hne b ⟨cur, t, fr, h1, h2⟩).trans h1, h2⟩
end

/-- append of elements out of a literal's own block, or of any row that can be read. -/
theorem wp_append_rowE {α : Type} {S : Shape α} {P : Program} {t e : TypeId} {z : Value} {bytes : Nat} (ti : TI P t e z S.m bytes) (hzs : z.cells.size = S.m) (h0 : 0 < S.m) (w : World) {L X : List (Elem α)} {ops : Array Oper} {rest : List Oper} {o : Oper} {a : Act} {Q : Exit → Act → World → Prop}
    (hg : o.guard = none) (s y : Operand) (ho : o.op = .call { callee := .builtin .append, args := #[s, y], argTypes := #[t, t] })
    (base : Nat) (v : Value) (hs : a.eval s = v) (hown : RowE S base e v L w) (g m c : Nat) (hy : a.eval y = .slice (some ⟨g, 0, none⟩) m c) (hm : X.length = m)
    (hlen : ∀ x ∈ X, x.cells.length = S.m) (h1 : ∀ x ∈ X, ∀ u ∈ x.cells, u.oneCell' = true) (hcell : ∀ j u, (X.flatMap (·.cells))[j]? = some u → w.cell? ⟨g, j, none⟩ = some u)
    (hR : ∀ x ∈ X, S.R w x.cells x.d x.fp) (hlo : ∀ x ∈ X, ∀ b ∈ x.fp, base ≤ b) (hty : ∀ x ∈ X, ∀ b ∈ x.fp, ∃ cur t fr, w.heap[b]? = some (.cells cur t fr) ∧ t ≠ e)
    (h63 : L.length + m ≤ maxLen) (hbytes : (L.length + m) * bytes ≤ 140737488355328) (hbase : base ≤ w.heap.size)
    (h : ∀ v' w', RowE S base e v' (L ++ X) w' → w.grownBy w' v.ownBlock → wpList P ops Q rest (a.put o.dst v') w') : wpList P ops Q (o :: rest) a w := by
  obtain ⟨i, hi, hz0, hz1, hz2⟩ := info_parts ti.2
  subst hm
  refine wpList_append_own _ hg s y t ho base e i z S.m bytes ti.1 hi hz0 hz1 hz2 hzs h0 v L.length _ hs hown.row ⟨g, 0, none⟩ X.length c (X.flatMap (·.cells)) hy (flatMap_len hlen) ?_ ?_ h63 hbytes hbase fun v' w' a b _ => h v' w' ?_ b
  · intro j u hj
    rw [addr_add, Nat.zero_add]
    exact hcell j u hj
  · intro u hu
    obtain ⟨x, hx, hu⟩ := List.mem_flatMap.1 hu
    exact h1 x hx u hu
  · refine hown.appended ?_ b hlen hR hlo hty
    rw [List.length_append, List.flatMap_append]
    exact a

end Go.Proofs.Ytgjjidjkpmmcoaa
