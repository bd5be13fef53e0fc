/- Texts that the proof of U stands on, in one file. -/
import Derived.Test.YtiaiggjfepoahabZU7
import Derived.Test.YtiaiggjfepoahabZU8
import Derived.Test.YtiaiggjfepoahabZU1
import Derived.Laws.AppendOwnNone
import Derived.Test.YtiaiggjfepoahabZU4
import Derived.Test.YtiaiggjfepoahabZU5
import Derived.Test.YtiaiggjfepoahabZU3
import Derived.Test.YtiaiggjfepoahabZU6
set_option linter.unusedVariables false
set_option linter.unusedSimpArgs false
/- What the program reads as parameters is what the model reads, up to macros that are not valid: no program. -/
namespace Go.Proofs.Ytiaiggjfepoahab
open Go.RowKit

theorem kind_head {t : Tok} (h : tokOk t = true) {c : UInt8} {l : List UInt8} (e : t.text = ⟨(c :: l).toArray⟩) : t.kind = cutKind c := by
  obtain ⟨h0, hk⟩ := (tokOk_facts h).1
  obtain ⟨k, x, s, hd⟩ := t
  obtain rfl : x = ⟨(c :: l).toArray⟩ := e
  exact hk
theorem txt_eq {x : ByteArray} {l : List UInt8} (h : (x.toList == l) = true) : x = ⟨l.toArray⟩ := by rw [txt_dec] at h; exact of_decide_eq_true h

end Go.Proofs.Ytiaiggjfepoahab

/- Parts of slices, and slices behind other ones. -/
namespace Go.Proofs.Ytiaiggjfepoahab
open Go.RowKit

theorem slice_drop {α : Type} {S : Shape α} {w : World} {a : Option Addr} {len cap : Nat} {l : List α} {fp : List Nat} (i : Nat) (hi : i ≤ l.length) (H : (sSlice S).R w [.slice a len cap] l fp) :
    ∃ fp', (sSlice S).R w [.slice (if cap = i then a else a.map (·.add (i * S.m))) (len - i) (cap - i)] (l.drop i) fp' ∧ ∀ b ∈ fp', b ∈ fp := by
  obtain ⟨a', cap', hv, hc, hm, h⟩ := H
  simp only [List.cons.injEq, Value.slice.injEq, and_true] at hv
  obtain ⟨rfl, rfl, rfl⟩ := hv
  have hl : (l.drop i).length = l.length - i := by simp
  by_cases h0 : i = l.length
  · refine ⟨[], ⟨_, _, by rw [hl], by rw [hl]; omega, by omega, .inl ⟨?_, rfl⟩⟩, by simp⟩
    subst h0; simp
  · rcases h with ⟨rfl, _⟩ | ⟨_, b, off, fps, ha, rfl, hb, he⟩
    · simp at hi; simp at h0; omega
    · subst ha
      refine ⟨b :: (List.range (l.length - i)).flatMap fun j => fps (i + j), ⟨_, _, by rw [hl], by rw [hl]; omega, by omega, .inr ⟨by omega, b, off + i * S.m, fun j => fps (i + j), ?_, by rw [hl], hb, fun j hj => ?_⟩⟩, ?_⟩
      · rw [if_neg (by omega), Option.map_some, Addr.add_lit]
      · rw [hl] at hj
        obtain ⟨es, h1, h2⟩ := he (i + j) (by omega)
        refine ⟨es, ⟨h1.1, fun x hx => ?_⟩, by rw [List.getElem_drop]; exact h2⟩
        rw [← h1.2 x hx]
        congr 2
        rw [Nat.add_mul]; omega
      · intro x hx
        rcases List.mem_cons.1 hx with rfl | hx
        · simp
        · obtain ⟨j, hj, hx⟩ := List.mem_flatMap.1 hx
          refine List.mem_cons_of_mem _ (List.mem_flatMap.2 ⟨i + j, ?_, hx⟩)
          simp only [List.mem_range] at hj ⊢
          omega

end Go.Proofs.Ytiaiggjfepoahab

/- MacroOf of the program. (Made by gen_mac14.py.) -/
namespace Go.Proofs.Ytiaiggjfepoahab
open Go.RowKit
end Go.Proofs.Ytiaiggjfepoahab

/- Weights and marks of tokens. No program. -/
namespace Go.Proofs.Ytiaiggjfepoahab
open Go.RowKit

theorem wtTokenS_len {l : List Tok} (h : wtTokenS l ≤ 1048576) : l.length ≤ 1048576 := by unfold wtTokenS at h; omega
theorem wtTokenS_hid {l : List Tok} (h : wtTokenS l ≤ 1048576) : ∀ k, (hk : k < l.length) → l[k].hidden.length ≤ 2000000 := fun k hk => by
  have h1 := wsum_at wtToken l k hk
  unfold wtTokenS at h
  have h2 : wtToken l[k] = l[k].text.size + (l[k].hidden.length + (l[k].hidden.map (·.size)).sum) := rfl
  omega
theorem cntTokenS_le : ∀ l : List Tok, cntTokenS l ≤ 3 * wtTokenS l
  | [] => Nat.zero_le _
  | t :: l => by
    have ih := cntTokenS_le l
    have h1 : cntTokenS (t :: l) = cntToken t + cntTokenS l := by unfold cntTokenS cntAll; simp
    have h2 : cntToken t = 3 + t.hidden.length := rfl
    have h3 : wtTokenS (t :: l) = 1 + wtToken t + wtTokenS l := by unfold wtTokenS; simp; omega
    have h4 : wtToken t = t.text.size + (t.hidden.length + (t.hidden.map (·.size)).sum) := rfl
    omega

end Go.Proofs.Ytiaiggjfepoahab

/- MacroOf of both, as the exact law calls them. -/
namespace Go.Proofs.Ytiaiggjfepoahab
open Go.RowKit
end Go.Proofs.Ytiaiggjfepoahab

/- Lists of lists of tokens: the laws' own helpers. -/
namespace Go.Proofs.Ytiaiggjfepoahab
open Go.RowKit Go.ChangeShapes Go.WideShapes Go.Deep

abbrev sToks : Shape (List Tok) := sSlice sTok
theorem ti_toks : TI Try.prog 34 30 (.slice none 0 0) 1 24 := ⟨by kernel_rfl, by kernel_rfl⟩
def mkTokenSS (k : Int) (l : List (List Tok)) : List (List Tok) := mkAll mkTokenS cntTokenS k l
def cntTokenSS (l : List (List Tok)) : Nat := cntAll cntTokenS l
theorem cells_slice {α : Type} {S : Shape α} {w : World} {cs : List Value} {l : List α} {fp : List Nat} (H : (sSlice S).R w cs l fp) : ∃ a cap, cs = [.slice a l.length cap] := by
  obtain ⟨a, cap, h, -⟩ := H
  exact ⟨a, cap, h⟩
theorem elem_one {w : World} {b off i : Nat} {v : Value} (h : ElemAt w b off 1 i [v]) : w.cell? ⟨b, off + i, none⟩ = some v := by
  have := h.2 0 (by decide)
  simpa using this

set_option maxHeartbeats 8000000 in
set_option maxRecDepth 100000 in
theorem eqTokenSS_same (v1 v2 : Value) (l : List (List Tok)) (fp1 fp2 : List Nat) (w : World) (H1 : (sSlice sToks).R w [v1] l fp1) (H2 : (sSlice sToks).R w [v2] l fp2) :
    Calls Try.prog 19 #[v1, v2] w fun e w' => e = .returned (.bool true) ∧ Below w.heap.size w w' := by
  obtain ⟨a1, cap1, rfl, hc1, hm1, hrow1⟩ := open_rows H1
  obtain ⟨a2, cap2, rfl, hc2, hm2, hrow2⟩ := open_rows H2
  unfold maxLen at hm1 hm2
  have hnb : ((l.length : Int) != (l.length : Int)) = false := by simp
  go_enter Try.func19, Try.ntmps19
  go_wp2
  go_loopw [5] (fun i wr => ∃ k : Nat, k ≤ l.length ∧ i = .int .i64 k ∧ Below w.heap.size w wr) (fun i _ => l.length - (intOf i).toNat)
  case atStart => exact ⟨0, by omega, rfl, Below.refl _ _⟩
  case round =>
    obtain ⟨k, hk, rfl, hb⟩ := hrel
    by_cases hlt : k < l.length
    · obtain ⟨b1, off1, fps1, rfl, hb1, rfl, he1⟩ := hrow1 (by omega)
      obtain ⟨b2, off2, fps2, rfl, hb2, rfl, he2⟩ := hrow2 (by omega)
      obtain ⟨es1, hE1, hR1⟩ := he1 k hlt
      obtain ⟨es2, hE2, hR2⟩ := he2 k hlt
      clear hrow1 hrow2 he1 he2 H1 H2
      replace hE1 := hE1.frame (hb.block b1 hb1)
      replace hE2 := hE2.frame (hb.block b2 hb2)
      obtain ⟨q1, d1, rfl⟩ := cells_slice hR1
      obtain ⟨q2, d2, rfl⟩ := cells_slice hR2
      have HC : Hid (∀ W, Below wr.heap.size wr W → Calls Try.prog 16 #[.slice q1 l[k].length d1, .slice q2 l[k].length d2] W fun e w' => e = .returned (.bool true) ∧ Below W.heap.size W w') := fun W hW => eqTokenS_same _ _ l[k] _ _ W (sToks.below (sToks.below hR1 hb) hW) (sToks.below (sToks.below hR2 hb) hW)
      have c1 := elem_one hE1
      have c2 := elem_one hE2
      clear hE1 hE2 hR1 hR2
      go_wp2_with fail
      go_still_tail 8, (by kernel_rfl)
      change wpList _ _ _ _ _ wr.drew
      have hd : Below wr.heap.size wr wr.drew := belowN (Below.refl _ _) 1
      generalize wr.drew = w2 at *
      go_wp2_with (go_at_call 16; refine (HC.out _ hd).mono ?_; rintro e w3 ⟨rfl, hb3⟩)
      go_roundw
      case rel => exact ⟨k + 1, by omega, by go_num, (hb.trans (hd.mono hb.size)).trans (hb3.mono (Nat.le_trans hb.size hd.size))⟩
      case measure => simp [intOf]; omega
    · go_wp2
      go_ret
      exact ⟨rfl, hb⟩

set_option maxHeartbeats 8000000 in
set_option maxRecDepth 100000 in
theorem markTokenSS (v : Value) (l : List (List Tok)) (fp : List Nat) (lo : Nat) (k : Int) (w : World) (h0 : 0 ≤ k) (h1 : k + cntTokenSS l ≤ 2305843009213693952) (H : (sSlice sToks).R w [v] l fp) (O : Own w lo fp) :
    Calls Try.prog 21 #[v, .int .i64 k] w (Marked (sSlice sToks) v (mkTokenSS k l) fp lo (k + cntTokenSS l) w) := by
  have HI := Lib.hid H
  obtain ⟨a, cap, rfl, hc, hm, hrow0⟩ := open_rows H
  have hm' := hm
  unfold maxLen at hm
  clear H hrow0
  go_enter Try.func21, Try.ntmps21
  go_wp2
  go_loopw [1, 5] (fun t i wr => ∃ (j : Nat) (L : List (List Tok)) (kk : Int), j ≤ l.length ∧ i = .int .i64 j ∧ t = .int .i64 kk ∧ Hid (kk = k + cntAll cntTokenS (l.take j)) ∧ Hid (MkUpto mkTokenS cntTokenS k l j L) ∧ Hid ((sSlice sToks).R wr [.slice a l.length cap] L fp) ∧ Own wr lo fp ∧ Kept fp w wr) (fun _ i _ => l.length - (intOf i).toNat)
  case atStart => exact ⟨0, l, k, by omega, rfl, rfl, by show _ = _; simp [cntAll], MkUpto.zero _ _, HI.out, O, Kept.refl _ _⟩
  case round =>
    obtain ⟨j, L, kk, hj, rfl, rfl, HKK, HM, HR, HO, HK⟩ := hrel
    by_cases hlt : j < l.length
    · obtain ⟨a', cap', hv, hc', hm'', hrow⟩ := open_rows HR.out
      have hLl := HM.out.len
      obtain ⟨b, off, fps, hab, hb, hfp, he⟩ := hrow (by omega)
      simp only [Value.slice.injEq] at hv
      obtain ⟨rfl, hv2, rfl⟩ := hv
      subst hab
      clear hv2
      rw [hLl] at hfp
      subst hfp
      obtain ⟨es, hE, hR⟩ := he j (by omega)
      rw [HM.out.at hlt] at hR
      have hle := cntAll_le (c := cntTokenS) l (j + 1)
      rw [cntAll_take hlt] at hle
      have hKb : (0 : Int) ≤ kk ∧ kk + (cntTokenS l[j] : Int) ≤ 2305843009213693952 := by
        have := HKK.out
        unfold cntTokenSS at h1
        omega
      obtain ⟨hk0, hk1⟩ := hKb
      have HX := Lib.hid (HM.out.succ hlt)
      have HXK : Hid (kk + (cntTokenS l[j] : Int) = k + cntAll cntTokenS (l.take (j + 1))) := by
        show _ = _
        rw [cntAll_take hlt]
        have := HKK.out
        omega
      rw [← HKK.out] at HX
      obtain ⟨q1, d1, rfl⟩ := cells_slice hR
      have hnd := HO.1
      have hap := flat_apart hnd hlt
      have hbm : b ∈ b :: (List.range l.length).flatMap fps := by simp
      have Hrow : Hid (∀ (w' : World) (d : List Tok) (es' : List Value), Turned b (off + j * sToks.m) (off + j * sToks.m + sToks.m) (fps j) wr w' → ElemAt w' b off sToks.m j es' → sToks.R w' es' d (fps j) → (sSlice sToks).R w' [.slice (some ⟨b, off, none⟩) l.length cap] (L.set j d) (b :: (List.range l.length).flatMap fps)) :=
        fun w' d es' hT h1 h2 => row_turned hLl hc hm' hb he hlt hnd hT h1 h2
      clear he hrow hc' hm'' hle h1 hLl
      have hnj := flat_nodup hnd hlt
      have W0 := Lib.hid (Wr.start (fpj := fps j) hE HO hb hbm hap.1)
      have c0 := elem_one hE
      have HN2 := Lib.hid (HO.sub hnj (fun x hx => flat_sub hlt x hx))
      go_wp2_with fail
      refine (markTokenS _ _ _ lo _ _ (by omega) (by omega) hR HN2.out).mono ?_
      rintro e u2 ⟨rfl, R2, O2, hk2⟩
      have W4 := Lib.hid (W0.out.sub hk2 O2 (fun x hx => hx))
      have HRn := Lib.hid (Hrow.out _ (mkTokenS kk l[j]) _ W4.out.t W4.out.e R2)
      have HKn := Lib.hid (HK.trans (W4.out.t.keptAll hlt))
      have HOn := Lib.hid W4.out.o
      clear Hrow HR HO HK hnd hap hb W0 W4 R2 hk2 O2 HN2 c0 hR hE
      go_wp2
      go_roundw
      case rel => exact ⟨j + 1, _, _, by omega, by go_num, rfl, by show _ = _; have := HXK.out; omega, HX, HRn, HOn.out, HKn.out⟩
      case measure => simp [intOf]; omega
    · have HD := HM.out.done (by omega)
      have hjl : l.take j = l := List.take_of_length_le (by omega)
      have HKD := HKK.out
      rw [hjl] at HKD
      have HF := Lib.hid HKD
      have HRD := HR.out
      rw [HD] at HRD
      have HRF := Lib.hid HRD
      clear hjl HKD HRD HR HM HKK HD
      go_wp2
      go_ret
      exact ⟨by rw [HF.out]; rfl, HRF.out, HO, HK⟩

set_option maxHeartbeats 8000000 in
set_option maxRecDepth 100000 in
theorem heldTokenSS (v : Value) (l : List (List Tok)) (fp : List Nat) (k : Int) (w : World) (h0 : 0 ≤ k) (h1 : k + cntTokenSS l ≤ 2305843009213693952) (H : (sSlice sToks).R w [v] (mkTokenSS k l) fp) :
    Calls Try.prog 22 #[v, .int .i64 k] w fun e w' => e = .returned (.int .i64 (k + cntTokenSS l)) ∧ Below w.heap.size w w' := by
  obtain ⟨a, cap, rfl, hc, hm, hrow⟩ := open_rows H
  have hml : (mkTokenSS k l).length = l.length := mkAll_len _ _
  rw [hml] at hc ⊢
  unfold maxLen at hm
  have Hrow : Hid (∀ j, (hj : j < l.length) → ∃ (b off : Nat) (h2 : Value) (fp2 : List Nat), a = some ⟨b, off, none⟩ ∧ b < w.heap.size ∧ ∀ K : Int, K = k + cntAll cntTokenS (l.take j) → ElemAt w b off 1 j [h2] ∧ (sSlice sTok).R w [h2] (mkTokenS K l[j]) fp2) := by
    intro j hj
    obtain ⟨b, off, fps, hab, hb, _, he⟩ := hrow (by omega)
    obtain ⟨es, hE, hR⟩ := he j (by rw [hml]; exact hj)
    have hg : (mkTokenSS k l)[j]'(by rw [hml]; exact hj) = mkTokenS (k + cntAll cntTokenS (l.take j)) l[j] := mkAll_get k j hj
    rw [hg] at hR
    obtain ⟨q1, d1, rfl⟩ := cells_slice hR
    exact ⟨b, off, _, _, hab, hb, by rintro K rfl; exact ⟨hE, hR⟩⟩
  clear H hrow hml
  go_enter Try.func22, Try.ntmps22
  go_wp2
  go_loopw [1, 5] (fun t i wr => ∃ (j : Nat) (kk : Int), j ≤ l.length ∧ i = .int .i64 j ∧ t = .int .i64 kk ∧ Hid (kk = k + cntAll cntTokenS (l.take j)) ∧ Below w.heap.size w wr) (fun _ i _ => l.length - (intOf i).toNat)
  case atStart => exact ⟨0, k, by omega, rfl, rfl, by show _ = _; simp [cntAll], Below.refl _ _⟩
  case round =>
    obtain ⟨j, kk, hj, rfl, rfl, HKK, hbel⟩ := hrel
    by_cases hlt : j < l.length
    · obtain ⟨b, off, h2, fp2, rfl, hb, hEK⟩ := Hrow.out j hlt
      have hle := cntAll_le (c := cntTokenS) l (j + 1)
      rw [cntAll_take hlt] at hle
      have hKb : (0 : Int) ≤ kk ∧ kk + (cntTokenS l[j] : Int) ≤ 2305843009213693952 := by
        have := HKK.out
        unfold cntTokenSS at h1
        omega
      obtain ⟨hk0, hk1⟩ := hKb
      have HXK : Hid (kk + (cntTokenS l[j] : Int) = k + cntAll cntTokenS (l.take (j + 1))) := by
        show _ = _
        rw [cntAll_take hlt]
        have := HKK.out
        omega
      obtain ⟨hE, K2⟩ := hEK kk HKK.out
      replace hE := hE.frame (hbel.block b hb)
      clear Hrow h1 hle hEK
      replace K2 := (sSlice sTok).below K2 hbel
      have c0 := elem_one hE
      go_wp2_with fail
      refine (heldTokenS _ _ _ _ _ (by omega) (by omega) K2).mono ?_
      rintro e u3 ⟨rfl, hb3⟩
      have B3 := hbel.trans (hb3.mono hbel.size)
      clear c0 hb3 hE K2
      go_wp2
      go_roundw
      case rel => exact ⟨j + 1, _, by omega, by go_num, rfl, by show _ = _; have := HXK.out; omega, B3⟩
      case measure => simp [intOf]; omega
    · have hjl : l.take j = l := List.take_of_length_le (by omega)
      have HKD := HKK.out
      rw [hjl] at HKD
      have HF := Lib.hid HKD
      clear hjl HKD HKK
      go_wp2
      go_ret
      exact ⟨by rw [HF.out]; rfl, hbel⟩

end Go.Proofs.Ytiaiggjfepoahab

/- Dividing arguments: the model, and what the program does. No program. -/
namespace Go.Proofs.Ytiaiggjfepoahab
open Go.RowKit

def isOpen (t : Tok) : Bool := t.text.toList == [40]
def isShut (t : Tok) : Bool := t.text.toList == [41]
def isCom (t : Tok) : Bool := t.text.toList == [44]
/-- By how much more the tokens behind are enclosed. -/
def opn (t : Tok) : Int := if isOpen t = true then 1 else if isShut t = true then -1 else 0
abbrev Args := List (List Tok)
/-- The model's way: depth, arguments done, argument under way, place. -/
def spGo : List Tok → Int → Args → List Tok → Nat → Args × Nat × Bool
  | [], _, args, _, _ => (args, 0, false)
  | t :: r, d, args, arg, k =>
    if d + opn t = 0 then (args ++ [arg], k + 1, true)
    else if d + opn t = 1 ∧ isCom t = true then spGo r (d + opn t) (args ++ [arg]) [] (k + 1)
    else spGo r (d + opn t) args (arg ++ [t]) (k + 1)
/-- The program's: first the closing place, ... -/
def clGo : List Tok → Int → Nat → Option Nat
  | [], _, _ => none
  | t :: r, d, k => if d + opn t = 0 then some k else clGo r (d + opn t) (k + 1)
/-- ... then the arguments before it. -/
def dvGo : List Tok → Int → Args → List Tok → Args
  | [], _, args, arg => args ++ [arg]
  | t :: r, d, args, arg => if d = 0 ∧ isCom t = true then dvGo r d (args ++ [arg]) [] else dvGo r (d + opn t) args (arg ++ [t])
theorem opn_com {t : Tok} (h : isCom t = true) : opn t = 0 := by
  have e : t.text = ⟨#[44]⟩ := txt_eq h
  have h1 : isOpen t = false := by unfold isOpen; rw [e, txt_dec]; decide
  have h2 : isShut t = false := by unfold isShut; rw [e, txt_dec]; decide
  unfold opn
  rw [h1, h2]; rfl
theorem clGo_ge : ∀ (l : List Tok) (d : Int) (k e : Nat), clGo l d k = some e → k ≤ e ∧ e < k + l.length
  | [], _, _, _, h => by simp [clGo] at h
  | t :: r, d, k, e, h => by
    unfold clGo at h
    split at h
    · simp only [Option.some.injEq] at h; subst h; simp
    · have := clGo_ge r _ _ _ h
      simp only [List.length_cons]
      omega
/-- The two ways agree. -/
theorem sp_dv : ∀ (l : List Tok) (d : Int) (args : Args) (arg : List Tok) (k : Nat),
    match clGo l (d + 1) k with
    | none => (spGo l (d + 1) args arg k).2 = (0, false)
    | some e => spGo l (d + 1) args arg k = (dvGo (l.take (e - k)) d args arg, e + 1, true)
  | [], d, args, arg, k => by simp [clGo, spGo]
  | t :: r, d, args, arg, k => by
    unfold clGo spGo
    by_cases h0 : d + 1 + opn t = 0
    · rw [if_pos h0, if_pos h0]
      simp [dvGo]
    · rw [if_neg h0, if_neg h0]
      by_cases hc : isCom t = true
      · have ho := opn_com hc
        have e1 : d + 1 + opn t = d + 1 := by omega
        rw [e1]
        by_cases hd : d = 0
        · rw [if_pos ⟨by omega, hc⟩]
          have ih := sp_dv r d (args ++ [arg]) [] (k + 1)
          split at ih
          · exact ih
          · rename_i e h
            have hg := clGo_ge r _ _ _ h
            show spGo _ _ _ _ _ = _
            rw [ih, show e - k = (e - (k + 1)) + 1 by omega, List.take_succ_cons, dvGo, if_pos ⟨hd, hc⟩]
        · rw [if_neg (fun h => hd (by omega))]
          have ih := sp_dv r d args (arg ++ [t]) (k + 1)
          split at ih
          · exact ih
          · rename_i e h
            have hg := clGo_ge r _ _ _ h
            show spGo _ _ _ _ _ = _
            rw [ih, show e - k = (e - (k + 1)) + 1 by omega, List.take_succ_cons, dvGo, if_neg (fun h => hd h.1), ho, Int.add_zero]
      · have e1 : d + 1 + opn t = d + opn t + 1 := by omega
        rw [e1, if_neg (fun h => hc h.2)]
        have ih := sp_dv r (d + opn t) args (arg ++ [t]) (k + 1)
        split at ih
        · exact ih
        · rename_i e h
          have hg := clGo_ge r _ _ _ h
          show spGo _ _ _ _ _ = _
          rw [ih, show e - k = (e - (k + 1)) + 1 by omega, List.take_succ_cons, dvGo, if_neg (fun h => hc h.2)]

/-- What SplitArguments answers. -/
def splitA (l : List Tok) (at_ : Int) : Args × Int × Bool :=
  if toksOk l = true then
    (if h : 0 ≤ at_ ∧ at_ < l.length then
      (if isOpen (l[at_.toNat]'(by omega)) = true then
        (match spGo (l.drop (at_.toNat + 1)) 1 [] [] (at_.toNat + 1) with
         | (a, e, true) => (a, (e : Int), true)
         | (_, _, false) => ([], 0, false))
       else ([], 0, false))
     else ([], 0, false))
  else ([], 0, false)
theorem splitA_bad {l : List Tok} {a : Int} (h : toksOk l = false) : splitA l a = ([], 0, false) := by unfold splitA; rw [h]; rfl
theorem splitA_out {l : List Tok} {a : Int} (h : ¬ (0 ≤ a ∧ a < l.length)) : splitA l a = ([], 0, false) := by
  unfold splitA
  by_cases ht : toksOk l = true
  · rw [if_pos ht, dif_neg h]
  · rw [if_neg ht]
theorem splitA_no {l : List Tok} {n : Nat} (hn : n < l.length) (h : isOpen l[n] = false) : splitA l n = ([], 0, false) := by
  unfold splitA
  split
  · rw [dif_pos ⟨by omega, by omega⟩]
    have : isOpen (l[((n : Nat) : Int).toNat]'(by simpa using hn)) = false := h
    rw [this]; rfl
  · rfl
theorem splitA_go {l : List Tok} {n : Nat} (hl : toksOk l = true) (hn : n < l.length) (h : isOpen l[n] = true) :
    splitA l n = match spGo (l.drop (n + 1)) 1 [] [] (n + 1) with
      | (a, e, true) => (a, (e : Int), true)
      | (_, _, false) => ([], 0, false) := by
  unfold splitA
  rw [if_pos hl, dif_pos ⟨by omega, by omega⟩]
  have : isOpen (l[((n : Nat) : Int).toNat]'(by simpa using hn)) = true := h
  rw [if_pos this]
  rfl
theorem splitA_none {l : List Tok} {n : Nat} (hl : toksOk l = true) (hn : n < l.length) (h : isOpen l[n] = true) (hc : clGo (l.drop (n + 1)) 1 (n + 1) = none) : splitA l n = ([], 0, false) := by
  rw [splitA_go hl hn h]
  have := sp_dv (l.drop (n + 1)) 0 [] [] (n + 1)
  rw [show (0 : Int) + 1 = 1 from rfl, hc] at this
  generalize spGo (l.drop (n + 1)) 1 [] [] (n + 1) = r at this
  obtain ⟨a, b, c⟩ := r
  obtain ⟨rfl, rfl⟩ : b = 0 ∧ c = false := by simpa using this
  rfl
theorem splitA_some {l : List Tok} {n e : Nat} (hl : toksOk l = true) (hn : n < l.length) (h : isOpen l[n] = true) (hc : clGo (l.drop (n + 1)) 1 (n + 1) = some e) : splitA l n = (dvGo ((l.drop (n + 1)).take (e - (n + 1))) 0 [] [], ((e + 1 : Nat) : Int), true) := by
  rw [splitA_go hl hn h]
  have := sp_dv (l.drop (n + 1)) 0 [] [] (n + 1)
  rw [show (0 : Int) + 1 = 1 from rfl, hc] at this
  rw [this]
/-- Brackets and commas of valid tokens are marks. -/
theorem kind_of_open {t : Tok} (h : tokOk t = true) (e : isOpen t = true) : t.kind = 4 := kind_head (c := 40) (l := []) h (txt_eq e)
theorem kind_of_shut {t : Tok} (h : tokOk t = true) (e : isShut t = true) : t.kind = 4 := kind_head (c := 41) (l := []) h (txt_eq e)
theorem kind_of_com {t : Tok} (h : tokOk t = true) (e : isCom t = true) : t.kind = 4 := kind_head (c := 44) (l := []) h (txt_eq e)
theorem opn_open {t : Tok} (h : isOpen t = true) : opn t = 1 := by unfold opn; rw [h]; rfl
theorem opn_shut {t : Tok} (h : isOpen t = false) (h2 : isShut t = true) : opn t = -1 := by unfold opn; rw [h, h2]; rfl
theorem opn_else {t : Tok} (h : isOpen t = false) (h2 : isShut t = false) : opn t = 0 := by unfold opn; rw [h, h2]; rfl
theorem opn_ge (t : Tok) : -1 ≤ opn t ∧ opn t ≤ 1 := by unfold opn; split <;> (try split) <;> omega

end Go.Proofs.Ytiaiggjfepoahab

/- Rows of the call's own whose elements may read memory of others, too: the elements' blocks lie before the row's. Over any program. -/
namespace Go.Proofs.Ytiaiggjfepoahab
open Go.RowKit

structure RowG {α : Type} (S : Shape α) (base : Nat) (e : TypeId) (v : Value) (L : List (Elem α)) (w : World) : Prop where
  row : w.ownsRow base e S.m v L.length (L.flatMap (·.cells))
  len : ∀ x ∈ L, x.cells.length = S.m
  el : ∀ x ∈ L, S.R w x.cells x.d x.fp
  hi : ∀ x ∈ L, ∀ b ∈ x.fp, b < base

section
variable {α : Type} {S : Shape α} {base : Nat} {e : TypeId} {v v' : Value} {L : List (Elem α)} {w w' : World}
theorem RowG.ap (h : RowG S base e v L w) : ∀ x ∈ L, ∀ b ∈ x.fp, v.ownBlock ≠ some b := fun x hx b hb hv => by
  have h1 := h.hi x hx b hb
  have h2 := (h.row.lt b hv).1
  omega
/-- An empty literal's row. -/
theorem RowG.lit0 (S : Shape α) (e : TypeId) (w : World) : RowG S w.heap.size e (.slice (some ⟨w.heap.size, 0, none⟩) 0 0) [] (w.alloc (.cells #[] e)) where
  row := World.ownsRow_lit (base := w.heap.size) (e := e) (size := S.m) w #[] 0 (Nat.le_refl _) (by unfold maxLen; omega) (by simp)
  len := by simp
  el := by simp
  hi := by simp
theorem RowG.same (h : RowG S base e v L w) (hv : ∀ g, v.ownBlock = some g → w'.heap[g]? = w.heap[g]?) (hb : ∀ x ∈ L, ∀ b ∈ x.fp, w'.heap[b]? = w.heap[b]?) : RowG S base e v L w' where
  row := ownsRow_same h.row hv
  len := h.len
  el := fun x hx => S.frame (fun b hb' => hb x hx b hb') (h.el x hx)
  hi := h.hi
theorem RowG.below (h : RowG S base e v L w) (hb : Below w.heap.size w w') : RowG S base e v L w' :=
  h.same (fun g hg => hb.block g (h.row.lt g hg).2) (fun x hx b hb' => hb.block b (S.lt (h.el x hx) b hb'))
theorem RowG.kept {K : List Nat} (h : RowG S base e v L w) (hk : Kept K w w') (hv : ∀ g, v.ownBlock = some g → g ∉ K) (hb : ∀ x ∈ L, ∀ b ∈ x.fp, b ∉ K) : RowG S base e v L w' :=
  h.same (fun g hg => hk.block g (h.row.lt g hg).2 (hv g hg)) (fun x hx b hb' => hk.block b (S.lt (h.el x hx) b hb') (hb x hx b hb'))
theorem RowG.val (h : RowG S base e v L w) : ∃ a cap, v = .slice a L.length cap ∧ L.length ≤ cap ∧ cap ≤ maxLen ∧ (0 < L.length → ∃ g, a = some ⟨g, 0, none⟩ ∧ base ≤ g ∧ g < w.heap.size) := by
  rcases h.row.2 with ⟨rfl, h0⟩ | ⟨g, cap, cur, rfl, hb, hg, hn, hc, _⟩
  · exact ⟨none, 0, by rw [h0], by omega, by simp, fun h => by omega⟩
  · exact ⟨_, cap, rfl, hn, hc, fun _ => ⟨g, rfl, hb, (Array.getElem?_eq_some_iff.1 hg).1⟩⟩
theorem RowG.mine (h : RowG S base e v L w) : ∀ b, v.ownBlock = some b → base ≤ b := fun b hb => (h.row.lt b hb).1
theorem RowG.read (h : RowG S base e v L w) : ∃ fp, (sSlice S).R w [v] (L.map (·.d)) fp ∧ (∀ b ∈ fp, v.ownBlock = some b ∨ ∃ x ∈ L, b ∈ x.fp) ∧ (Own w base (L.flatMap (·.fp)) → Own w base fp) := by
  obtain ⟨fp, h1, h2, h3⟩ := slice_of_row h.row fun x hx => ⟨h.len x hx, h.el x hx⟩
  refine ⟨fp, h1, fun b hb => ?_, fun ho => h3 ho fun g hg hm => ?_⟩
  · rcases h2 b hb with h | h
    · exact .inl h
    · obtain ⟨x, hx, hb'⟩ := List.mem_flatMap.1 h
      exact .inr ⟨x, hx, hb'⟩
  · obtain ⟨x, hx, hb'⟩ := List.mem_flatMap.1 hm
    exact h.ap x hx g hb' hg
theorem RowG.len_eq {g n cap : Nat} (h : RowG S base e (.slice (some ⟨g, 0, none⟩) n cap) L w) : L.length = n := by
  rcases h.row.2 with ⟨h', _⟩ | ⟨g', cap', cur, h', _⟩
  · cases h'
  · simp only [Value.slice.injEq] at h'; exact h'.2.1.symm
/-- A store into an element. -/
theorem RowG.set {g n cap : Nat} (h : RowG S base e (.slice (some ⟨g, 0, none⟩) n cap) L w) {k : Nat} (hk : k < L.length) {j : Nat} (hj : j < S.m) (u : Value) (x' : Elem α) (hx : x'.cells = L[k].cells.set j u)
    (hR : S.R w x'.cells x'.d x'.fp) (hn : ∀ b ∈ x'.fp, b < base) :
    RowG S base e (.slice (some ⟨g, 0, none⟩) n cap) (L.set k x') (w.setCell ⟨g, k * S.m + j, none⟩ u) := by
  have hblk : ∀ b : Nat, b ≠ g → (w.setCell ⟨g, k * S.m + j, none⟩ u).heap[b]? = w.heap[b]? := fun b hb => Below.heap_setCell _ _ _ _ hb
  have hmem : ∀ x ∈ L.set k x', x = x' ∨ x ∈ L := fun x hx => by
    rcases List.mem_or_eq_of_mem_set hx with h | h
    · exact .inr h
    · exact .inl h
  have hne : ∀ x ∈ L, ∀ b ∈ x.fp, b ≠ g := fun x hx b hb e => h.ap x hx b hb (by rw [e]; rfl)
  refine ⟨?_, fun x hx' => ?_, fun x hx' => ?_, fun x hx' => ?_⟩
  · have hn := h.len_eq
    have hrow := h.row
    rw [hn] at hrow
    have := (hrow.stored (k * S.m + j) u).1
    rw [flatMap_set h.len hk hj u x' hx] at this
    rw [List.length_set, hn]
    exact this
  · rcases hmem x hx' with rfl | hx'
    · rw [hx, List.length_set]; exact h.len _ (List.getElem_mem hk)
    · exact h.len x hx'
  · rcases hmem x hx' with rfl | hx'
    · exact S.frame (fun b hb => hblk b (fun e => by have h1 := hn b hb; have h2 := (h.row.lt g rfl).1; omega)) hR
    · exact S.frame (fun b hb => hblk b (hne x hx' b hb)) (h.el x hx')
  · rcases hmem x hx' with rfl | hx'
    · exact hn
    · exact h.hi x hx'
/-- Elements appended. -/
theorem RowG.appended (h : RowG S base e v L w) {X : List (Elem α)} (hrow : w'.ownsRow base e S.m v' (L ++ X).length ((L ++ X).flatMap (·.cells))) (hg : w.grownBy w' v.ownBlock)
    (hX : ∀ x ∈ X, x.cells.length = S.m ∧ S.R w x.cells x.d x.fp ∧ ∀ b ∈ x.fp, b < base) :
    RowG S base e v' (L ++ X) w' := by
  have hall : ∀ x ∈ L ++ X, x.cells.length = S.m ∧ S.R w x.cells x.d x.fp ∧ ∀ b ∈ x.fp, b < base := fun x hx => by
    rcases List.mem_append.1 hx with hx | hx
    · exact ⟨h.len x hx, h.el x hx, h.hi x hx⟩
    · exact hX x hx
  refine ⟨hrow, fun x hx => (hall x hx).1, fun x hx => ?_, fun x hx => (hall x hx).2.2⟩
  refine S.frame (fun b hb => hg.block b (S.lt (hall x hx).2.1 b hb) fun hv => ?_) (hall x hx).2.1
  have h1 := (hall x hx).2.2 b hb
  have h2 := (h.row.lt b hv.symm).1
  omega
end
/-- append of elements that stand somewhere. -/
theorem wp_append_rowG {α : Type} {S : Shape α} {P : Program} {t e : TypeId} {z : Value} {bytes : Nat} (ti : TI P t e z S.m bytes) (hzs : z.cells.size = S.m) (h0 : 0 < S.m) (w : World) {L X : List (Elem α)} {ops : Array Oper} {rest : List Oper} {o : Oper} {a : Act} {Q : Exit → Act → World → Prop}
    (hg : o.guard = none) (s y : Operand) (ho : o.op = .call { callee := .builtin .append, args := #[s, y], argTypes := #[t, t] })
    (base : Nat) (v : Value) (hs : a.eval s = v) (hown : RowG S base e v L w) (g off m c : Nat) (hy : a.eval y = .slice (some ⟨g, off, none⟩) m c) (hm : X.length = m)
    (hX : ∀ x ∈ X, x.cells.length = S.m ∧ S.R w x.cells x.d x.fp ∧ ∀ b ∈ x.fp, b < base) (h1 : ∀ x ∈ X, ∀ u ∈ x.cells, u.oneCell' = true) (hcell : ∀ j u, (X.flatMap (·.cells))[j]? = some u → w.cell? ⟨g, off + j, none⟩ = some u)
    (h63 : L.length + m ≤ maxLen) (hbytes : (L.length + m) * bytes ≤ 140737488355328) (hbase : base ≤ w.heap.size)
    (h : ∀ v' w', RowG S base e v' (L ++ X) w' → w.grownBy w' v.ownBlock → wpList P ops Q rest (a.put o.dst v') w') : wpList P ops Q (o :: rest) a w := by
  obtain ⟨i, hi, hz0, hz1, hz2⟩ := info_parts ti.2
  subst hm
  refine wpList_append_own _ hg s y t ho base e i z S.m bytes ti.1 hi hz0 hz1 hz2 hzs h0 v L.length _ hs hown.row ⟨g, off, none⟩ X.length c (X.flatMap (·.cells)) hy (flatMap_len (f := Elem.cells) fun x hx => (hX x hx).1) ?_ ?_ h63 hbytes hbase fun v' w' r1 r2 _ => h v' w' ?_ r2
  · intro j u hj
    rw [Addr.add_lit]
    exact hcell j u hj
  · intro u hu
    obtain ⟨x, hx, hu⟩ := List.mem_flatMap.1 hu
    exact h1 x hx u hu
  · refine hown.appended ?_ r2 hX
    rw [List.length_append, List.flatMap_append]
    exact r1
end Go.Proofs.Ytiaiggjfepoahab
