/- Texts that the proof of U stands on, in one file. -/
import Derived.Test.YtlegeancmcmbaaaDoorZU1
import Derived.Outline
import Derived.Laws.BytesString
import Derived.Laws.IdiomStrings
import Derived.Deep.RegionHeld3
import Derived.IntWalk
import Derived.Laws.Strings2
import Derived.Laws.Concat
import Derived.Test.YtlegeancmcmbaaaDoorShelf
import Derived.Deep.Slices
import Derived.Deep.Fields
import Derived.ChangeSame
import Derived.Lib.SmallJoins
set_option linter.unusedVariables false
set_option linter.unusedSimpArgs false
/- The law's own marks: their texts. -/
namespace Go.Proofs.YtlegeancmcmbaaaDoor
open Go.RowKit

theorem ret_str {a b : ByteArray} (h : a = b) : Ending.returned (.string a) = .returned (.string b) := by rw [h]
def mdig : Nat → Nat → ByteArray → ByteArray
 | 0, _, acc => acc
 | f + 1, k, acc => if k = 0 then acc else mdig f (k / 10) (⟨#[UInt8.ofNat (48 + k % 10)]⟩ ++ acc)
def mtext (k : Int) : ByteArray := if k ≤ 0 then ⟨#[109, 48]⟩ else ⟨#[109]⟩ ++ mdig k.toNat k.toNat ⟨#[]⟩

theorem run_byte_string (P : Program) (w : World) (src dst e : TypeId) (x : Int) (hs : P.underlying src = some (.slice e)) (he : P.underlying e = some (.int .u8)) (hd : P.underlying dst = some .string) :
  (convert src dst (.slice (some ⟨w.heap.size, 0, none⟩) 1 1)).run P (w.alloc (.cells #[.int .u8 x] e)) = .ok (.string ⟨#[UInt8.ofNat x.toNat]⟩) (w.alloc (.cells #[.int .u8 x] e)) := by
 rw [run_convert_bytes_string _ src dst e _ 1 1 hs he hd]
 have hl := run_loadCells_list (P := P) (w.alloc (.cells #[.int .u8 x] e)) ⟨w.heap.size, 0, none⟩ ([x].map (Value.int .u8)) (fun j v hj => by
  have hj' : j < 1 := by have := (List.getElem?_eq_some_iff.1 hj).1; simpa using this
  obtain rfl : j = 0 := by omega
  simp at hj
  subst hj
  exact World.cell?_alloc_at _ _ _ _ rfl)
 rw [run_bytesToString _ ⟨w.heap.size, 0, none⟩ 1 1 [x] hl]
 rfl

set_option maxHeartbeats 400000 in
theorem markText (k : Int) (w : World) (h1 : k ≤ 4611686018427387904) :
  Calls Tryd.prog 49 #[.int .i64 k] w fun e w' => e = .returned (.string (mtext k)) ∧ Below w.heap.size w w' := by
 by_cases h0 : k ≤ 0
 ·have HF : Hid (mtext k = ⟨#[109, 48]⟩) := if_pos h0
  go_enter Tryd.func49, Tryd.ntmps49
  go_wp2
  go_ret
  exact ⟨ret_str HF.out.symm, Below.refl _ _⟩
 ·obtain ⟨n, rfl⟩ := Int.eq_ofNat_of_zero_le (show 0 ≤ k by omega)
  have HF : Hid (mtext n = ⟨#[109]⟩ ++ mdig n n ⟨#[]⟩) := by show mtext n = _; unfold mtext; rw [if_neg h0]; simp
  go_enter Tryd.func49, Tryd.ntmps49
  go_wp2
  go_loopw [0, 3] (fun t s wr => ∃ (k : Nat) (acc : ByteArray) (f : Nat), k ≤ f ∧ acc.size + k ≤ n ∧ t = .int .i64 k ∧ s = .string acc ∧ Hid (mdig f k acc = mdig n n ⟨#[]⟩) ∧ Below w.heap.size w wr) (fun t _ _ => (intOf t).toNat)
  case atStart => exact ⟨n, _, n, Nat.le_refl _, by simp [ByteArray.size], rfl, rfl, rfl, Below.refl _ _⟩
  case round =>
   obtain ⟨k, acc, f, hf, hkn, rfl, rfl, HD, hb⟩ := hrel
   by_cases hk : 0 < k
   ·have hcv := fun (x : Int) => run_byte_string Tryd.prog wr 22 9 5 x Tryd.underlying22 Tryd.underlying5 Tryd.underlying9
    obtain ⟨f, rfl⟩ : ∃ g, f = g + 1 := ⟨f - 1, by omega⟩
    have HE : Hid (mdig f (k / 10) (⟨#[UInt8.ofNat (48 + k % 10)]⟩ ++ acc) = mdig n n ⟨#[]⟩) := by
     show _ = _
     rw [← HD.out]
     show _ = (if k = 0 then acc else _)
     rw [if_neg (by omega)]
    have HS : Hid ((⟨#[UInt8.ofNat (48 + k % 10)]⟩ ++ acc : ByteArray).size = 1 + acc.size) := by show _ = _; rw [ByteArray.size_append]; rfl
    go_wp2
    go_roundw
    case rel =>
     refine ⟨k / 10, ⟨#[UInt8.ofNat (48 + k % 10)]⟩ ++ acc, f, by omega, by rw [HS.out]; omega, by go_num, ?_, HE, hb.alloc hb.size _⟩
     rw [show (48 : UInt8) + UInt8.ofNat (k % 10) = UInt8.ofNat (48 + k % 10) from by rw [UInt8.ofNat_add]; rfl]
    case measure => simp [intOf]; omega
   ·have HE : Hid (mdig n n ⟨#[]⟩ = acc) := by
     show _ = _
     rw [← HD.out]
     cases f with
     | zero => rfl
     | succ f => show (if k = 0 then acc else _) = _; rw [if_pos (by omega)]
    go_wp2
    go_ret
    exact ⟨ret_str (by rw [HF.out, HE.out]), hb⟩

end Go.Proofs.YtlegeancmcmbaaaDoor

/- Marks in slices of texts and of numbers. -/
namespace Go.Proofs.YtlegeancmcmbaaaDoor
open Go.RowKit

theorem mdig_size : ∀ (f k : Nat) (acc : ByteArray), (mdig f k acc).size ≤ acc.size + k
 | 0, k, acc => by simp [mdig]
 |
  f + 1, k, acc => by
  unfold mdig
  by_cases h : k = 0
  ·rw [if_pos h]; omega
  ·rw [if_neg h]
   have := mdig_size f (k / 10) (⟨#[UInt8.ofNat (48 + k % 10)]⟩ ++ acc)
   rw [ByteArray.size_append] at this
   have e : (⟨#[UInt8.ofNat (48 + k % 10)]⟩ : ByteArray).size = 1 := rfl
   omega
theorem mtext_size {k : Int} (h : k ≤ 4611686018427387904) : okStr (mtext k) := by
 unfold okStr mtext maxLen
 by_cases h0 : k ≤ 0
 ·rw [if_pos h0]; decide
 ·rw [if_neg h0, ByteArray.size_append]
  have := mdig_size k.toNat k.toNat ⟨#[]⟩
  have e : (⟨#[109]⟩ : ByteArray).size = 1 := rfl
  have e2 : (⟨#[]⟩ : ByteArray).size = 0 := rfl
  omega

def marks {α : Type} (f : Int → α) (k : Int) (n : Nat) : List α := (List.range n).map fun (i : Nat) => f (k + (i : Int))
def MarkUpto {α : Type} (f : Int → α) (k : Int) (L : List α) (i : Nat) : Prop := ∀ j, (h : j < L.length) → j < i → L[j] = f (k + j)
theorem MarkUpto.zero {α : Type} (f : Int → α) (k : Int) (L : List α) : MarkUpto f k L 0 := by intro j h hj; omega
theorem MarkUpto.succ {α : Type} {f : Int → α} {k : Int} {L : List α} {i : Nat} (h : MarkUpto f k L i) : MarkUpto f k (L.set i (f (k + i))) (i + 1) := by
 intro j hj hji
 by_cases e : j = i
 ·subst e; rw [List.getElem_set_self]
 ·rw [List.getElem_set_ne (fun h => e h.symm)]; exact h j (by simpa using hj) (by omega)
theorem MarkUpto.eq {α : Type} {f : Int → α} {k : Int} {L : List α} {i : Nat} (h : MarkUpto f k L i) (hi : L.length ≤ i) : L = marks f k L.length := by
 refine List.ext_getElem (by simp [marks]) fun j h1 h2 => ?_
 rw [h j h1 (by omega)]; simp [marks]
theorem marks_get {α : Type} (f : Int → α) (k : Int) (n i : Nat) (h : i < (marks f k n).length) : (marks f k n)[i] = f (k + i) := by simp [marks]
theorem marks_len {α : Type} (f : Int → α) (k : Int) (n : Nat) : (marks f k n).length = n := by simp [marks]

def Marked {α : Type} (S : Shape α) (v : Value) (d : α) (fp : List Nat) (lo : Nat) (r : Int) (w : World) (e : Ending) (w' : World) : Prop :=
 e = .returned (.int .i64 r) ∧ S.R w' [v] d fp ∧ Own w' lo fp ∧ Kept fp w w'

set_option maxHeartbeats 400000 in
theorem markStringS (v : Value) (l : List ByteArray) (fp : List Nat) (lo : Nat) (k : Int) (w : World) (h0 : 0 ≤ k) (h1 : k + l.length ≤ 2305843009213693952) (H : (sSlice sStr).R w [v] l fp) (O : Own w lo fp) :
  Calls Tryd.prog 50 #[v, .int .i64 k] w (Marked (sSlice sStr) v (marks mtext k l.length) fp lo (k + l.length) w) := by
 obtain ⟨a, cap, rfl, hc, hm, hcell, hsz⟩ := open_strs H
 unfold maxLen at hm
 have hadr : 0 < l.length → ∃ b off, a = some ⟨b, off, none⟩ ∧ b ∈ fp := fun h => by obtain ⟨b, off, h1, _, h2, _⟩ := hcell h; exact ⟨b, off, h1, h2⟩
 clear hcell hsz
 go_enter Tryd.func50, Tryd.ntmps50
 go_wp2
 go_loopw [1, 5] (fun t i wr => ∃ (j : Nat) (L : List ByteArray), j ≤ l.length ∧ L.length = l.length ∧ i = .int .i64 j ∧ t = .int .i64 (k + j) ∧ MarkUpto mtext k L j ∧ (sSlice sStr).R wr [.slice a l.length cap] L fp ∧ Own wr lo fp ∧ Kept fp w wr) (fun _ i _ => l.length - (intOf i).toNat)
 case atStart => exact ⟨0, l, by omega, rfl, rfl, by simp, MarkUpto.zero _ _ _, H, O, Kept.refl _ _⟩
 case round =>
  obtain ⟨j, L, hj, hL, rfl, rfl, hM, HR, HO, HK⟩ := hrel
  have HLn := Lib.hid hL; clear hL
  by_cases hlt : j < l.length
  ·obtain ⟨b, off, rfl, hbf⟩ := hadr (by omega)
   go_wp2_with fail
   refine (markText _ _ (by omega)).mono ?_
   rintro e w2 ⟨rfl, hb2⟩
   have HR2 := (sSlice sStr).below HR hb2
   have HO2 := HO.grow hb2
   have HK2 := HK.trans (Kept.of_below (fp := fp) hb2)
   have HR3 := flat_set (i := j) HR2 (by have := HLn.out; omega) (d := mtext (k + j)) (mtext_size (by omega))
   have hM3 := hM.succ
   obtain ⟨_, _, hv, _, _, hc2, _⟩ := open_strs HR2
   have hck : (w2.cell? ⟨b, off + j, none⟩).isSome = true := by
    have hl := HLn.out
    obtain ⟨b', off', hab, _, _, hc3⟩ := hc2 (by omega)
    simp only [Value.slice.injEq] at hv
    rw [← hv.1] at hab
    simp only [Option.some.injEq, Addr.mk.injEq, and_true] at hab
    obtain ⟨rfl, rfl⟩ := hab
    rw [hc3 j (by omega)]; rfl
   clear hc2 hv
   have hfk := HO2.frozen hbf (off + j)
   have HS : Hid ((L.set j (mtext (k + j))).length = l.length) := by show _ = _; rw [List.length_set]; exact HLn.out
   obtain ⟨u, hck⟩ := Option.isSome_iff_exists.1 hck
   go_wp2
   go_roundw
   case rel => exact ⟨j + 1, L.set j (mtext (k + j)), by omega, HS.out, by go_num, by go_num, hM3, HR3, HO2.setCell _ _, HK2.setCell (p := ⟨b, off + j, none⟩) hbf _⟩
   case measure => simp [intOf]; omega
  ·obtain rfl : j = l.length := by omega
   have HE := Lib.hid (hM.eq (by rw [HLn.out]; exact Nat.le_refl _))
   go_wp2
   go_ret
   refine ⟨rfl, ?_, HO, HK⟩
   have e := HE.out
   rw [HLn.out] at e
   rw [← e]
   exact HR

set_option maxHeartbeats 1000000 in
theorem heldStringS (v : Value) (fp : List Nat) (n : Nat) (k : Int) (w : World) (h0 : 0 ≤ k) (h1 : k + n ≤ 2305843009213693952) (H : (sSlice sStr).R w [v] (marks mtext k n) fp) :
  Calls Tryd.prog 73 #[v, .int .i64 k] w fun e w' => e = .returned (.int .i64 (k + n)) ∧ Below w.heap.size w w' := by
 obtain ⟨a, cap, rfl, hc, hm, hcell, hsz⟩ := open_strs H
 clear H
 have hadr : ∀ j, j < n → ∃ b off, a = some ⟨b, off, none⟩ ∧ b < w.heap.size ∧ w.cell? ⟨b, off + j, none⟩ = some (.string (mtext (k + j))) := fun j h => by
  obtain ⟨b, off, h1, h2, _, h3⟩ := hcell (by rw [marks_len]; omega)
  exact ⟨b, off, h1, h2, by rw [h3 j (by rw [marks_len]; exact h), marks_get]⟩
 clear hcell hsz
 rw [marks_len] at hc ⊢
 unfold maxLen at hm
 go_enter Tryd.func73, Tryd.ntmps73
 go_wp2
 go_loopw [1, 5] (fun t i wr => ∃ (j : Nat), j ≤ n ∧ i = .int .i64 j ∧ t = .int .i64 (k + j) ∧ Below w.heap.size w wr) (fun _ i _ => n - (intOf i).toNat)
 case atStart => exact ⟨0, by omega, rfl, by simp, Below.refl _ _⟩
 case round =>
  obtain ⟨j, hj, rfl, rfl, hb⟩ := hrel
  by_cases hlt : j < n
  ·obtain ⟨b, off, rfl, hbw, hcj⟩ := hadr j hlt
   have hcw := (hb.cell (p := ⟨b, off + j, none⟩) hbw).trans hcj
   have hbr : b < wr.heap.size := Nat.lt_of_lt_of_le hbw hb.size
   have hne := bytes_beq (rfl : mtext (k + j) = mtext (k + j))
   clear hadr hcj
   go_wp2_with fail
   go_region_held3 (fun w' => w'.cell? ⟨b, off + j, none⟩ = some (.string (mtext (k + j))))
    (first | go_keep | ((rw [hb2.cell (p := ⟨b, off + j, none⟩) (by simp; omega)]; assumption)))
    (first | (go_at_call 49; refine (markText _ _ (by omega)).mono ?_; rintro e w2 ⟨rfl, hb2⟩))
   go_wp2
   go_roundw
   case rel => exact ⟨j + 1, by omega, by go_num, by go_num, hb.drew.trans (hb2.mono hb.size)⟩
   case measure => simp [intOf]; omega
  ·obtain rfl : j = n := by omega
   go_wp2
   go_ret
   exact ⟨rfl, hb⟩

end Go.Proofs.YtlegeancmcmbaaaDoor

/- Objects of a law while it runs: what they read as, and between which blocks they lie. -/
namespace Go.Proofs.YtlegeancmcmbaaaDoor
open Go.RowKit

structure Seen {α : Type} (S : Shape α) (w : World) (cs : List Value) (d : α) (fp : List Nat) (hi : Nat) : Prop where
 r : S.R w cs d fp
 hi : Under hi fp
structure Live {α : Type} (S : Shape α) (w : World) (cs : List Value) (d : α) (fp : List Nat) (lo hi : Nat) : Prop where
 r : S.R w cs d fp
 o : Own w lo fp
 hi : Under hi fp

section
variable {α : Type} {S : Shape α} {w w' : World} {cs : List Value} {d : α} {fp fp' : List Nat} {lo hi lo' : Nat}
theorem Seen.of (h : S.R w cs d fp) : Seen S w cs d fp w.heap.size := ⟨h, S.lt h⟩
theorem Seen.below (h : Seen S w cs d fp hi) (hb : Below w.heap.size w w') : Seen S w' cs d fp hi := ⟨S.below h.r hb, h.hi⟩
theorem Live.of (h : S.R w cs d fp) (o : Own w lo fp) : Live S w cs d fp lo w.heap.size := ⟨h, o, o.lt⟩
theorem Live.below (h : Live S w cs d fp lo hi) (hb : Below w.heap.size w w') : Live S w' cs d fp lo hi := ⟨S.below h.r hb, h.o.grow hb, h.hi⟩
theorem Seen.kept (h : Seen S w cs d fp hi) (hk : Kept fp' w w') (ho : Own w lo' fp') (hle : hi ≤ lo') : Seen S w' cs d fp hi :=
 ⟨S.kept h.r (fun b hb hx => by have h1 := h.hi b hb; have h2 := (ho.2 b hx).1; omega) hk, h.hi⟩
theorem Live.kept (h : Live S w cs d fp lo hi) (hk : Kept fp' w w') (ho : Own w lo' fp') (hle : hi ≤ lo') : Live S w' cs d fp lo hi :=
 have hd : ∀ b ∈ fp, b ∉ fp' := fun b hb hx => by have h1 := h.hi b hb; have h2 := (ho.2 b hx).1; omega
 ⟨S.kept h.r hd hk, h.o.kept hd hk, h.hi⟩
theorem Live.kept' (h : Live S w cs d fp lo hi) (hk : Kept fp' w w') (hu : Under lo fp') : Live S w' cs d fp lo hi :=
 have hd : ∀ b ∈ fp, b ∉ fp' := fun b hb hx => by have h1 := (h.o.2 b hb).1; have h2 := hu b hx; omega
 ⟨S.kept h.r hd hk, h.o.kept hd hk, h.hi⟩
theorem Kept.below' (hk : Kept fp' w w') (ho : Own w lo' fp') {B : Nat} (hB : B ≤ lo') (hs : B ≤ w.heap.size) : Below B w w' :=
 hk.below (fun b hb => Nat.le_trans hB (ho.2 b hb).1) hs
end

def Apart (fp fp' : List Nat) : Prop := ∀ b ∈ fp, b ∉ fp'
theorem Apart.symm {fp fp' : List Nat} (h : Apart fp fp') : Apart fp' fp := fun b h1 h2 => h b h2 h1
theorem eqStringS_same (v1 v2 : Value) (l : List ByteArray) (fp1 fp2 : List Nat) (w : World) (H1 : (sSlice sStr).R w [v1] l fp1) (H2 : (sSlice sStr).R w [v2] l fp2) :
  Calls Tryd.prog 72 #[v1, v2] w fun e w' => e = .returned (.bool true) ∧ Below w.heap.size w w' :=
 (eqStringS v1 v2 l l fp1 fp2 w H1 H2).mono fun e w' ⟨h1, n, h2⟩ => ⟨by rw [h1]; simp, by rw [h2]; exact belowN (Below.refl _ _) n⟩
end Go.Proofs.YtlegeancmcmbaaaDoor

/- StripComments of the model: the places behind comments and texts, and the whole. -/
namespace Go.Proofs.YtlegeancmcmbaaaDoor
open Go.RowKit

theorem run_cut (s : ByteArray) (i j : Int) (a b : Nat) (hi : i = a) (hj : j = b) (h : a ≤ b) (h2 : b ≤ s.size) (W : World) :
  (Instr.slice 9 (.string s) (some (.int .i64 i)) (some (.int .i64 j)) none).run Tryd.prog W = .ok (.string (s.extract a b)) W := by
 subst hi; subst hj
 rw [run_slice_string W 9 s .i64 .i64 a b Tryd.underlying9 (by omega) (by omega) (by omega)]
 simp
theorem ret_int {a b : Int} (h : a = b) : Ending.returned (.int .i64 a) = .returned (.int .i64 b) := by rw [h]

set_option maxHeartbeats 400000 in
theorem spec_l2Text (s : ByteArray) (k0 : Nat) (w : World) (hs : s.size ≤ 1000000) (hk0 : k0 < s.size) :
  Calls Tryd.prog 61 #[.string s, .int .i64 k0] w fun e w' => e = .returned (.int .i64 (tEnd s (k0 + 1) : Nat)) ∧ w' = w := by
 go_enter Tryd.func61, Tryd.ntmps61
 go_wp2
 go_loop [5] (fun i => ∃ k : Nat, k ≤ s.size + 1 ∧ i = .int .i64 k ∧ tEnd s k = tEnd s (k0 + 1)) (fun i => s.size + 1 - (intOf i).toNat)
 case atStart => exact ⟨k0 + 1, by omega, by go_num, rfl⟩
 case round =>
  obtain ⟨k, hk, rfl, he⟩ := hrel
  by_cases hlt : k < s.size
  ·by_cases h34 : s[k].toNat = 34
   ·have HF := Lib.hid ((tEnd_quote hlt h34).symm.trans he)
    have h34' : ((s[k].toNat : Int) != 34) = false := by simp; omega
    clear he
    go_wp2
    all_goals (go_ret; exact ⟨ret_int (by have := HF.out; omega), rfl⟩)
   ·have h34' : ((s[k].toNat : Int) != 34) = true := by simp; omega
    by_cases h92 : s[k].toNat = 92
    ·have HF := Lib.hid ((tEnd_back hlt h92).symm.trans he)
     have h92' : ((s[k].toNat : Int) == 92) = true := by simp; omega
     clear he
     go_wp2
     go_round
     case rel => exact ⟨k + 2, by omega, by go_num, HF.out⟩
     case measure => simp [intOf]; omega
    ·have HF := Lib.hid ((tEnd_else hlt h34 h92).symm.trans he)
     have h92' : ((s[k].toNat : Int) == 92) = false := by simp; omega
     clear he
     go_wp2
     go_round
     case rel => exact ⟨k + 1, by omega, by go_num, HF.out⟩
     case measure => simp [intOf]; omega
  ·have HF := Lib.hid ((tEnd_out (s := s) (k := k) (by omega)).symm.trans he)
   clear he
   go_wp2
   all_goals (go_ret; exact ⟨ret_int (by have := HF.out; omega), rfl⟩)

set_option maxHeartbeats 400000 in
theorem spec_l2Open (s : ByteArray) (k0 : Nat) (w : World) (hs : s.size ≤ 1000000) (hk0 : k0 < s.size) :
  Calls Tryd.prog 60 #[.string s, .int .i64 k0] w fun e w' => e = .returned (.int .i64 (cEnd s (k0 + 2))) ∧ w' = w := by
 go_enter Tryd.func60, Tryd.ntmps60
 go_wp2
 go_loop [5] (fun i => ∃ k : Nat, k0 + 2 ≤ k ∧ k ≤ s.size + 1 ∧ i = .int .i64 k ∧ NoEnd s (k0 + 2) k) (fun i => s.size + 1 - (intOf i).toNat)
 case atStart => exact ⟨k0 + 2, by omega, by omega, by go_num, NoEnd.zero _ _⟩
 case round =>
  obtain ⟨k, hk1, hk, rfl, hno⟩ := hrel
  by_cases hlt : k + 1 < s.size
  ·have hx := ext_two s k 42 47
   have hsl := run_cut s (k : Int) ((k : Int) + 2) k (k + 2) rfl (by omega) (by omega) (by omega)
   cases h2 : two s k 42 47
   ·rw [h2] at hx
    have HN := Lib.hid (hno.succ h2)
    clear hno h2
    go_wp2
    go_round
    case rel => exact ⟨k + 1, by omega, by omega, by go_num, HN.out⟩
    case measure => simp [intOf]; omega
   ·rw [h2] at hx
    have HF := Lib.hid (hno.hit hk1 h2)
    clear hno h2
    go_wp2
    go_ret
    exact ⟨ret_int (by have := HF.out; omega), rfl⟩
  ·have HF := Lib.hid (hno.miss (by omega))
   clear hno
   go_wp2
   go_ret
   exact ⟨ret_int (by have := HF.out; omega), rfl⟩

set_option maxHeartbeats 400000 in
theorem impl_behindText (s : ByteArray) (k0 : Nat) (w : World) (hs : s.size ≤ 1000000) (hk0 : k0 < s.size) :
  Calls Tryd.prog 57 #[.string s, .int .i64 k0] w fun e w' => e = .returned (.int .i64 (tEnd s (k0 + 1) : Nat)) ∧ w' = w := by
 go_enter Tryd.func57, Tryd.ntmps57
 go_wp2
 go_loop [5] (fun i => ∃ k : Nat, k ≤ s.size + 1 ∧ i = .int .i64 k ∧ tEnd s k = tEnd s (k0 + 1)) (fun i => s.size + 1 - (intOf i).toNat)
 case atStart => exact ⟨k0 + 1, by omega, by go_num, rfl⟩
 case round =>
  obtain ⟨k, hk, rfl, he⟩ := hrel
  by_cases hlt : k < s.size
  ·by_cases h34 : s[k].toNat = 34
   ·have HF := Lib.hid ((tEnd_quote hlt h34).symm.trans he)
    have h34' : ((s[k].toNat : Int) == 34) = true := by simp; omega
    have h92' : ((s[k].toNat : Int) == 92) = false := by simp; omega
    clear he
    go_wp2
    go_ret
    exact ⟨ret_int (by have := HF.out; omega), rfl⟩
   ·have h34' : ((s[k].toNat : Int) == 34) = false := by simp; omega
    by_cases h92 : s[k].toNat = 92
    ·have HF := Lib.hid ((tEnd_back hlt h92).symm.trans he)
     have h92' : ((s[k].toNat : Int) == 92) = true := by simp; omega
     clear he
     go_wp2
     go_round
     case rel => exact ⟨k + 2, by omega, by go_num, HF.out⟩
     case measure => simp [intOf]; omega
    ·have HF := Lib.hid ((tEnd_else hlt h34 h92).symm.trans he)
     have h92' : ((s[k].toNat : Int) == 92) = false := by simp; omega
     clear he
     go_wp2
     go_round
     case rel => exact ⟨k + 1, by omega, by go_num, HF.out⟩
     case measure => simp [intOf]; omega
  ·have HF := Lib.hid ((tEnd_out (s := s) (k := k) (by omega)).symm.trans he)
   clear he
   go_wp2
   go_ret
   exact ⟨ret_int (by have := HF.out; omega), rfl⟩

def Ways (s : ByteArray) (k : Nat) (out : ByteArray) (hk : k < s.size) : Prop :=
 (two s k 47 47 = true ∧ Hid (strip1 s 0 = some out)) ∨
 (two s k 47 47 = false ∧ two s k 47 42 = true ∧ cEnd s (k + 2) < 0 ∧ Hid (strip1 s 0 = none)) ∨
 (∃ c : Nat, two s k 47 47 = false ∧ two s k 47 42 = true ∧ cEnd s (k + 2) = c ∧ k < c ∧ c ≤ s.size ∧ Hid (At1 s c (out ++ ⟨#[32]⟩))) ∨
 (∃ t : Nat, two s k 47 47 = false ∧ two s k 47 42 = false ∧ ((s[k].toNat : Int) == 34) = true ∧ tEnd s (k + 1) = t ∧ k < t ∧ t ≤ s.size ∧ Hid (At1 s t (out ++ s.extract k t))) ∨
 (two s k 47 47 = false ∧ two s k 47 42 = false ∧ ((s[k].toNat : Int) == 34) = false ∧ Hid (At1 s (k + 1) (out ++ s.extract k (k + 1))))
theorem ways {s : ByteArray} {k : Nat} {out : ByteArray} (hat : At1 s k out) (hk : k < s.size) : Ways s k out hk := by
 unfold Ways
 cases h1 : two s k 47 47
 ·cases h2 : two s k 47 42
  ·by_cases h3 : s[k].toNat = 34
   ·have hb := tEnd_bounds s (k + 1)
    have := hb.2 (by omega)
    exact .inr (.inr (.inr (.inl ⟨_, rfl, rfl, by simp; omega, rfl, by omega, by omega, hat.text hk h1 h2 h3⟩)))
   ·exact .inr (.inr (.inr (.inr ⟨rfl, rfl, by simp; omega, hat.byte hk h1 h2 h3⟩)))
  ·by_cases h3 : cEnd s (k + 2) < 0
   ·exact .inr (.inl ⟨rfl, rfl, h3, hat.open_ hk h1 h2 h3⟩)
   ·have := cEnd_room (s := s) (k := k + 2) (by omega) (by have := two_room h2; omega)
    exact .inr (.inr (.inl ⟨(cEnd s (k + 2)).toNat, rfl, rfl, by omega, by omega, by omega, hat.comment hk h1 h2 h3⟩))
 ·exact .inl ⟨rfl, hat.line hk h1⟩

set_option maxHeartbeats 4000000 in
set_option maxRecDepth 100000 in
theorem spec_StripComments (s : ByteArray) (w : World) (hs : s.size ≤ maxLen) :
  Calls Tryd.prog 36 #[.string s] w fun e w' => e = .returned (.tuple #[.string (stripRes s).1, .bool (stripRes s).2]) ∧ Below w.heap.size w w' := by
 have hm := hs
 unfold maxLen at hm
 cases h0 : lineOk s
 ·have HF := Lib.hid (stripRes_bad h0)
  go_enter Tryd.func36, Tryd.ntmps36
  go_wp2_with (go_at_call 59; refine (spec_LineValid _ _ hs).mono ?_; rw [h0]; rintro e w' ⟨rfl, rfl⟩)
  go_ret2
  exact ⟨ret_two HF.out, Below.refl _ _⟩
 have hsz := lineOk_size h0
 have H0 := Lib.hid h0
 go_enter Tryd.func36, Tryd.ntmps36
 go_wp2_with (go_at_call 59; refine (spec_LineValid _ _ hs).mono ?_; rw [h0]; rintro e w' ⟨rfl, rfl⟩)
 clear h0
 go_loopw [4, 5] (fun o i wr => ∃ (k : Nat) (out : ByteArray), k ≤ s.size ∧ o = .string out ∧ i = .int .i64 k ∧ At1 s k out ∧ ∃ n, wr = w.drewN n) (fun _ i _ => s.size - (intOf i).toNat)
 case atStart => exact ⟨0, ⟨#[]⟩, by omega, rfl, rfl, At1.zero s, 0, rfl⟩
 case round =>
  obtain ⟨k, out, hk, rfl, rfl, hat, n, rfl⟩ := hrel
  have ho : out.size ≤ 200 := by have := hat.2; omega
  by_cases hlt : k < s.size
  ·have hw := ways hat hlt
   clear hat
   have e1 := ext_two s k 47 47
   have e2 := ext_two s k 47 42
   have hr : ((k : Int) + 2 < (s.size : Int) ∧ min (s.size : Int) ((k : Int) + 2) = (k : Int) + 2 ∧ ∀ W, (Instr.slice 9 (.string s) (some (.int .i64 (k : Int))) (some (.int .i64 ((k : Int) + 2))) none).run Tryd.prog W = .ok (.string (s.extract k (k + 2))) W) ∨
     (¬ (k : Int) + 2 < (s.size : Int) ∧ min (s.size : Int) ((k : Int) + 2) = (s.size : Int) ∧ ∀ W, (Instr.slice 9 (.string s) (some (.int .i64 (k : Int))) (some (.int .i64 (s.size : Int))) none).run Tryd.prog W = .ok (.string (s.extract k (k + 2))) W) := by
    by_cases h : (k : Int) + 2 < (s.size : Int)
    ·exact .inl ⟨h, by omega, fun W => run_cut s _ _ k (k + 2) rfl (by omega) (by omega) (by omega) W⟩
    ·refine .inr ⟨h, by omega, fun W => ?_⟩
     rw [run_cut s _ _ k s.size rfl rfl (by omega) (by omega) W, ← ext_min, Nat.min_eq_left (by omega)]
   rcases hw with ⟨h1, HF⟩ | ⟨h1, h2, h3, HF⟩ | ⟨c, h1, h2, h3, h4, h5, HN⟩ | ⟨c, h1, h2, h3, h6, h4, h5, HN⟩ | ⟨h1, h2, h3, HN⟩
   ·rw [h1] at e1
    have HR := Lib.hid (stripRes_some H0.out HF.out)
    clear h1 e2
    rcases hr with ⟨hr, hmn, hsl⟩ | ⟨hr, hmn, hsl⟩ <;>
    ·go_wp2
     go_ret2
     exact ⟨ret_two HR.out, belowN (Below.refl _ _) n⟩
   ·rw [h1] at e1
    rw [h2] at e2
    have HR := Lib.hid (stripRes_none HF.out)
    clear h1 h2
    rcases hr with ⟨hr, hmn, hsl⟩ | ⟨hr, hmn, hsl⟩ <;>
    ·go_wp2_with (go_at_call 60; refine (spec_l2Open _ _ _ (by omega) (by omega)).mono ?_; rintro e w' ⟨rfl, rfl⟩)
     go_ret2
     exact ⟨ret_two HR.out, belowN (Below.refl _ _) n⟩
   ·rw [h1] at e1
    rw [h2] at e2
    have hadd := fun W => run_string_add_sum (P := Tryd.prog) W out ⟨#[32]⟩ (by show out.size + 1 ≤ _; omega)
    clear h1 h2
    rcases hr with ⟨hr, hmn, hsl⟩ | ⟨hr, hmn, hsl⟩ <;>
    ·go_wp2_with (go_at_call 60; refine (spec_l2Open _ _ _ (by omega) (by omega)).mono ?_; rw [h3]; rintro e w' ⟨rfl, rfl⟩)
     go_roundw
     case rel => exact ⟨c, _, h5, rfl, rfl, HN.out, n, rfl⟩
     case measure => simp [intOf]; omega
   ·rw [h1] at e1
    rw [h2] at e2
    have hadd := fun W => run_string_add_sum (P := Tryd.prog) W out (s.extract k c) (by rw [ByteArray.size_extract]; omega)
    have hsl2 := fun W => (run_cut s (k : Int) (c : Int) k c rfl rfl (by omega) (by omega) W)
    clear h1 h2
    rcases hr with ⟨hr, hmn, hsl⟩ | ⟨hr, hmn, hsl⟩ <;>
    ·go_wp2_with (go_at_call 61; refine (spec_l2Text _ _ _ (by omega) (by omega)).mono ?_; rw [h6]; rintro e w' ⟨rfl, rfl⟩)
     go_roundw
     case rel => exact ⟨c, _, h5, rfl, rfl, HN.out, n, rfl⟩
     case measure => simp [intOf]; omega
   ·rw [h1] at e1
    rw [h2] at e2
    have hadd := fun W => run_string_add_sum (P := Tryd.prog) W out (s.extract k (k + 1)) (by rw [ByteArray.size_extract]; omega)
    have hsl2 := fun W => (run_cut s (k : Int) ((k : Int) + 1) k (k + 1) rfl rfl (by omega) (by omega) W)
    clear h1 h2
    rcases hr with ⟨hr, hmn, hsl⟩ | ⟨hr, hmn, hsl⟩ <;>
    ·go_wp2
     go_roundw
     case rel => exact ⟨k + 1, _, by omega, rfl, by go_num, HN.out, n, rfl⟩
     case measure => simp [intOf]; omega
  ·have HF := Lib.hid (stripRes_some H0.out (hat.done (by omega)))
   clear hat
   go_wp2
   go_ret2
   exact ⟨ret_two HF.out, belowN (Below.refl _ _) n⟩

end Go.Proofs.YtlegeancmcmbaaaDoor

/- The program's tokens: one at a place. -/
namespace Go.Proofs.YtlegeancmcmbaaaDoor
open Go.RowKit

theorem ret_ints {a b a' b' : Int} (h : a = a') (h' : b = b') : Ending.returned (.tuple #[.int .i64 a, .int .i64 b]) = .returned (.tuple #[.int .i64 a', .int .i64 b']) := by rw [h, h']

set_option maxHeartbeats 400000 in
theorem impl_isDigit (c : UInt8) (w : World) :
  Calls Tryd.prog 77 #[.int .u8 (c.toNat : Int)] w fun e w' => e = .returned (.bool (isDig c)) ∧ w = w' := by
 go_enter Tryd.func77, Tryd.ntmps77
 go_wp2
 all_goals
  go_ret
  exact ⟨ret_bool (by rw [Bool.eq_iff_iff, isDig_iff]; simp <;> omega), rfl⟩

set_option maxHeartbeats 400000 in
theorem impl_isWordByte (c : UInt8) (w : World) :
  Calls Tryd.prog 79 #[.int .u8 (c.toNat : Int)] w fun e w' => e = .returned (.bool (isWord c)) ∧ w = w' := by
 go_enter Tryd.func79, Tryd.ntmps79
 go_wp2_with (go_at_call 77; refine (impl_isDigit _ _).mono ?_; rintro e w' ⟨rfl, rfl⟩)
 all_goals
  go_ret
  exact ⟨ret_bool (by rw [Bool.eq_iff_iff, isWord_iff]; simp [isDig_iff] <;> omega), rfl⟩

set_option maxHeartbeats 400000 in
theorem impl_behindWord (s : ByteArray) (k0 : Nat) (w : World) (hs : s.size ≤ 1000000) (hk0 : k0 ≤ s.size) :
  Calls Tryd.prog 78 #[.string s, .int .i64 k0] w fun e w' => e = .returned (.int .i64 (wordTo s k0)) ∧ w = w' := by
 go_enter Tryd.func78, Tryd.ntmps78
 go_wp2
 go_loop [5] (fun i => ∃ k : Nat, k0 ≤ k ∧ k ≤ s.size ∧ i = .int .i64 k ∧ wEnd s k = wEnd s k0) (fun i => s.size - (intOf i).toNat)
 case atStart => exact ⟨k0, by omega, by omega, rfl, rfl⟩
 case round =>
  obtain ⟨k, hk0, hk, rfl, he⟩ := hrel
  have HE := Lib.hid he; clear he
  by_cases hlt : k < s.size
  ·cases hw : isWord s[k]
   ·have HF := Lib.hid ((wEnd_stop hlt hw).symm.trans HE.out)
    go_wp2_with (go_at_call 79; refine (impl_isWordByte _ _).mono ?_; rw [hw]; rintro e w' ⟨rfl, rfl⟩)
    all_goals
     go_ret
     exact ⟨ret_int (by first | exact wordTo_long HF.out (by omega) | exact wordTo_short HF.out (by omega)), rfl⟩
   ·have HF := Lib.hid ((wEnd_in hlt hw).symm.trans HE.out)
    go_wp2_with (go_at_call 79; refine (impl_isWordByte _ _).mono ?_; rw [hw]; rintro e w' ⟨rfl, rfl⟩)
    go_round
    case rel => exact ⟨k + 1, by omega, by omega, by go_num, HF.out⟩
    case measure => simp [intOf]; omega
  ·have HF := Lib.hid ((wEnd_out (s := s) (k := k) (by omega)).symm.trans HE.out)
   go_wp2
   all_goals
    go_ret
    exact ⟨ret_int (by first | exact wordTo_long HF.out (by omega) | exact wordTo_short HF.out (by omega)), rfl⟩

set_option maxHeartbeats 400000 in
theorem impl_behindClosedText (s : ByteArray) (k0 : Nat) (w : World) (hs : s.size ≤ 999000) (hk0 : k0 < s.size) :
  Calls Tryd.prog 80 #[.string s, .int .i64 k0] w fun e w' => e = .returned (.int .i64 (closeTo s (k0 + 1))) ∧ w = w' := by
 have hadd := fun W => run_string_add_sum (P := Tryd.prog) W s ⟨#[32]⟩ (by show s.size + 1 ≤ _; omega)
 have HP := Lib.hid (tEnd_plus s (k0 + 1) (by omega))
 have HS := Lib.hid (plus_size s)
 have HT : Hid (∀ W, Calls Tryd.prog 57 #[.string (plus s), .int .i64 k0] W fun e w' => e = .returned (.int .i64 (tEnd (plus s) (k0 + 1) : Nat)) ∧ w' = W) := fun W => impl_behindText (plus s) k0 W (by rw [HS.out]; omega) (by rw [HS.out]; omega)
 cases hc : tClose s (k0 + 1) with
 |
  none =>
  have HV : Hid (tEnd (plus s) (k0 + 1) = s.size + 1) := by show _ = _; rw [HP.out, hc]
  go_enter Tryd.func80, Tryd.ntmps80
  go_wp2_with (go_at_call 57; refine (HT.out _).mono ?_; rw [HV.out]; rintro e w' ⟨rfl, rfl⟩)
  go_ret
  exact ⟨ret_int (closeTo_none hc).symm, rfl⟩
 |
  some e =>
  have hb := tClose_some hc
  have hb1 := hb.1
  have hb2 := hb.2.1
  clear hb
  have HV : Hid (tEnd (plus s) (k0 + 1) = e) := by show _ = _; rw [HP.out, hc]
  go_enter Tryd.func80, Tryd.ntmps80
  go_wp2_with (go_at_call 57; refine (HT.out _).mono ?_; rw [HV.out]; rintro e w' ⟨rfl, rfl⟩)
  go_ret
  exact ⟨ret_int (closeTo_some hc).symm, rfl⟩

theorem indexByte_neg : ∀ (l : List UInt8) (c : UInt8), Lib.indexByte l c < 0 ↔ ¬ c ∈ l
 | [], c => by simp [Lib.indexByte]
 |
  b :: l, c => by
  have ih := indexByte_neg l c
  have hg := Lib.indexByte_ge l c
  unfold Lib.indexByte
  by_cases hb : (b == c) = true
  ·rw [if_pos hb]; simp at hb; subst hb; simp
  ·rw [if_neg hb]
   have hne : ¬ c = b := fun e => hb (by rw [e]; simp)
   by_cases h1 : (Lib.indexByte l c == -1) = true
   ·rw [if_pos h1]
    have : Lib.indexByte l c = -1 := by simpa using h1
    simp only [List.mem_cons, not_or]
    exact ⟨fun _ => ⟨hne, ih.1 (by omega)⟩, fun _ => by omega⟩
   ·rw [if_neg h1]
    have : ¬ Lib.indexByte l c = -1 := by simpa using h1
    simp only [List.mem_cons, not_or]
    exact ⟨fun h => absurd h (by omega), fun h => absurd (ih.2 h.2) (by omega)⟩
theorem go_mark (c : UInt8) (w : World) :
  Calls Tryd.prog 95 #[.string ⟨#[43, 45, 42, 47, 37, 60, 62, 61, 33, 38, 124, 40, 41, 44, 35, 59, 63, 58, 123, 125, 91, 93, 46]⟩, .int .u8 (c.toNat : Int)] w fun e w' => (∃ r : Int, e = .returned (.int .i64 r) ∧ (r < 0 ↔ ¬ c ∈ marks1)) ∧ w = w' := by
 refine (Tryd.strings_IndexByte _ _ w).mono ?_
 rintro e w' ⟨rfl, rfl⟩
 refine ⟨⟨_, rfl, ?_⟩, rfl⟩
 rw [indexByte_neg]
 have : ((c.toNat : Int)).toNat.toUInt8 = c := by simp
 rw [this]
 exact Iff.rfl

theorem eight (s : ByteArray) (k : Nat) :
  (two s k 61 61 = true ∧ Hid (twoAt s k = true)) ∨
  (two s k 61 61 = false ∧ two s k 33 61 = true ∧ Hid (twoAt s k = true)) ∨
  (two s k 61 61 = false ∧ two s k 33 61 = false ∧ two s k 60 61 = true ∧ Hid (twoAt s k = true)) ∨
  (two s k 61 61 = false ∧ two s k 33 61 = false ∧ two s k 60 61 = false ∧ two s k 62 61 = true ∧ Hid (twoAt s k = true)) ∨
  (two s k 61 61 = false ∧ two s k 33 61 = false ∧ two s k 60 61 = false ∧ two s k 62 61 = false ∧ two s k 38 38 = true ∧ Hid (twoAt s k = true)) ∨
  (two s k 61 61 = false ∧ two s k 33 61 = false ∧ two s k 60 61 = false ∧ two s k 62 61 = false ∧ two s k 38 38 = false ∧ two s k 124 124 = true ∧ Hid (twoAt s k = true)) ∨
  (two s k 61 61 = false ∧ two s k 33 61 = false ∧ two s k 60 61 = false ∧ two s k 62 61 = false ∧ two s k 38 38 = false ∧ two s k 124 124 = false ∧ two s k 35 35 = true ∧ Hid (twoAt s k = true)) ∨
  (two s k 61 61 = false ∧ two s k 33 61 = false ∧ two s k 60 61 = false ∧ two s k 62 61 = false ∧ two s k 38 38 = false ∧ two s k 124 124 = false ∧ two s k 35 35 = false ∧ Hid (twoAt s k = false)) := by
 simp only [Hid, twoAt]
 cases two s k 61 61 <;> cases two s k 33 61 <;> cases two s k 60 61 <;> cases two s k 62 61 <;> cases two s k 38 38 <;> cases two s k 124 124 <;> cases two s k 35 35 <;> simp

theorem markTo_two {s : ByteArray} {k : Nat} (h : twoAt s k = true) : ((k : Int) + 2) = markTo s k := by unfold markTo mLen; rw [if_pos h]; simp
theorem mLen_one {s : ByteArray} {k : Nat} (h : twoAt s k = false) (hk : k < s.size) (hm : s[k] ∈ marks1) : mLen s k = 1 := by unfold mLen; rw [h]; simp [hk, hm]
theorem mLen_none {s : ByteArray} {k : Nat} (h : twoAt s k = false) (hk : k < s.size) (hm : ¬ s[k] ∈ marks1) : mLen s k = 0 := by unfold mLen; rw [h]; simp [hk, hm]
theorem markTo_one {s : ByteArray} {k : Nat} (h : twoAt s k = false) (hk : k < s.size) (hm : s[k] ∈ marks1) : ((k : Int) + 1) = markTo s k := by unfold markTo; rw [mLen_one h hk hm]; simp
theorem markTo_none {s : ByteArray} {k : Nat} (h : twoAt s k = false) (hk : k < s.size) (hm : ¬ s[k] ∈ marks1) : (-1 : Int) = markTo s k := by unfold markTo; rw [mLen_none h hk hm]; simp

set_option maxHeartbeats 1000000 in
theorem impl_behindMark (s : ByteArray) (k : Nat) (w : World) (hs : s.size ≤ 1000000) (hk : k < s.size) :
  Calls Tryd.prog 81 #[.string s, .int .i64 k] w fun e w' => e = .returned (.int .i64 (markTo s k)) ∧ w = w' := by
 by_cases hr : k + 2 ≤ s.size
 ·have hsl := run_cut s (k : Int) ((k : Int) + 2) k (k + 2) rfl (by omega) (by omega) (by omega)
  have e1 := ext_two s k 61 61
  have e2 := ext_two s k 33 61
  have e3 := ext_two s k 60 61
  have e4 := ext_two s k 62 61
  have e5 := ext_two s k 38 38
  have e6 := ext_two s k 124 124
  have e7 := ext_two s k 35 35
  rcases eight s k with ⟨h1, HT⟩ | ⟨h1, h2, HT⟩ | ⟨h1, h2, h3, HT⟩ | ⟨h1, h2, h3, h4, HT⟩ | ⟨h1, h2, h3, h4, h5, HT⟩ | ⟨h1, h2, h3, h4, h5, h6, HT⟩ | ⟨h1, h2, h3, h4, h5, h6, h7, HT⟩ | ⟨h1, h2, h3, h4, h5, h6, h7, HT⟩
  all_goals
   (try rw [h1] at e1); (try rw [h2] at e2); (try rw [h3] at e3); (try rw [h4] at e4); (try rw [h5] at e5); (try rw [h6] at e6); (try rw [h7] at e7)
   go_enter Tryd.func81, Tryd.ntmps81
   go_wp2_with (go_at_call 95; refine (go_mark _ _).mono ?_; rintro e w' ⟨⟨r, rfl, hr⟩, rfl⟩; have HR := Lib.hid hr; clear hr)
   all_goals
    go_ret
    exact ⟨ret_int (by first | exact markTo_two HT.out | exact markTo_one HT.out hk (Decidable.byContradiction fun h => absurd (HR.out.2 h) (by omega)) | exact markTo_none HT.out hk (HR.out.1 (by omega))), rfl⟩
 ·have HT : Hid (twoAt s k = false) := by
   show _ = _
   cases h : twoAt s k
   ·rfl
   ·have := twoAt_room h; omega
  go_enter Tryd.func81, Tryd.ntmps81
  go_wp2_with (go_at_call 95; refine (go_mark _ _).mono ?_; rintro e w' ⟨⟨r, rfl, hr⟩, rfl⟩; have HR := Lib.hid hr; clear hr)
  all_goals
   go_ret
   exact ⟨ret_int (by first | exact markTo_one HT.out hk (Decidable.byContradiction fun h => absurd (HR.out.2 h) (by omega)) | exact markTo_none HT.out hk (HR.out.1 (by omega))), rfl⟩

theorem kind_dig {c : UInt8} (h : isDig c = true) : (2 : Int) = cutKind c := by unfold cutKind; rw [if_pos h]
theorem kind_word {c : UInt8} (h : isDig c = false) (hw : isWord c = true) : (1 : Int) = cutKind c := by
 unfold cutKind; unfold isWord at hw; rw [h, Bool.or_false] at hw; rw [if_neg (by simp [h]), if_pos hw]
theorem kind_text {c : UInt8} (hw : isWord c = false) (hq : c.toNat = 34) : (3 : Int) = cutKind c := by
 unfold isWord at hw; rw [Bool.or_eq_false_iff] at hw; unfold cutKind; rw [if_neg (by simp [hw.2]), if_neg (by simp [hw.1]), if_pos hq]
theorem kind_mark {c : UInt8} (hw : isWord c = false) (hq : ¬ c.toNat = 34) : (4 : Int) = cutKind c := by
 unfold isWord at hw; rw [Bool.or_eq_false_iff] at hw; unfold cutKind; rw [if_neg (by simp [hw.2]), if_neg (by simp [hw.1]), if_neg hq]
theorem dig_word {c : UInt8} (h : isDig c = true) : isWord c = true := by unfold isWord; rw [h, Bool.or_true]
theorem cutEnd_w {s : ByteArray} {k : Nat} (h : k < s.size) (hw : isWord s[k] = true) : wordTo s k = cutEnd s k := by rw [cutEnd, dif_pos h, if_pos hw]
theorem cutEnd_t {s : ByteArray} {k : Nat} (h : k < s.size) (hw : isWord s[k] = false) (hq : s[k].toNat = 34) : closeTo s (k + 1) = cutEnd s k := by rw [cutEnd, dif_pos h, if_neg (by simp [hw]), if_pos hq]
theorem cutEnd_m {s : ByteArray} {k : Nat} (h : k < s.size) (hw : isWord s[k] = false) (hq : ¬ s[k].toNat = 34) : markTo s k = cutEnd s k := by rw [cutEnd, dif_pos h, if_neg (by simp [hw]), if_neg hq]

set_option maxHeartbeats 1000000 in
theorem impl_tokenAt (s : ByteArray) (k : Nat) (w : World) (hs : s.size ≤ 999000) (hk : k < s.size) :
  Calls Tryd.prog 58 #[.string s, .int .i64 k] w fun e w' => e = .returned (.tuple #[.int .i64 (cutKind s[k]), .int .i64 (cutEnd s k)]) ∧ w = w' := by
 cases hd : isDig s[k]
 ·cases hw : isWord s[k]
  ·by_cases hq : s[k].toNat = 34
   ·have h34 : ((s[k].toNat : Int) == 34) = true := by simp; omega
    have HF := Lib.hid (cutEnd_t hk hw hq)
    have HK := Lib.hid (kind_text hw hq)
    clear hq
    go_enter Tryd.func58, Tryd.ntmps58
    go_wp2_with (first
     | (go_at_call 77; refine (impl_isDigit _ _).mono ?_; rw [hd]; rintro e w' ⟨rfl, rfl⟩)
     | (go_at_call 79; refine (impl_isWordByte _ _).mono ?_; rw [hw]; rintro e w' ⟨rfl, rfl⟩)
     | (go_at_call 80; refine (impl_behindClosedText s k _ hs hk).mono ?_; rintro e w' ⟨rfl, rfl⟩))
    go_ret2
    exact ⟨ret_ints HK.out HF.out, rfl⟩
   ·have h34 : ((s[k].toNat : Int) == 34) = false := by simp; omega
    have HF := Lib.hid (cutEnd_m hk hw hq)
    have HK := Lib.hid (kind_mark hw hq)
    clear hq
    go_enter Tryd.func58, Tryd.ntmps58
    go_wp2_with (first
     | (go_at_call 77; refine (impl_isDigit _ _).mono ?_; rw [hd]; rintro e w' ⟨rfl, rfl⟩)
     | (go_at_call 79; refine (impl_isWordByte _ _).mono ?_; rw [hw]; rintro e w' ⟨rfl, rfl⟩)
     | (go_at_call 81; refine (impl_behindMark s k _ (by omega) hk).mono ?_; rintro e w' ⟨rfl, rfl⟩))
    go_ret2
    exact ⟨ret_ints HK.out HF.out, rfl⟩
  ·have HF := Lib.hid (cutEnd_w hk hw)
   have HK := Lib.hid (kind_word hd hw)
   go_enter Tryd.func58, Tryd.ntmps58
   go_wp2_with (first
    | (go_at_call 77; refine (impl_isDigit _ _).mono ?_; rw [hd]; rintro e w' ⟨rfl, rfl⟩)
    | (go_at_call 79; refine (impl_isWordByte _ _).mono ?_; rw [hw]; rintro e w' ⟨rfl, rfl⟩)
    | (go_at_call 78; refine (impl_behindWord s k _ (by omega) (by omega)).mono ?_; rintro e w' ⟨rfl, rfl⟩))
   go_ret2
   exact ⟨ret_ints HK.out HF.out, rfl⟩
 ·have HF := Lib.hid (cutEnd_w hk (dig_word hd))
  have HK := Lib.hid (kind_dig hd)
  go_enter Tryd.func58, Tryd.ntmps58
  go_wp2_with (first
   | (go_at_call 77; refine (impl_isDigit _ _).mono ?_; rw [hd]; rintro e w' ⟨rfl, rfl⟩)
   | (go_at_call 78; refine (impl_behindWord s k _ (by omega) (by omega)).mono ?_; rintro e w' ⟨rfl, rfl⟩))
  go_ret2
  exact ⟨ret_ints HK.out HF.out, rfl⟩

end Go.Proofs.YtlegeancmcmbaaaDoor

/- Arguments, opened: what can be read as data of a type reads as our shape. -/
namespace Go.Proofs.YtlegeancmcmbaaaDoor
open Go.ChangeShapes Go.WideShapes Go.RowKit

section
variable {H : Type} {enc : TypeId × Value → H} {P : Program} {w : World} {base : Nat} {spare : Nat → Bool} {held : Bool}

def Opens (enc : TypeId × Value → H) (P : Program) (w : World) (base : Nat) (spare : Nat → Bool) (held : Bool) (t : TypeId) {α : Type} (S : Shape α) : Prop :=
 ∀ fuel cs x, DataW.trod enc P w base spare held fuel t cs = some x → ∃ d fp, S.R w cs d fp

theorem opens_str {t : TypeId} (ht : P.underlying t = some .string) : Opens enc P w base spare held t sStr := by
 intro fuel cs x h
 obtain ⟨s, rfl, _, hs⟩ := DataW.trod_string ht h
 exact ⟨s, [], rfl, hs, rfl⟩

theorem opens_bool {t : TypeId} (ht : P.underlying t = some .bool) : Opens enc P w base spare held t sBool := by
 intro fuel cs x h
 obtain ⟨b, rfl, _⟩ := DataW.trod_bool ht h
 exact ⟨b, [], rfl, trivial, rfl⟩

theorem opens_int {t : TypeId} (ht : P.underlying t = some (.int .i64)) : Opens enc P w base spare held t sInt := by
 intro fuel cs x h
 obtain ⟨n, rfl, _, hw⟩ := DataW.trod_int ht h
 have : -9223372036854775808 ≤ n ∧ n ≤ 9223372036854775807 := by simpa [Lit.wf, IntKind.min, IntKind.max, IntKind.signed, IntKind.bits] using hw
 exact ⟨n, [], rfl, this, rfl⟩

theorem opens_byte {t : TypeId} (ht : P.underlying t = some (.int .u8)) : Opens enc P w base spare held t sByte := by
 intro fuel cs x h
 obtain ⟨n, rfl, _, hw⟩ := DataW.trod_int ht h
 have : 0 ≤ n ∧ n ≤ 255 := by simpa [Lit.wf, IntKind.min, IntKind.max, IntKind.signed, IntKind.bits] using hw
 refine ⟨UInt8.ofNat n.toNat, [], ?_, trivial, rfl⟩
 show [Value.int .u8 n] = [Value.int .u8 ((UInt8.ofNat n.toNat).toNat : Int)]
 rw [UInt8.toNat_ofNat_of_lt' (by simp [UInt8.size]; omega)]
 congr 2; omega

theorem addr_add (b off n : Nat) : Addr.add ⟨b, off, none⟩ n = ⟨b, off + n, none⟩ := by
 unfold Addr.add; split
 ·rename_i h; subst h; rfl
 ·rfl

theorem opens_slice {t e : TypeId} {α : Type} {S : Shape α} (ht : P.underlying t = some (.slice e)) (hm : P.cellsOf e = S.m) (h0 : 0 < S.m) (he : Opens enc P w base spare held e S) : Opens enc P w base spare held t (sSlice S) := by
 intro fuel cs x h
 rcases DataW.trod_slice ht h with ⟨rfl, _⟩ | ⟨a, len, cap, elems, rest, n, _, rfl, _, hb, hl, hc, hlen, hel, _, _⟩
 ·exact ⟨[], [], none, 0, rfl, by simp, by simp, .inl ⟨rfl, rfl⟩⟩
 ·have each : ∀ i, i < len → ∃ es d fp, (es.length = S.m ∧ ∀ j, j < S.m → w.cell? (a.add (i * S.m + j)) = es[j]?) ∧ S.R w es d fp := by
   intro i hi
   have h1 := hel i hi
   rw [List.getElem?_eq_getElem (by omega), Option.bind_eq_some_iff] at h1
   obtain ⟨es, h2, h3⟩ := h1
   rw [hm] at h2
   obtain ⟨_, h4, h5⟩ := World.cells?_some h2
   obtain ⟨d, fp, h6⟩ := he _ _ _ h3
   refine ⟨es, d, fp, ⟨h4, fun j hj => ?_⟩, h6⟩
   rw [← h5 j hj, Go.Deep.add_add]
  by_cases hz : len = 0
  ·subst hz
   exact ⟨[], [], some a, cap, rfl, hl, hc, .inl ⟨rfl, rfl⟩⟩
  ·have hsp : a.spot = none := by
    obtain ⟨es, d, fp, ⟨h1, h2⟩, _⟩ := each 0 (by omega)
    have h3 := h2 0 h0
    rw [List.getElem?_eq_getElem (by omega)] at h3
    have e0 : a.add (0 * S.m + 0) = a := by simp [Addr.add]
    rw [e0] at h3
    unfold World.cell? at h3
    split at h3
    ·split at h3
     ·simp at h3
     ·rename_i hh; simpa using hh
    ·simp at h3
   obtain ⟨b, off, sp⟩ := a
   simp at hsp
   subst hsp
   have hblk : b < w.heap.size := by
    obtain ⟨es, d, fp, ⟨h1, h2⟩, _⟩ := each 0 (by omega)
    have h3 := h2 0 h0
    rw [List.getElem?_eq_getElem (by omega), addr_add] at h3
    exact World.block_lt_of_cell? w _ h3
   have hch : ∀ i : Nat, ∃ y : α × List Nat, i < len → ∃ es, ElemAt w b off S.m i es ∧ S.R w es y.1 y.2 := by
    intro i
    by_cases hi : i < len
    ·obtain ⟨es, d, fp, ⟨h1, h2⟩, h3⟩ := each i hi
     refine ⟨(d, fp), fun _ => ⟨es, ⟨h1, fun j hj => ?_⟩, h3⟩⟩
     rw [← h2 j hj, addr_add, Nat.add_assoc]
    ·obtain ⟨es, d, fp, _, _⟩ := each 0 (by omega)
     exact ⟨(d, fp), fun h => absurd h hi⟩
   let Y := fun i => Classical.choose (hch i)
   have hY : ∀ i, i < len → ∃ es, ElemAt w b off S.m i es ∧ S.R w es (Y i).1 (Y i).2 := fun i hi => Classical.choose_spec (hch i) hi
   have hL : ((List.range len).map fun i => (Y i).1).length = len := by simp
   refine ⟨(List.range len).map fun i => (Y i).1, b :: (List.range len).flatMap fun i => (Y i).2, some ⟨b, off, none⟩, cap, by rw [hL], by rw [hL]; exact hl, hc, .inr ⟨by rw [hL]; omega, b, off, fun i => (Y i).2, rfl, by rw [hL], hblk, fun i hi => ?_⟩⟩
   rw [hL] at hi
   obtain ⟨es, h1, h2⟩ := hY i hi
   exact ⟨es, h1, by simpa using h2⟩

theorem open_arg {t : TypeId} {α : Type} {S : Shape α} {v : Value} {d : DataW H} {p : List MemPlace} (ho : Opens enc P w base spare held t S) (h : DataW.Trod enc P w base spare held t v d p) : ∃ x fp, S.R w v.cells.toList x fp := by
 obtain ⟨fuel, hf⟩ := h
 exact ho fuel _ _ hf
end

end Go.Proofs.YtlegeancmcmbaaaDoor

/- Rows of structs: elements of several cells. Over any program. -/
namespace Go.Proofs.YtlegeancmcmbaaaDoor
open Go.RowKit

theorem wp_append_cells {P : Program} {t e : TypeId} {z : Value} {size bytes : Nat} (ti : TI P t e z size bytes) (hzs : z.cells.size = size) (h0 : 0 < size) (w0 : World) (xs : List Value) (x : List Value) (hxl : x.length = size) (hx1 : ∀ u ∈ x, u.oneCell' = true) {ops : Array Oper} {rest : List Oper} {o : Oper} {a : Act} {Q : Exit → Act → World → Prop}
  (hg : o.guard = none) (s y : Operand) (ho : o.op = .call { callee := .builtin .append, args := #[s, y], argTypes := #[t, t] })
  (base : Nat) (v : Value) (n : Nat) (hs : a.eval s = v) (hown : w0.ownsRow base e size v n xs)
  (hy : a.eval y = .slice (some ⟨w0.heap.size, 0, none⟩) 1 1)
  (h63 : n + 1 ≤ maxLen) (hbytes : (n + 1) * bytes ≤ 140737488355328) (hbase : base ≤ w0.heap.size)
  (h : ∀ v' w', w'.ownsRow base e size v' (n + 1) (xs ++ x) → w0.grownBy w' v.ownBlock → wpList P ops Q rest (a.put o.dst v') w') : wpList P ops Q (o :: rest) a (w0.alloc (.cells x.toArray e)) := by
 obtain ⟨i, hi, hz0, hz1, hz2⟩ := info_parts ti.2
 refine wpList_append_own _ hg s y t ho base e i z size bytes ti.1 hi hz0 hz1 hz2 hzs h0 v n xs hs (hown.alloc _) ⟨w0.heap.size, 0, none⟩ 1 1 x hy (by omega) ?_ hx1 h63 hbytes (by simp; omega) fun v' w' a b _ => h v' w' a (grown_trans (World.grownBy_alloc _ _ _) b)
 intro j u hj
 rw [addr_add, Nat.zero_add]
 rw [World.cell?_alloc_at _ _ _ _ rfl]
 simpa using hj

theorem flatMap_at {α : Type} {f : α → List Value} {m : Nat} : ∀ {L : List α} (_ : ∀ x ∈ L, (f x).length = m) {i : Nat} (hi : i < L.length) {j : Nat} (_ : j < m), (L.flatMap f)[i * m + j]? = (f L[i])[j]?
 | [], _, i, hi, _, _ => by simp at hi
 |
  x :: L, hL, 0, _, j, hj => by
  rw [List.flatMap_cons, List.getElem?_append_left (by rw [hL x (by simp)]; omega)]
  simp
 |
  x :: L, hL, i + 1, hi, j, hj => by
  have hx := hL x (by simp)
  have e : (i + 1) * m + j = m + (i * m + j) := by rw [Nat.succ_mul]; omega
  rw [List.flatMap_cons, List.getElem?_append_right (by rw [hx, e]; omega), hx, e, Nat.add_sub_cancel_left]
  exact flatMap_at (fun y hy => hL y (by simp [hy])) (by simpa using hi) hj
theorem flatMap_len {α : Type} {f : α → List Value} {m : Nat} : ∀ {L : List α}, (∀ x ∈ L, (f x).length = m) → (L.flatMap f).length = L.length * m
 | [], _ => by simp
 | x :: L, hL => by rw [List.flatMap_cons, List.length_append, hL x (by simp), flatMap_len (fun y hy => hL y (by simp [hy])), List.length_cons, Nat.succ_mul, Nat.add_comm]

structure Elem (α : Type) where
 cells : List Value
 d : α
 fp : List Nat

theorem flat_range {L : List (List Nat)} : (List.range L.length).flatMap (fun i => L.getD i []) = L.flatten := by
 have : (List.range L.length).map (fun i => L.getD i []) = L := by
  apply List.ext_getElem (by simp)
  intro i h1 h2
  simp [List.getD_eq_getElem?_getD, List.getElem?_eq_getElem h2]
 rw [List.flatMap_def, this]

theorem slice_of_row {α : Type} {S : Shape α} {w : World} {base e : Nat} {v : Value} {L : List (Elem α)} (h : w.ownsRow base e S.m v L.length (L.flatMap (·.cells))) (hR : ∀ x ∈ L, x.cells.length = S.m ∧ S.R w x.cells x.d x.fp) :
  ∃ fp, (sSlice S).R w [v] (L.map (·.d)) fp ∧ (∀ b ∈ fp, v.ownBlock = some b ∨ b ∈ L.flatMap (·.fp)) ∧
   (Own w base (L.flatMap (·.fp)) → (∀ g, v.ownBlock = some g → g ∉ L.flatMap (·.fp)) → Own w base fp) := by
 by_cases h0 : L = []
 ·subst h0
  rcases h.2 with ⟨rfl, _⟩ | ⟨g, cap, cur, rfl, hb, hg, hnc, hcm, hcs, htake⟩
  ·exact ⟨[], ⟨none, 0, rfl, by simp, by simp, .inl ⟨rfl, rfl⟩⟩, by simp, fun _ _ => Own.nil _ _⟩
  ·exact ⟨[], ⟨_, cap, rfl, by simp, hcm, .inl ⟨rfl, rfl⟩⟩, by simp, fun _ _ => Own.nil _ _⟩
 ·have hpos : 0 < L.length := List.length_pos_iff.2 h0
  rcases h.2 with ⟨_, h1⟩ | ⟨g, cap, cur, rfl, hb, hg, hnc, hcm, hcs, htake⟩
  ·omega
  ·have hlt : g < w.heap.size := (Array.getElem?_eq_some_iff.1 hg).1
   have e1 : (List.range L.length).flatMap (fun i => (L.map (·.fp)).getD i []) = L.flatMap (·.fp) := by
    have := flat_range (L := L.map (·.fp))
    rw [List.length_map] at this
    rw [this, List.flatMap_def]
   refine ⟨g :: L.flatMap (·.fp), ⟨_, cap, by simp, by simpa using hnc, hcm, .inr ⟨by simpa using hpos, g, 0, fun i => (L.map (·.fp)).getD i [], rfl, by rw [List.length_map, e1], hlt, fun i hi => ?_⟩⟩, ?_, ?_⟩
   ·have hi' : i < L.length := by simpa using hi
    have hx := hR L[i] (List.getElem_mem hi')
    refine ⟨L[i].cells, ⟨hx.1, fun j hj => ?_⟩, ?_⟩
    ·rw [Nat.zero_add, h.cellAt (i * S.m + j) (by have : (i + 1) * S.m ≤ L.length * S.m := Nat.mul_le_mul_right _ hi'; rw [Nat.succ_mul] at this; omega)]
     exact flatMap_at (f := Elem.cells) (fun x hx => (hR x hx).1) hi' hj
    ·have e2 : (L.map (·.fp)).getD i [] = L[i].fp := by simp [List.getD_eq_getElem?_getD, List.getElem?_eq_getElem hi']
     show S.R w L[i].cells (L.map (·.d))[i] ((L.map (·.fp)).getD i [])
     rw [e2]
     simpa using hx.2
   ·intro b hb'
    rcases List.mem_cons.1 hb' with rfl | hb'
    ·exact .inl rfl
    ·exact .inr hb'
   ·intro ho hn
    exact ⟨List.nodup_cons.2 ⟨hn g rfl, ho.1⟩, fun b hb' => by
     rcases List.mem_cons.1 hb' with rfl | hb'
     ·exact ⟨hb, cur, e, hg⟩
     ·exact ho.2 b hb'⟩

theorem open_rows {α : Type} {S : Shape α} {w : World} {v : Value} {l : List α} {fp : List Nat} (H : (sSlice S).R w [v] l fp) :
  ∃ a cap, v = .slice a l.length cap ∧ l.length ≤ cap ∧ cap ≤ maxLen ∧ (0 < l.length → ∃ b off fps, a = some ⟨b, off, none⟩ ∧ b < w.heap.size ∧ fp = b :: (List.range l.length).flatMap fps ∧ ∀ i, (hi : i < l.length) → ∃ es, ElemAt w b off S.m i es ∧ S.R w es l[i] (fps i)) := by
 obtain ⟨a, cap, hv, hc, hm, h⟩ := H
 refine ⟨a, cap, by simpa using hv, hc, hm, fun h0 => ?_⟩
 rcases h with ⟨rfl, _⟩ | ⟨_, b, off, fps, rfl, rfl, hb, he⟩
 ·simp at h0
 ·exact ⟨b, off, fps, rfl, hb, rfl, he⟩

theorem row_upd {α : Type} {S : Shape α} {w w' : World} {b off n cap : Nat} {l : List α} {fps : Nat → List Nat} (hn : l.length = n) (hc : n ≤ cap) (hm : cap ≤ maxLen) (h0 : 0 < n)
  (he : ∀ i, (hi : i < l.length) → ∃ es, ElemAt w b off S.m i es ∧ S.R w es l[i] (fps i)) {i : Nat} {d : α} {es' : List Value}
  (hb : b < w'.heap.size) (hcell : ∀ j k, j < n → j ≠ i → k < S.m → w'.cell? ⟨b, off + j * S.m + k, none⟩ = w.cell? ⟨b, off + j * S.m + k, none⟩)
  (hother : ∀ j, j < n → j ≠ i → ∀ x ∈ fps j, w'.heap[x]? = w.heap[x]?)
  (hi' : ElemAt w' b off S.m i es') (hR : S.R w' es' d (fps i)) :
  (sSlice S).R w' [.slice (some ⟨b, off, none⟩) n cap] (l.set i d) (b :: (List.range n).flatMap fps) := by
 subst hn
 refine ⟨_, cap, by simp, by simpa using hc, hm, .inr ⟨by simpa using h0, b, off, fps, rfl, by simp, hb, fun j hj => ?_⟩⟩
 have hj' : j < l.length := by simpa using hj
 by_cases e : j = i
 ·subst e
  rw [List.getElem_set_self]
  exact ⟨es', hi', hR⟩
 ·obtain ⟨es, h1, h2⟩ := he j hj'
  rw [List.getElem_set_ne (fun h => e h.symm)]
  exact ⟨es, ⟨h1.1, fun k hk => (hcell j k hj' e hk).trans (h1.2 k hk)⟩, S.frame (hother j hj' e) h2⟩

end Go.Proofs.YtlegeancmcmbaaaDoor

/- Tokens in memory. -/
namespace Go.Proofs.YtlegeancmcmbaaaDoor
open Go.RowKit Go.ChangeShapes Go.WideShapes Go.Deep Go.Joins

def sTok : Shape Tok where
 m := 4
 R w cs d fp := ∃ h, cs = [.int .i64 d.kind, .string d.text, .bool d.spaced, h] ∧ okInt d.kind ∧ okStr d.text ∧ (sSlice sStr).R w [h] d.hidden fp
 frame := by
  rintro w w' cs d fp hf ⟨h, h1, h2, h3, h4⟩
  exact ⟨h, h1, h2, h3, (sSlice sStr).frame hf h4⟩
 lt := by
  rintro w cs d fp ⟨h, h1, h2, h3, h4⟩
  exact (sSlice sStr).lt h4

theorem ti_tok : TI Tryd.prog 28 47 (.agg #[.int .i64 0, .string ⟨#[]⟩, .bool false, .slice none 0 0]) 4 56 := ⟨by kernel_rfl, by kernel_rfl⟩

def freshCells (t : Tok) : List Value := [.int .i64 t.kind, .string t.text, .bool t.spaced, .slice none 0 0]
def TokRow (base : Nat) (v : Value) (l : List Tok) (w : World) : Prop := w.ownsRow base 47 4 v l.length (l.flatMap freshCells)
theorem TokRow.nil (base : Nat) (w : World) : TokRow base (.slice none 0 0) [] w := World.ownsRow_nil _ _ _ _
theorem TokRow.drew {base : Nat} {v : Value} {l : List Tok} {w : World} (h : TokRow base v l w) (n : Nat) : TokRow base v l (w.drewN n) := h
theorem TokRow.slice {base : Nat} {v : Value} {l : List Tok} {w : World} (h : TokRow base v l w) : ∃ a cap, v = .slice a l.length cap ∧ cap ≤ maxLen := by
 rcases h.2 with ⟨rfl, h0⟩ | ⟨g, cap, cur, rfl, _, _, _, hc, _⟩
 ·exact ⟨none, 0, by rw [h0], by simp⟩
 ·exact ⟨_, cap, rfl, hc⟩
theorem TokRow.mine {base : Nat} {v : Value} {l : List Tok} {w : World} (h : TokRow base v l w) : ∀ b, v.ownBlock = some b → base ≤ b := fun b hb => (h.lt b hb).1
theorem wp_append_tok {w0 : World} {ops : Array Oper} {rest : List Oper} {o : Oper} {a : Act} {Q : Exit → Act → World → Prop} (hg : o.guard = none) (s y : Operand)
  (ho : o.op = .call { callee := .builtin .append, args := #[s, y], argTypes := #[28, 28] })
  (base : Nat) (v : Value) (l : List Tok) (k : Int) (x : ByteArray) (b : Bool) (hs : a.eval s = v) (hown : TokRow base v l w0) (hy : a.eval y = .slice (some ⟨w0.heap.size, 0, none⟩) 1 1) (h63 : l.length ≤ 1000000) (hbase : base ≤ w0.heap.size)
  (h : ∀ v' w', TokRow base v' (l ++ [⟨k, x, b, []⟩]) w' → w0.grownBy w' v.ownBlock → wpList Tryd.prog ops Q rest (a.put o.dst v') w') : wpList Tryd.prog ops Q (o :: rest) a (w0.alloc (.cells #[.int .i64 k, .string x, .bool b, .slice none 0 0] 47)) := by
 refine wp_append_cells ti_tok rfl (by decide) w0 (l.flatMap freshCells) [.int .i64 k, .string x, .bool b, .slice none 0 0] rfl (by simp [Value.oneCell']) hg s y ho base v l.length hs hown hy (by unfold maxLen; omega) (by omega) hbase fun v' w' h1 h2 => h v' w' ?_ h2
 unfold TokRow
 rw [List.length_append, List.flatMap_append]
 exact h1
theorem own_toks {w : World} {base : Nat} {v : Value} {l : List Tok} {B : Nat} (h : TokRow base v l w) (hf : Fresh B l) (hB : B ≤ 1000000) :
  ∃ fp, (sSlice sTok).R w [v] l fp ∧ Own w base fp ∧ ∀ b ∈ fp, v.ownBlock = some b := by
 have hL : (l.map fun t => (⟨freshCells t, t, []⟩ : Elem Tok)).flatMap (·.cells) = l.flatMap freshCells := by rw [List.flatMap_map]
 have hF : (l.map fun t => (⟨freshCells t, t, []⟩ : Elem Tok)).flatMap (·.fp) = [] := by rw [List.flatMap_map]; simp
 have hD : (l.map fun t => (⟨freshCells t, t, []⟩ : Elem Tok)).map (·.d) = l := by rw [List.map_map]; exact List.map_id _
 obtain ⟨fp, h1, h2, h3⟩ := slice_of_row (S := sTok) (w := w) (base := base) (e := 47) (v := v) (L := l.map fun t => ⟨freshCells t, t, []⟩) (by rw [hL, List.length_map]; exact h) (by
  intro x hx
  obtain ⟨t, ht, rfl⟩ := List.mem_map.1 hx
  obtain ⟨a1, a2, a3, a4⟩ := hf t ht
  have b1 : okInt t.kind := ⟨by omega, by omega⟩
  have b2 : okStr t.text := by unfold okStr maxLen; omega
  have b3 : (sSlice sStr).R w [.slice none 0 0] t.hidden [] := by rw [a2]; exact slice_empty sStr w none 0 (by simp)
  exact ⟨rfl, _, rfl, b1, b2, b3⟩)
 rw [hD] at h1
 rw [hF] at h2 h3
 exact ⟨fp, h1, h3 (Own.nil _ _) (by simp), fun b hb => by rcases h2 b hb with h | h; exact h; simp at h⟩

def TokMade (r : List Tok × Bool) (w : World) (e : Ending) (w' : World) : Prop :=
 ∃ v fp, e = .returned (.tuple #[v, .bool r.2]) ∧ (sSlice sTok).R w' [v] r.1 fp ∧ Own w' w.heap.size fp ∧ Below w.heap.size w w'

section
variable {H : Type} {enc : TypeId × Value → H} {P : Program} {w : World} {base : Nat} {spare : Nat → Bool} {held : Bool}
theorem opens_tok {t : TypeId} {f0 f1 f2 f3 : Field} (hs : P.underlying t = some (.struct #[f0, f1, f2, f3])) (hone : oneCellFields P #[f0, f1, f2, f3] = true) (hC : P.cellsOf t = 4)
  (h0 : Opens enc P w base spare held f0.type sInt) (h1 : Opens enc P w base spare held f1.type sStr) (h2 : Opens enc P w base spare held f2.type sBool) (h3 : Opens enc P w base spare held f3.type (sSlice sStr)) : Opens enc P w base spare held t sTok := by
 intro fuel cs x h
 obtain ⟨xs, n, _, hx, hcl, hlen, hg⟩ := DataW.trod_struct hs h
 rw [hC] at hcl
 match cs, hcl with
 |
  [c0, c1, c2, c3], _ =>
  obtain ⟨o0, k0⟩ := hone_of hone 0 f0 rfl
  obtain ⟨o1, k1⟩ := hone_of hone 1 f1 rfl
  obtain ⟨o2, k2⟩ := hone_of hone 2 f2 rfl
  obtain ⟨o3, k3⟩ := hone_of hone 3 f3 rfl
  have g0 := hg 0 f0 rfl
  have g1 := hg 1 f1 rfl
  have g2 := hg 2 f2 rfl
  have g3 := hg 3 f3 rfl
  rw [o0, k0] at g0; rw [o1, k1] at g1; rw [o2, k2] at g2; rw [o3, k3] at g3
  match xs, hlen with
  |
   [y0, y1, y2, y3], _ =>
   obtain ⟨d0, p0, hc0, hok0, rfl⟩ := h0 n _ _ g0
   obtain ⟨d1, p1, hc1, hok1, rfl⟩ := h1 n _ _ g1
   obtain ⟨d2, p2, hc2, _, rfl⟩ := h2 n _ _ g2
   obtain ⟨d3, p3, hc3⟩ := h3 n _ _ g3
   simp at hc0 hc1 hc2 hc3
   subst hc0; subst hc1; subst hc2
   exact ⟨⟨d0, d1, d2, d3⟩, p3, c3, rfl, hok0, hok1, hc3⟩
end

end Go.Proofs.YtlegeancmcmbaaaDoor
