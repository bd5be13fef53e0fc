/- Texts that the proof of U stands on, in one file. -/
import Derived.Test.YtlegeancmcmbaaaDoorZU2
import Derived.Test.YtlegeancmcmbaaaDoorZU3
import Derived.Test.YtlegeancmcmbaaaDoorZU5
import Derived.Deep.RegionHeld3
import Derived.Deep.QuietTactic
import Derived.BigQuiet
import Derived.Outline
import Derived.StillTailTactics
import Derived.Deep.Fields
import Derived.ChangeSame
import Derived.Test.YtlegeancmcmbaaaDoorZU15
import Derived.Test.YtlegeancmcmbaaaDoorZU9
import Derived.Test.YtlegeancmcmbaaaDoorZU7
import Derived.Test.YtlegeancmcmbaaaDoorZU1
import Derived.Test.YtlegeancmcmbaaaDoorZU13
import Derived.Test.YtlegeancmcmbaaaDoorZU12
import Derived.Test.YtlegeancmcmbaaaDoorZU11
import Derived.Test.YtlegeancmcmbaaaDoorZU8
import Derived.Test.YtlegeancmcmbaaaDoorZU4
set_option linter.unusedVariables false
set_option linter.unusedSimpArgs false
/- Directive: its shape, and the law's own helpers. (Made by rec.py.) -/
namespace Go.Proofs.YtlegeancmcmbaaaDoor
open Go.RowKit Go.ChangeShapes Go.WideShapes Go.Deep

structure DDirective where
 kind : Int
 rest : List Tok
def sDirective : Shape DDirective where
 m := 2
 R w cs d fp := ∃ (h1 : Value), cs = [.int .i64 d.kind, h1] ∧ okInt d.kind ∧ (sSlice sTok).R w [h1] d.rest fp
 frame := by
  rintro w w' cs d fp hf ⟨h1, rfl, k0, K1⟩
  exact ⟨h1, rfl, k0, (sSlice sTok).frame (fun b hb => hf b hb) K1⟩
 lt := by
  rintro w cs d fp ⟨h1, rfl, k0, K1⟩ b hb
  exact (sSlice sTok).lt K1 b hb
section
variable {H : Type} {enc : TypeId × Value → H} {P : Program} {w : World} {base : Nat} {spare : Nat → Bool} {held : Bool}
end
section
variable {H : Type} {enc : TypeId × Value → H} {w : World} {base : Nat} {spare : Nat → Bool} {held : Bool}
end
set_option maxHeartbeats 8000000 in
set_option maxRecDepth 100000 in
theorem eqDirective_same (cs1 cs2 : List Value) (x : DDirective) (fp1 fp2 : List Nat) (w : World) (H1 : sDirective.R w cs1 x fp1) (H2 : sDirective.R w cs2 x fp2) :
  Calls Tryd.prog 21 #[.agg cs1.toArray, .agg cs2.toArray] w fun e w' => e = .returned (.bool true) ∧ Below w.heap.size w w' := by
 obtain ⟨h1, rfl, -, K1⟩ := H1
 obtain ⟨g1, rfl, -, L1⟩ := H2
 have b0 := alloc_below' w (.cells #[.int .i64 x.kind, h1] 30)
 have b1 := b0.trans ((alloc_below' (w.alloc (.cells #[.int .i64 x.kind, h1] 30)) (.cells #[.int .i64 x.kind, g1] 30)).mono b0.size)
 have HC1 : Hid (∀ W, Below w.heap.size w W → Calls Tryd.prog 22 #[h1, g1] W fun e w' => e = .returned (.bool true) ∧ Below W.heap.size W w') := fun W hb => eqTokenS_same h1 g1 x.rest _ _ W ((sSlice sTok).below K1 hb) ((sSlice sTok).below L1 hb)
 have e0 : (x.kind != x.kind) = false := by simp
 go_enter Tryd.func21, Tryd.ntmps21
 go_wp2_with fail
 refine (HC1.out _ b1).mono ?_
 rintro e w1 ⟨rfl, c1⟩
 have d1 := b1.trans (c1.mono b1.size)
 go_wp2
 go_ret
 exact ⟨rfl, d1⟩

def cntVDirective (x : DDirective) : Nat := cntTokenS x.rest
def mkVDirective (k : Int) (x : DDirective) : DDirective := ⟨x.kind, (mkTokenS (k) x.rest)⟩
end Go.Proofs.YtlegeancmcmbaaaDoor

/- DirectiveOf and ReadDirective of the model, as the exact laws call them. -/
namespace Go.Proofs.YtlegeancmcmbaaaDoor
open Go.RowKit

def toD (r : (Int × List Tok) × Bool) : DDirective × Bool := (⟨r.1.1, r.1.2⟩, r.2)
def dirD (l : List Tok) : DDirective × Bool := toD (dirRes l)
def readD (s : ByteArray) : DDirective × Bool := toD (readDir s)
def RetDirD (r : DDirective × Bool) (w : World) (e : Ending) (w' : World) : Prop :=
 ∃ (cs : List Value) (fp : List Nat), e = .returned (.tuple #[.agg cs.toArray, .bool r.2]) ∧ sDirective.R w' cs r.1 fp ∧ (∀ b ∈ fp, w.heap.size ≤ b) ∧ Below w.heap.size w w'
def MineDirD (r : DDirective × Bool) (w : World) (e : Ending) (w' : World) : Prop :=
 ∃ (cs : List Value) (fp : List Nat), e = .returned (.tuple #[.agg cs.toArray, .bool r.2]) ∧ sDirective.R w' cs r.1 fp ∧ Own w' w.heap.size fp ∧ Below w.heap.size w w'
theorem kindAt_le (x : List UInt8) : ∀ (d k : Nat), 11 - k ≤ d → kindAt x k ≤ 10 := by
 intro d
 induction d with
 | zero => intro k h; rw [kindAt_out (by omega)]; omega
 |
  succ d ih =>
  intro k h
  by_cases hk : k ≤ 10
  ·by_cases hx : x = kindTx k
   ·rw [kindAt_hit hk hx]; exact hk
   ·rw [kindAt_next hk hx]; exact ih (k + 1) (by omega)
  ·rw [kindAt_out hk]; omega
theorem dir_small (l : List Tok) : (0 ≤ (dirRes l).1.1 ∧ (dirRes l).1.1 ≤ 10) ∧ ((dirRes l).1.2 = [] ∨ (toksOk l = true ∧ (dirRes l).1.2 = l.drop 2)) := by
 unfold dirRes
 split
 ·rename_i hv
  split
  ·split
   ·split
    ·refine ⟨⟨?_, ?_⟩, .inr ⟨hv, rfl⟩⟩
     ·show (0 : Int) ≤ ((kindAt _ 1 : Nat) : Int)
      omega
     ·show ((kindAt _ 1 : Nat) : Int) ≤ 10
      have := kindAt_le (l[1]'(by assumption)).text.toList 11 1 (by omega)
      omega
    ·exact ⟨⟨by decide, by decide⟩, .inl rfl⟩
   ·exact ⟨⟨by decide, by decide⟩, .inl rfl⟩
  ·exact ⟨⟨by decide, by decide⟩, .inl rfl⟩
 ·exact ⟨⟨by decide, by decide⟩, .inl rfl⟩
theorem read_small (s : ByteArray) : ∃ l, (0 ≤ (readDir s).1.1 ∧ (readDir s).1.1 ≤ 10) ∧ ((readDir s).1.2 = [] ∨ (toksOk l = true ∧ (readDir s).1.2 = l.drop 2)) := by
 unfold readDir
 split
 ·exact ⟨_, dir_small _⟩
 ·exact ⟨[], ⟨by decide, by decide⟩, .inl rfl⟩
theorem cntD_at : ∀ {l : List Tok}, (∀ t ∈ l, t.hidden.length ≤ 60) → cntTokenS l ≤ 63 * l.length
 | [], _ => Nat.le_refl _
 |
  t :: r, h => by
  have h1 := h t (by simp)
  have h2 := cntD_at (l := r) fun u hu => h u (by simp [hu])
  have e : cntTokenS (t :: r) = (3 + t.hidden.length) + cntTokenS r := rfl
  rw [e, List.length_cons, Nat.mul_add, Nat.mul_one]
  omega
theorem rest_cnt {l r : List Tok} (h : r = [] ∨ (toksOk l = true ∧ r = l.drop 2)) : cntTokenS r ≤ 310000 := by
 rcases h with rfl | ⟨hv, rfl⟩
 ·exact Nat.zero_le _
 ·have h1 := (toksOk_facts hv).1
  have h2 : ∀ t ∈ l.drop 2, t.hidden.length ≤ 60 := fun t ht => by
   obtain ⟨k, hk, rfl⟩ := List.getElem_of_mem (List.mem_of_mem_drop ht)
   exact tok_hidOkD ((toksOk_facts hv).2 k hk)
  have h3 := cntD_at h2
  rw [List.length_drop] at h3
  omega
theorem DirectiveOf_cnt (l : List Tok) : cntVDirective (dirD l).1 ≤ 310000 := rest_cnt (dir_small l).2
theorem ReadDirective_cnt (s : ByteArray) : cntVDirective (readD s).1 ≤ 310000 := by
 obtain ⟨l, -, h⟩ := read_small s
 exact rest_cnt h
theorem ret_toD {r : (Int × List Tok) × Bool} {w : World} (h0 : 0 ≤ r.1.1) (h1 : r.1.1 ≤ 10) {e : Ending} {w' : World} (h : RetDir r w e w') : RetDirD (toD r) w e w' := by
 obtain ⟨v, fp, rfl, hR, hf, hb⟩ := h
 exact ⟨[.int .i64 r.1.1, v], fp, rfl, ⟨v, rfl, (show okInt r.1.1 from ⟨by omega, by omega⟩), hR⟩, hf, hb⟩
theorem spec_DirectiveOf_w (v : Value) (l : List Tok) (fp : List Nat) (w : World) (hl : wtTokenS l ≤ 1048576) (H : (sSlice sTok).R w [v] l fp) :
  Calls Tryd.prog 18 #[v] w (RetDirD (dirD l) w) := (spec_DirectiveOf v l fp w (wtTokenS_len hl) (wtTokenS_hid hl) H).mono fun _ _ h => ret_toD (dir_small l).1.1 (dir_small l).1.2 h
theorem spec_ReadDirective_w (s : ByteArray) (w : World) (hs : okStr s) :
  Calls Tryd.prog 15 #[.string s] w (RetDirD (readD s) w) := (spec_ReadDirective s w hs).mono fun _ _ h => by
 obtain ⟨l, h1, -⟩ := read_small s
 exact ret_toD h1.1 h1.2 h

end Go.Proofs.YtlegeancmcmbaaaDoor

/- A directive by value: its marks. -/
namespace Go.Proofs.YtlegeancmcmbaaaDoor
open Go.RowKit

theorem ret_intD {a b : Int} (h : a = b) : Ending.returned (.int .i64 a) = .returned (.int .i64 b) := by rw [h]
set_option maxHeartbeats 4000000 in
set_option maxRecDepth 100000 in
theorem markDirective (cs : List Value) (x : DDirective) (fp : List Nat) (lo : Nat) (k : Int) (w : World) (h0 : 0 ≤ k) (h1 : k + cntVDirective x ≤ 2305843009213693952) (H : sDirective.R w cs x fp) (O : Own w lo fp) :
  Calls Tryd.prog 24 #[.agg cs.toArray, .int .i64 k] w (MarkedC sDirective cs (mkVDirective k x) fp lo (k + cntVDirective x) w) := by
 obtain ⟨h3, rfl, k0, K3⟩ := H
 unfold cntVDirective at h1 ⊢
 have K3' := K3
 obtain ⟨a3, cap3, rfl, -⟩ := open_rows K3'
 clear K3'
 have hb0 := alloc_below' w (.cells #[.int .i64 x.kind, .slice a3 x.rest.length cap3] 30)
 go_enter Tryd.func24, Tryd.ntmps24
 go_wp2_with fail
 refine (markTokenS _ _ _ lo _ _ h0 (by omega) ((sSlice sTok).below K3 hb0) (O.grow hb0)).mono ?_
 rintro e w2 ⟨rfl, R4, P4, hk3⟩
 have hk : Kept fp w w2 := (Kept.of_below hb0).trans hk3
 clear K3 O hk3 hb0
 go_wp2
 go_ret
 exact ⟨ret_intD (by omega), ⟨_, rfl, k0, R4⟩, P4, hk⟩

set_option maxHeartbeats 4000000 in
set_option maxRecDepth 100000 in
theorem heldDirective (cs : List Value) (x : DDirective) (fp : List Nat) (k : Int) (w : World) (h0 : 0 ≤ k) (h1 : k + cntVDirective x ≤ 2305843009213693952) (H : sDirective.R w cs (mkVDirective k x) fp) :
  Calls Tryd.prog 25 #[.agg cs.toArray, .int .i64 k] w fun e w' => e = .returned (.int .i64 (k + cntVDirective x)) ∧ Below w.heap.size w w' := by
 obtain ⟨h3, rfl, k0, K3⟩ := H
 unfold cntVDirective at h1 ⊢
 have hb0 := alloc_below' w (.cells #[.int .i64 x.kind, h3] 30)
 have K3' : (sSlice sTok).R w [h3] (mkTokenS k x.rest) fp := K3
 clear K3
 have HC := Lib.hid (fun (W : World) (hW : Below w.heap.size w W) => heldTokenS _ _ _ _ W h0 (by omega) ((sSlice sTok).below K3' hW))
 go_enter Tryd.func25, Tryd.ntmps25
 go_wp2_with fail
 refine (HC.out _ hb0).mono ?_
 rintro e w2 ⟨rfl, hb2⟩
 go_wp2
 go_ret
 exact ⟨ret_intD (by omega), hb0.trans (hb2.mono hb0.size)⟩

end Go.Proofs.YtlegeancmcmbaaaDoor

/- StripComments of the program. -/
namespace Go.Proofs.YtlegeancmcmbaaaDoor
open Go.RowKit

theorem go_pre (s : ByteArray) (k : Nat) (a b : UInt8) (w : World) :
  Calls Tryd.prog 55 #[.string (s.extract k s.size), .string ⟨#[a, b]⟩] w fun e w' => e = .returned (.bool (two s k a b)) ∧ w' = w := by
 have := Tryd.strings_HasPrefix (s.extract k s.size) ⟨#[a, b]⟩ w
 rw [show Lib.hasPrefix (s.extract k s.size).data.toList (⟨#[a, b]⟩ : ByteArray).data.toList = two s k a b from pre_two s k a b] at this
 exact this
theorem go_idx (s : ByteArray) (k : Nat) (m : Int) (w : World) (hs : s.size ≤ 1000000) (hm : w.cell? ⟨1, 0, none⟩ = some (.int .i64 m)) :
  Calls Tryd.prog 76 #[.string (s.extract k s.size), .string ⟨#[42, 47]⟩] w fun e w' => e = .returned (.int .i64 (Lib.index (s.data.toList.drop k) [42, 47])) ∧ w' = w := by
 have := Tryd.strings_Index (s.extract k s.size) ⟨#[42, 47]⟩ m w (by rw [ByteArray.size_extract]; omega) hm
 rw [show Lib.index (s.extract k s.size).data.toList (⟨#[42, 47]⟩ : ByteArray).data.toList = Lib.index (s.data.toList.drop k) [42, 47] from by rw [ext_rest]] at this
 exact this

set_option maxHeartbeats 400000 in
set_option maxRecDepth 100000 in
theorem impl_behindComment (s : ByteArray) (k0 : Nat) (m : Int) (w : World) (hs : s.size ≤ 1000000) (hk0 : k0 + 2 ≤ s.size) (hm : w.cell? ⟨1, 0, none⟩ = some (.int .i64 m)) :
  Calls Tryd.prog 56 #[.string s, .int .i64 k0] w fun e w' => e = .returned (.int .i64 (cEnd s (k0 + 2))) ∧ w' = w := by
 have hx : (((k0 : Int) + 2).toNat) = k0 + 2 := by omega
 have hroom : Hid (0 ≤ Lib.index (s.data.toList.drop (k0 + 2)) [42, 47] → Lib.index (s.data.toList.drop (k0 + 2)) [42, 47] ≤ 1000000) := fun h => by
  have := index_room _ h
  have e : s.data.toList.length = s.size := Array.length_toList
  simp only [List.length_cons, List.length_nil, List.length_drop] at this
  omega
 have hge : Hid (-1 ≤ Lib.index (s.data.toList.drop (k0 + 2)) [42, 47]) := Lib.index_ge _ _
 have HC : Hid (cEnd s (k0 + 2) = if Lib.index (s.data.toList.drop (k0 + 2)) [42, 47] < 0 then -1 else ((k0 + 2 : Nat) : Int) + Lib.index (s.data.toList.drop (k0 + 2)) [42, 47] + 2) := rfl
 have hcall := fun W (hm : W.cell? ⟨1, 0, none⟩ = some (.int .i64 m)) => go_idx s (k0 + 2) m W hs hm
 have HI := Lib.hid hcall
 clear hcall
 generalize Lib.index (s.data.toList.drop (k0 + 2)) [42, 47] = x at hroom hge HC HI
 by_cases hneg : x < 0
 ·have HF : Hid (cEnd s (k0 + 2) = -1) := by show _ = _; rw [HC.out, if_pos hneg]
  go_enter Tryd.func56, Tryd.ntmps56
  go_wp2_with (go_at_call 76; refine (HI.out _ hm).mono ?_; rintro e w' ⟨rfl, rfl⟩)
  go_ret
  exact ⟨ret_int (by have := HF.out; omega), rfl⟩
 ·have HF : Hid (cEnd s (k0 + 2) = (k0 : Int) + 2 + x + 2) := by show _ = _; rw [HC.out, if_neg hneg]; omega
  have h0 : 0 ≤ x := by omega
  have h1 : x ≤ 1000000 := hroom.out h0
  go_enter Tryd.func56, Tryd.ntmps56
  go_wp2_with (go_at_call 76; refine (HI.out _ hm).mono ?_; rintro e w' ⟨rfl, rfl⟩)
  go_ret
  exact ⟨ret_int (by have := HF.out; omega), rfl⟩

set_option maxHeartbeats 4000000 in
set_option maxRecDepth 100000 in
theorem impl_StripComments (s : ByteArray) (w : World) (hs : s.size ≤ maxLen) (hE : Env w) :
  Calls Tryd.prog 34 #[.string s] w fun e w' => e = .returned (.tuple #[.string (stripRes s).1, .bool (stripRes s).2]) ∧ Below w.heap.size w w' := by
 obtain ⟨m, hm⟩ := hE
 have hg : 1 < w.heap.size := World.block_lt_of_cell? w _ hm
 have hm2 := hs
 unfold maxLen at hm2
 cases h0 : lineOk s
 ·have HF := Lib.hid (stripRes_bad h0)
  go_enter Tryd.func34, Tryd.ntmps34
  go_wp2_with (go_at_call 31; refine (impl_LineValid _ _ hs).mono ?_; rw [h0]; rintro e w' ⟨rfl, rfl⟩)
  go_ret2
  exact ⟨ret_two HF.out, Below.refl _ _⟩
 have hsz := lineOk_size h0
 have H0 := Lib.hid h0
 have HM := Lib.hid hm
 clear hm
 go_enter Tryd.func34, Tryd.ntmps34
 go_wp2_with (go_at_call 31; refine (impl_LineValid _ _ hs).mono ?_; rw [h0]; rintro e w' ⟨rfl, rfl⟩)
 clear h0
 go_loopw [4, 5] (fun o i wr => ∃ (k : Nat) (out : ByteArray), k ≤ s.size ∧ i = .int .i64 k ∧ At1 s k out ∧ Bytes w.heap.size o out wr ∧ Below w.heap.size w wr) (fun _ i _ => s.size - (intOf i).toNat)
 case atStart => exact ⟨0, ⟨#[]⟩, by omega, rfl, At1.zero s, Bytes.none _ _, Below.refl _ _⟩
 case round =>
  obtain ⟨k, out, hk, rfl, hat, hown, hbel⟩ := hrel
  have ho : out.size ≤ 200 := by have := hat.2; omega
  have hmx := (hbel.cell (p := ⟨1, 0, none⟩) hg).trans HM.out
  have hcv := run_own_string hown
  have hk1 : (k : Int) ≤ (s.size : Int) := by omega
  have hbs := hbel.size
  by_cases hlt : k < s.size
  ·have hw := ways hat hlt
   clear hat
   rcases hw with ⟨h1, HF⟩ | ⟨h1, h2, h3, HF⟩ | ⟨c, h1, h2, h3, h4, h5, HN⟩ | ⟨c, h1, h2, h3, h6, h4, h5, HN⟩ | ⟨h1, h2, h3, HN⟩
   ·have HR := Lib.hid (stripRes_some H0.out HF.out)
    go_wp2_with (go_at_call 55; refine (go_pre s k 47 47 _).mono ?_; rw [h1]; rintro e w' ⟨rfl, rfl⟩)
    go_ret2
    exact ⟨ret_two HR.out, hbel⟩
   ·have HR := Lib.hid (stripRes_none HF.out)
    have hr := two_room h2
    go_wp2_with (first
     | (go_at_call 55; first | (refine (go_pre s k 47 47 _).mono ?_; rw [h1]; rintro e w' ⟨rfl, rfl⟩) | (refine (go_pre s k 47 42 _).mono ?_; rw [h2]; rintro e w' ⟨rfl, rfl⟩))
     | (go_at_call 56; refine (impl_behindComment s k m _ (by omega) (by omega) hmx).mono ?_; rintro e w' ⟨rfl, rfl⟩))
    go_ret2
    exact ⟨ret_two HR.out, hbel⟩
   ·have hr := two_room h2
    go_wp2_with (first
     | (go_at_call 55; first | (refine (go_pre s k 47 47 _).mono ?_; rw [h1]; rintro e w' ⟨rfl, rfl⟩) | (refine (go_pre s k 47 42 _).mono ?_; rw [h2]; rintro e w' ⟨rfl, rfl⟩))
     | (go_at_call 56; refine (impl_behindComment s k m _ (by omega) (by omega) hmx).mono ?_; rw [h3]; rintro e w' ⟨rfl, rfl⟩)
     | (at_builtin; refine wp_append_byte rfl (.tmp 40) (.tmp 41) rfl w.heap.size _ out ⟨#[32]⟩ 32 rfl hown rfl rfl (by omega) hbs ?_; intro v1 w1 hown1 hg1))
    have hbel1 := hbel.grown hg1 hbs (fun b hb => (hown.lt b hb).1)
    go_roundw
    case rel => exact ⟨c, _, h5, rfl, HN.out, hown1, hbel1⟩
    case measure => simp [intOf]; omega
   ·have hsl2 := fun W => (run_cut s (k : Int) (c : Int) k c rfl rfl (by omega) (by omega) W)
    have hes : (s.extract k c).size ≤ 200 := by rw [ByteArray.size_extract]; omega
    go_wp2_with (first
     | (go_at_call 55; first | (refine (go_pre s k 47 47 _).mono ?_; rw [h1]; rintro e w' ⟨rfl, rfl⟩) | (refine (go_pre s k 47 42 _).mono ?_; rw [h2]; rintro e w' ⟨rfl, rfl⟩))
     | (go_at_call 57; refine (impl_behindText s k _ (by omega) (by omega)).mono ?_; rw [h6]; rintro e w' ⟨rfl, rfl⟩)
     | (at_builtin; refine wp_append_str rfl (.tmp 52) (.tmp 56) rfl w.heap.size _ out (s.extract k c) rfl hown rfl (by omega) hbs ?_; intro v1 w1 hown1 hg1))
    have hbel1 := hbel.grown hg1 hbs (fun b hb => (hown.lt b hb).1)
    go_roundw
    case rel => exact ⟨c, _, h5, rfl, HN.out, hown1, hbel1⟩
    case measure => simp [intOf]; omega
   ·have hb1 := strCells_at s k hlt
    go_wp2_with (first
     | (go_at_call 55; first | (refine (go_pre s k 47 47 _).mono ?_; rw [h1]; rintro e w' ⟨rfl, rfl⟩) | (refine (go_pre s k 47 42 _).mono ?_; rw [h2]; rintro e w' ⟨rfl, rfl⟩))
     | (at_builtin; refine wp_append_byte rfl (.tmp 15) (.tmp 19) rfl w.heap.size _ out (s.extract k (k + 1)) _ rfl hown rfl hb1 (by omega) hbs ?_; intro v1 w1 hown1 hg1))
    have hbel1 := hbel.grown hg1 hbs (fun b hb => (hown.lt b hb).1)
    go_roundw
    case rel => exact ⟨k + 1, _, by omega, by go_num, HN.out, hown1, hbel1⟩
    case measure => simp [intOf]; omega
  ·have HF := Lib.hid (stripRes_some H0.out (hat.done (by omega)))
   clear hat
   go_wp2
   go_ret2
   exact ⟨ret_two HF.out, hbel⟩

end Go.Proofs.YtlegeancmcmbaaaDoor

/- Of the model: how strongly a mark binds. -/
namespace Go.Proofs.YtlegeancmcmbaaaDoor
open Go.RowKit

def rowsM : List (List (List UInt8)) := [[[124, 124]], [[38, 38]], [[61, 61], [33, 61]], [[60], [62], [60, 61], [62, 61]], [[43], [45]], [[42], [47], [37]]]
def rowM (k : Nat) : List (List UInt8) := rowsM.getD k []
def mkM (k j : Nat) : List UInt8 := (rowM k).getD j []
structure RowsIn (n : Nat) (w : World) : Prop where
 tab : w.heap[n + 7]? = some (.cells #[.slice (some ⟨n + 1, 0, none⟩) 1 1, .slice (some ⟨n + 2, 0, none⟩) 1 1, .slice (some ⟨n + 3, 0, none⟩) 2 2, .slice (some ⟨n + 4, 0, none⟩) 4 4, .slice (some ⟨n + 5, 0, none⟩) 2 2, .slice (some ⟨n + 6, 0, none⟩) 3 3] 45 (0, 0))
 row : ∀ k, (hk : k < 6) → ∃ arr, w.heap[n + 1 + k]? = some (.cells arr 9 (0, 0)) ∧ ∀ j, j < (rowM k).length → arr[j]? = some (.string ⟨(mkM k j).toArray⟩)
theorem RowsIn.below {n : Nat} {w w' : World} (h : RowsIn n w) (hb : Below w.heap.size w w') : RowsIn n w' :=
 ⟨mbox h.tab hb, fun k hk => by obtain ⟨arr, h1, h2⟩ := h.row k hk; exact ⟨arr, mbox h1 hb, h2⟩⟩
end Go.Proofs.YtlegeancmcmbaaaDoor

/- Of the model: a mark between two values. (Made by gen_val5.py.) -/
namespace Go.Proofs.YtlegeancmcmbaaaDoor
open Go.RowKit
theorem toL_eq {x : ByteArray} {l : List UInt8} (h : x.toList = l) : x = ⟨l.toArray⟩ := by
 rw [ByteArray.toList_eq] at h
 subst h
 simp
end Go.Proofs.YtlegeancmcmbaaaDoor

/- Values: what the text of a valid token says of its kind. No program. -/
namespace Go.Proofs.YtlegeancmcmbaaaDoor
open Go.RowKit

theorem vk_head {t : Tok} (h : tokOk t = true) {c : UInt8} {l : List UInt8} (e : t.text.toList = c :: l) : t.kind = cutKind c := by
 have e2 := toL_eq e
 obtain ⟨h0, hk⟩ := (tokOk_facts h).1
 obtain ⟨k, x, s, hd⟩ := t
 obtain rfl : x = ⟨(c :: l).toArray⟩ := e2
 exact hk
theorem isMk_eq {t : Tok} (h : tokOk t = true) {c : UInt8} (hc : cutKind c = 4) : isMk t [c] = (t.text.toList == [c]) := by
 unfold isMk
 cases e : (t.text.toList == [c])
 ·rw [Bool.and_false]
 ·rw [vk_head h (beq_iff_eq.1 e), hc]; rfl
end Go.Proofs.YtlegeancmcmbaaaDoor

/- DirectiveOf and ReadDirective of the program. (Made by gen_doi1.py.) -/
namespace Go.Proofs.YtlegeancmcmbaaaDoor
open Go.RowKit

def MineDir (r : (Int × List Tok) × Bool) (w : World) (e : Ending) (w' : World) : Prop :=
 ∃ (v : Value) (fp : List Nat), e = .returned (.tuple #[.agg #[.int .i64 r.1.1, v], .bool r.2]) ∧ (sSlice sTok).R w' [v] r.1.2 fp ∧ Own w' w.heap.size fp ∧ Below w.heap.size w w'
theorem mineDir_no {r : (Int × List Tok) × Bool} {c : Bool} {w W : World} (h : r = ((0, []), c)) (hb : Below w.heap.size w W) : MineDir r w (.returned (.tuple #[.agg #[.int .i64 0, .slice none 0 0], .bool c])) W :=
 ⟨_, [], by rw [h], by rw [h]; exact slice_empty _ _ _ _ (by simp), Own.nil _ _, hb⟩
theorem kindAt_some {x : List UInt8} : ∀ (d k : Nat), 11 - k ≤ d → 1 ≤ k → kindAt x k ≠ 0 → ∃ j, 1 ≤ j ∧ j < 11 ∧ x = kindTx j := by
 intro d
 induction d with
 | zero => intro k h _ h0; exact absurd (kindAt_out (by omega)) h0
 |
  succ d ih =>
  intro k h h1 h0
  by_cases hk : k ≤ 10
  ·by_cases hx : x = kindTx k
   ·exact ⟨k, h1, by omega, hx⟩
   ·rw [kindAt_next hk hx] at h0; exact ih (k + 1) (by omega) (by omega) h0
  ·exact absurd (kindAt_out hk) h0
theorem kind_letters : ∀ j, j < 11 → 1 ≤ j → ∃ c l, kindTx j = c :: l ∧ cutKind c = 1 := by
 intro j hj h1
 have : j = 1 ∨ j = 2 ∨ j = 3 ∨ j = 4 ∨ j = 5 ∨ j = 6 ∨ j = 7 ∨ j = 8 ∨ j = 9 ∨ j = 10 := by omega
 rcases this with rfl | rfl | rfl | rfl | rfl | rfl | rfl | rfl | rfl | rfl <;> exact ⟨_, _, rfl, by decide⟩
theorem kind_nameD {t : Tok} (h : tokOk t = true) (h0 : kindAt t.text.toList 1 ≠ 0) : t.kind = 1 := by
 obtain ⟨j, h1, h2, hx⟩ := kindAt_some 11 1 (by omega) (by omega) h0
 obtain ⟨c, l, hc, hk⟩ := kind_letters j h2 h1
 rw [vk_head h (hx.trans hc), hk]

set_option maxHeartbeats 16000000 in
set_option maxRecDepth 100000 in
theorem impl_DirectiveOf (v : Value) (l : List Tok) (fp : List Nat) (w : World) (hE : KE w) (H : (sSlice sTok).R w [v] l fp) :
  Calls Tryd.prog 20 #[v] w (MineDir (dirRes l) w) := by
 have hz0 := alloc_below' w (.cells #[.int .i64 0, .slice none 0 0] 30)
 have HZ0 := Lib.hid (heap_alloc_new w (.cells #[.int .i64 0, .slice none 0 0] 30))
 have hs0 : (w.alloc (.cells #[.int .i64 0, .slice none 0 0] 30)).heap.size = w.heap.size + 1 := Array.size_push _
 have HL1 := Lib.hid ((sSlice sTok).below H hz0)
 have HV := Lib.hid (impl_TokensValid v l fp _ HL1.out)
 have HEE := Lib.hid hE
 obtain ⟨a, cap, rfl, hc, hm, hrow⟩ := open_rows H
 unfold maxLen at hm
 have HROW : Hid (0 < l.length → ∃ bb ob, a = some ⟨bb, ob, none⟩) := fun h => by obtain ⟨b, o, -, e, -⟩ := hrow h; exact ⟨b, o, e⟩
 clear H hrow hE
 go_enter Tryd.func20, Tryd.ntmps20
 go_wp2_with fail
 refine HV.out.mono ?_
 rintro e w2 ⟨rfl, hb2⟩
 have hB2 := hz0.trans (hb2.mono hz0.size)
 have HS2 : Hid (w.heap.size + 1 ≤ w2.heap.size) := by have := hb2.size; show _ ≤ _; omega
 have HZ2 := Lib.hid (mbox HZ0.out hb2)
 have HL2 := Lib.hid ((sSlice sTok).below HL1.out hb2)
 clear HV HZ0 HL1 hb2 hz0 hs0
 cases hv : toksOk l
 ·have HF := Lib.hid (dir_bad hv)
  clear hv
  have z0 : w2.cell? ⟨w.heap.size, 0, none⟩ = some (.int .i64 0) := cell_of_row _ _ 0 _ _ _ HZ2.out
  have zf0 : w2.frozen? ⟨w.heap.size, 0, none⟩ = false := frozen_of_row _ _ 0 _ _ HZ2.out
  have z1 : w2.cell? ⟨w.heap.size, 1, none⟩ = some (.slice none 0 0) := cell_of_row _ _ 1 _ _ _ HZ2.out
  have zf1 : w2.frozen? ⟨w.heap.size, 1, none⟩ = false := frozen_of_row _ _ 1 _ _ HZ2.out
  have HS := Lib.hid (blk_set (blk_set HZ2.out 0 (.int .i64 0)) 1 (.slice none 0 0))
  have HBF := Lib.hid ((hB2.setCell (p := ⟨w.heap.size, 0, none⟩) (Nat.le_refl _) (.int .i64 0)).setCell (p := ⟨w.heap.size, 1, none⟩) (Nat.le_refl _) (.slice none 0 0))
  go_wp2
  refine bodyPost_ret (results_cell2 rfl _ _ w.heap.size _ _ _ _ rfl HS.out Tryd.underlying30 rfl (by kernel_rfl)) rfl ?_
  exact mineDir_no HF.out HBF.out
 have HVV := Lib.hid hv
 have hl60 := (toksOk_facts hv).1
 have HOK := Lib.hid (fun j (hj : j < l.length) => (toksOk_facts hv).2 j hj)
 clear hv
 by_cases h0 : 0 < l.length
 rotate_left
 ·have HF := Lib.hid (dir_plain HVV.out (mkD_out h0))
  have hz1 : ((l.length : Int) == 0) = true := by
   have : l.length = 0 := by omega
   rw [this]; rfl
  clear h0
  have z0 : w2.cell? ⟨w.heap.size, 0, none⟩ = some (.int .i64 0) := cell_of_row _ _ 0 _ _ _ HZ2.out
  have zf0 : w2.frozen? ⟨w.heap.size, 0, none⟩ = false := frozen_of_row _ _ 0 _ _ HZ2.out
  have z1 : w2.cell? ⟨w.heap.size, 1, none⟩ = some (.slice none 0 0) := cell_of_row _ _ 1 _ _ _ HZ2.out
  have zf1 : w2.frozen? ⟨w.heap.size, 1, none⟩ = false := frozen_of_row _ _ 1 _ _ HZ2.out
  have HS := Lib.hid (blk_set (blk_set HZ2.out 0 (.int .i64 0)) 1 (.slice none 0 0))
  have HBF := Lib.hid ((hB2.setCell (p := ⟨w.heap.size, 0, none⟩) (Nat.le_refl _) (.int .i64 0)).setCell (p := ⟨w.heap.size, 1, none⟩) (Nat.le_refl _) (.slice none 0 0))
  go_wp2
  refine bodyPost_ret (results_cell2 rfl _ _ w.heap.size _ _ _ _ rfl HS.out Tryd.underlying30 rfl (by kernel_rfl)) rfl ?_
  exact mineDir_no HF.out HBF.out
 have hz1 : ((l.length : Int) == 0) = false := beq_eq_false_iff_ne.2 (by omega)
 obtain ⟨b1, o1, rfl⟩ := HROW.out h0
 obtain ⟨xa, xc, xf, x0, x1, x2, x3, xR, hbb, -⟩ := tok_at HL2.out (j := 0) h0
 have HMK : Hid ((l[0].text.toList == [35]) = mkAt l 0 [35]) := by show _ = _; rw [mkD_in h0, isMk_eq (HOK.out 0 h0) (by decide)]
 obtain ⟨tz, HTZ⟩ : ∃ tz : Tok, Hid (tz = l[0]) := ⟨_, Lib.hid rfl⟩
 rw [show l[0] = tz from HTZ.out.symm] at x0 x1 x2 x3 HMK
 have i1 : (0 : Int) < (l.length : Int) := by omega
 simp only [Nat.zero_mul, Nat.add_zero] at x0 x1 x2 x3
 clear xR x0 x2 x3
 cases hm0 : mkAt l 0 [35]
 ·have HF := Lib.hid (dir_plain HVV.out hm0)
  rw [hm0] at HMK
  have e1 := HMK.out
  have e2 : (tz.text.toList != [35]) = true := by unfold bne; rw [e1]; rfl
  clear hm0 hbb
  have z0 : w2.cell? ⟨w.heap.size, 0, none⟩ = some (.int .i64 0) := cell_of_row _ _ 0 _ _ _ HZ2.out
  have zf0 : w2.frozen? ⟨w.heap.size, 0, none⟩ = false := frozen_of_row _ _ 0 _ _ HZ2.out
  have z1 : w2.cell? ⟨w.heap.size, 1, none⟩ = some (.slice none 0 0) := cell_of_row _ _ 1 _ _ _ HZ2.out
  have zf1 : w2.frozen? ⟨w.heap.size, 1, none⟩ = false := frozen_of_row _ _ 1 _ _ HZ2.out
  have HS := Lib.hid (blk_set (blk_set HZ2.out 0 (.int .i64 0)) 1 (.slice none 0 0))
  have HBF := Lib.hid ((hB2.setCell (p := ⟨w.heap.size, 0, none⟩) (Nat.le_refl _) (.int .i64 0)).setCell (p := ⟨w.heap.size, 1, none⟩) (Nat.le_refl _) (.slice none 0 0))
  go_wp2
  refine bodyPost_ret (results_cell2 rfl _ _ w.heap.size _ _ _ _ rfl HS.out Tryd.underlying30 rfl (by kernel_rfl)) rfl ?_
  exact mineDir_no HF.out HBF.out
 rw [hm0] at HMK
 have HM0 := Lib.hid hm0
 have e1 := HMK.out
 have e2 : (tz.text.toList != [35]) = false := by unfold bne; rw [e1]; rfl
 clear hm0
 by_cases h1 : 1 < l.length
 rotate_left
 ·have HF := Lib.hid (dir_one HVV.out HM0.out h1)
  have j1 : ((l.length : Int) == 1) = true := beq_iff_eq.2 (by omega)
  clear h1 hbb
  have z0 : w2.cell? ⟨w.heap.size, 0, none⟩ = some (.int .i64 0) := cell_of_row _ _ 0 _ _ _ HZ2.out
  have zf0 : w2.frozen? ⟨w.heap.size, 0, none⟩ = false := frozen_of_row _ _ 0 _ _ HZ2.out
  have z1 : w2.cell? ⟨w.heap.size, 1, none⟩ = some (.slice none 0 0) := cell_of_row _ _ 1 _ _ _ HZ2.out
  have zf1 : w2.frozen? ⟨w.heap.size, 1, none⟩ = false := frozen_of_row _ _ 1 _ _ HZ2.out
  have HS := Lib.hid (blk_set (blk_set HZ2.out 0 (.int .i64 0)) 1 (.slice none 0 0))
  have HBF := Lib.hid ((hB2.setCell (p := ⟨w.heap.size, 0, none⟩) (Nat.le_refl _) (.int .i64 0)).setCell (p := ⟨w.heap.size, 1, none⟩) (Nat.le_refl _) (.slice none 0 0))
  go_wp2
  refine bodyPost_ret (results_cell2 rfl _ _ w.heap.size _ _ _ _ rfl HS.out Tryd.underlying30 rfl (by kernel_rfl)) rfl ?_
  exact mineDir_no HF.out HBF.out
 have HH1 := Lib.hid h1
 have j1 : ((l.length : Int) == 1) = false := beq_eq_false_iff_ne.2 (by omega)
 have j2 : (1 : Int) < (l.length : Int) := by omega
 obtain ⟨ya, yc, yf, y0, y1, y2, y3, yR, -, -⟩ := tok_at HL2.out (j := 1) h1
 obtain ⟨tk, HTK⟩ : ∃ tk : Tok, Hid (tk = l[1]) := ⟨_, Lib.hid rfl⟩
 rw [show l[1] = tk from HTK.out.symm] at y0 y1 y2 y3 yR
 simp only [Nat.one_mul] at y0 y1 y2 y3
 have HY : Hid (∀ Q : World, Below w2.heap.size w2 Q → Q.cell? ⟨b1, o1 + 4 + 1, none⟩ = some (.string tk.text)) := fun Q hQ => (hQ.cell (p := ⟨b1, o1 + 4 + 1, none⟩) hbb).trans y1
 have HKO := Lib.hid (fun (Q : World) (hQ : Below w2.heap.size w2 Q) => impl_kindOf tk.text Q ((HEE.out.below hB2 (Nat.le_refl _)).below hQ (Nat.le_refl _)))
 have HKL := Lib.hid (kindAt_le tk.text.toList 11 1 (by omega))
 have HKN : Hid (kindAt tk.text.toList 1 ≠ 0 → l[1].kind = 1) := fun h => kind_nameD (HOK.out 1 h1) (by rw [← HTK.out]; exact h)
 have HKE : Hid (kindAt l[1].text.toList 1 = kindAt tk.text.toList 1) := by show _ = _; rw [HTK.out]
 obtain ⟨K, HK⟩ : ∃ K : Nat, Hid (K = kindAt tk.text.toList 1) := ⟨_, Lib.hid rfl⟩
 rw [show kindAt tk.text.toList 1 = K from HK.out.symm] at HKO HKL HKN HKE
 have hKL := HKL.out
 have HHX : Hid (∀ j, (hj : j < (l.drop 2).length) → (l.drop 2)[j].hidden.length ≤ 2000000) := fun j hj => by
  rw [List.getElem_drop]
  have := tok_hidOkD (HOK.out (2 + j) (by rw [List.length_drop] at hj; omega))
  omega
 obtain ⟨fd, RD, hfd⟩ := slice_drop 2 (by omega) HL2.out
 rw [Option.map_some, Addr.add_lit, show sTok.m = 4 from rfl] at RD
 have s2 : (2 : Int) ≤ (l.length : Int) := by omega
 have s3 : 2 ≤ l.length := by omega
 have s4 : 2 ≤ cap := by omega
 have s5 : (2 : Int) ≤ (cap : Int) := by omega
 have HRD := Lib.hid RD
 clear y0 y1 y2 y3 yR RD hfd HKL
 by_cases hcap : cap = 2
 ·subst hcap
  rw [if_pos rfl, show l.length - 2 = 0 by omega] at HRD
  go_upto_region 7 with fail
  have hcs : Below w2.heap.size w2 w2.drew := belowN (Below.refl _ _) 1
  refine wp_region_noPanic ?_
  refine wp_region_held_drew (S := fun w' => w'.cell? ⟨b1, o1 + 4 + 1, none⟩ = some (.string tk.text)) (by kernel_rfl) (by exact HY.out _ hcs) (fun hHeld => ?_)
  generalize hwd : w2.drew = wd at *
  refine takeH2 0 25 (v := ?_) rfl rfl (by kernel_rfl) (by kernel_rfl) (by kernel_rfl) (fun _ _ _ h => h) (by rfl) (by assumption) ?_ ?_
  rotate_left
  ·intro w hSw; go_simp; (first | done | with_reducible rfl | rfl)
  try simp only [Act.put, List.setIfInBounds_toArray, List.set_cons_zero, List.set_cons_succ]
  refine takeH2 1 26 (v := ?_) rfl rfl (by kernel_rfl) (by kernel_rfl) (by kernel_rfl) (fun _ _ _ h => h) (by rfl) (by assumption) ?_ ?_
  rotate_left
  ·intro w hSw; go_simp; (first | done | with_reducible rfl | rfl)
  try simp only [Act.put, List.setIfInBounds_toArray, List.set_cons_zero, List.set_cons_succ]
  refine takeH2 2 27 (v := ?_) rfl rfl (by kernel_rfl) (by kernel_rfl) (by kernel_rfl) (fun _ _ _ h => h) (by rfl) (by assumption) ?_ ?_
  rotate_left
  ·intro w hSw; go_simp; (first | done | with_reducible rfl | rfl)
  try simp only [Act.put, List.setIfInBounds_toArray, List.set_cons_zero, List.set_cons_succ]
  refine takeH2 3 28 (v := ?_) rfl rfl (by kernel_rfl) (by kernel_rfl) (by kernel_rfl) (fun _ _ _ h => h) (by rfl) (by assumption) ?_ ?_
  rotate_left
  ·intro w hSw; have y1 := hSw; go_simp; (first | done | with_reducible rfl | rfl)
  try simp only [Act.put, List.setIfInBounds_toArray, List.set_cons_zero, List.set_cons_succ]
  refine takeH2 5 30 (v := ?_) rfl rfl (by kernel_rfl) (by kernel_rfl) (by kernel_rfl) (fun _ _ _ h => h) (by rfl) (by assumption) ?_ ?_
  rotate_left
  ·intro w hSw; go_simp; (first | done | with_reducible rfl | rfl)
  try simp only [Act.put, List.setIfInBounds_toArray, List.set_cons_zero, List.set_cons_succ]
  refine takeH2 6 31 (v := ?_) rfl rfl (by kernel_rfl) (by kernel_rfl) (by kernel_rfl) (fun _ _ _ h => h) (by rfl) (by assumption) ?_ ?_
  rotate_left
  ·intro w hSw; go_simp; (first | done | with_reducible rfl | rfl)
  try simp only [Act.put, List.setIfInBounds_toArray, List.set_cons_zero, List.set_cons_succ]
  refine wpAnyH_ready (rs := [4]) (by kernel_rfl) (by simp) ?_
  refine AllReadyH.cons rfl (fun K hK => ?_) AllReadyH.nil
  go_simp
  refine (HKO.out wd hcs).mono ?_
  rintro e w5 ⟨rfl, hb5⟩
  have hx5 := hcs.trans (hb5.mono hcs.size)
  refine hK.out _ _ (HY.out _ hx5) (fun hHeld => ?_)
  clear hK K
  try simp only [Act.put, List.setIfInBounds_toArray, List.set_cons_zero, List.set_cons_succ]
  refine takeH2 7 4 (v := ?_) rfl rfl (by kernel_rfl) (by kernel_rfl) (by kernel_rfl) (fun _ _ _ h => h) (by rfl) (by assumption) ?_ ?_
  rotate_left
  ·intro w hSw; go_simp; (first | done | with_reducible rfl | rfl)
  try simp only [Act.put, List.setIfInBounds_toArray, List.set_cons_zero, List.set_cons_succ]
  refine takeH2 8 5 (v := ?_) rfl rfl (by kernel_rfl) (by kernel_rfl) (by kernel_rfl) (fun _ _ _ h => h) (by rfl) (by assumption) ?_ ?_
  rotate_left
  ·intro w hSw; go_simp; (first | done | with_reducible rfl | rfl)
  try simp only [Act.put, List.setIfInBounds_toArray, List.set_cons_zero, List.set_cons_succ]
  refine wpAnyH_done (by kernel_rfl) ?_ _
  refine NoPanic.normal ?_
  clear hHeld
  have hB5 := hB2.trans (hx5.mono hB2.size)
  have HZ5 := Lib.hid (mbox HZ2.out hx5)
  have HR5 := Lib.hid ((sSlice sTok).below HRD.out hx5)
  have HRF := Lib.hid (fun Q hQ => impl_restFits hKL _ (l.drop 2) fd Q (by rw [List.length_drop]; omega) ((sSlice sTok).below HR5.out hQ))
  have HCT := Lib.hid (fun (Q : World) (hQ : Below w5.heap.size w5 Q) => impl_copyTokens _ (l.drop 2) fd Q (by rw [List.length_drop]; omega) HHX.out ((sSlice sTok).below HR5.out hQ))
  have HS5 : Hid (w.heap.size + 1 ≤ w5.heap.size) := by have := hx5.size; have := HS2.out; show _ ≤ _; omega
  clear hx5 hb5 hwd hcs HZ2 HL2 HRD HKO HR5 s2 s3 s5
  cases hr : fitsR K (l.drop 2)
  ·have HF : Hid (dirRes l = ((0, []), false)) := dir_no HVV.out HM0.out HH1.out (fun h => by
    have hr1 : restOk K (l.drop 2) = true := (congrArg (fun q => restOk q (l.drop 2)) HKE.out).symm.trans h.2.2
    have hr2 : K ≠ 0 := fun e => h.2.1 (HKE.out.trans e)
    have h9 : fitsR K (l.drop 2) = true := by unfold fitsR; rw [hr1, decide_eq_true hr2]; rfl
    rw [hr] at h9; exact absurd h9 (by simp))
   rw [hr] at HRF
   clear hr HCT
   go_wp2_with fail
   refine (HRF.out _ (Below.refl _ _)).mono ?_
   rintro e w6 ⟨rfl, hb6⟩
   have hB6 := hB5.trans (hb6.mono hB5.size)
   have HZ6 := Lib.hid (mbox HZ5.out hb6)
   clear HRF hb6 HZ5
   have z0 : w6.cell? ⟨w.heap.size, 0, none⟩ = some (.int .i64 0) := cell_of_row _ _ 0 _ _ _ HZ6.out
   have zf0 : w6.frozen? ⟨w.heap.size, 0, none⟩ = false := frozen_of_row _ _ 0 _ _ HZ6.out
   have z1 : w6.cell? ⟨w.heap.size, 1, none⟩ = some (.slice none 0 0) := cell_of_row _ _ 1 _ _ _ HZ6.out
   have zf1 : w6.frozen? ⟨w.heap.size, 1, none⟩ = false := frozen_of_row _ _ 1 _ _ HZ6.out
   have HS := Lib.hid (blk_set (blk_set HZ6.out 0 (.int .i64 0)) 1 (.slice none 0 0))
   have HBF := Lib.hid ((hB6.setCell (p := ⟨w.heap.size, 0, none⟩) (Nat.le_refl _) (.int .i64 0)).setCell (p := ⟨w.heap.size, 1, none⟩) (Nat.le_refl _) (.slice none 0 0))
   go_wp2
   refine bodyPost_ret (results_cell2 rfl _ _ w.heap.size _ _ _ _ rfl HS.out Tryd.underlying30 rfl (by kernel_rfl)) rfl ?_
   exact mineDir_no HF.out HBF.out
  have HK0 : K ≠ 0 ∧ restOk K (l.drop 2) = true := by
   unfold fitsR at hr
   simpa using hr
  have HF := Lib.hid (dir_yes HVV.out HM0.out HH1.out (HKN.out HK0.1) HKE.out HK0.1 HK0.2)
  rw [hr] at HRF
  clear hr HK0
  go_wp2_with fail
  refine (HRF.out _ (Below.refl _ _)).mono ?_
  rintro e w6 ⟨rfl, hb6⟩
  have hB6 := hB5.trans (hb6.mono hB5.size)
  have HZ6 := Lib.hid (mbox HZ5.out hb6)
  have HC6 := Lib.hid (HCT.out w6 hb6)
  have HS6 : Hid (w.heap.size + 1 ≤ w6.heap.size) := by have := hb6.size; have := HS5.out; show _ ≤ _; omega
  clear HRF hb6 HZ5 HCT HS5 hB5
  go_wp2_with fail
  refine HC6.out.mono ?_
  rintro e w7 ⟨v7, f7, rfl, R7, O7, hb7⟩
  have hB7 := hB6.trans (hb7.mono hB6.size)
  have HZ7 := Lib.hid (mbox HZ6.out hb7)
  obtain ⟨a7, c7, rfl, -⟩ := open_rows R7
  obtain ⟨N, HN⟩ : ∃ N : Nat, Hid (N = (l.drop 2).length) := ⟨_, Lib.hid rfl⟩
  rw [show (l.drop 2).length = N from HN.out.symm] at R7 ⊢
  have hnf : w.heap.size ∉ f7 := fun h => by have := (O7.2 _ h).1; have := HS6.out; omega
  have HOF : Hid (Own w7 (w.heap.size + 1) f7) := O7.lower HS6.out
  have z0 : w7.cell? ⟨w.heap.size, 0, none⟩ = some (.int .i64 0) := cell_of_row _ _ 0 _ _ _ HZ7.out
  have zf0 : w7.frozen? ⟨w.heap.size, 0, none⟩ = false := frozen_of_row _ _ 0 _ _ HZ7.out
  have z1 : w7.cell? ⟨w.heap.size, 1, none⟩ = some (.slice none 0 0) := cell_of_row _ _ 1 _ _ _ HZ7.out
  have zf1 : w7.frozen? ⟨w.heap.size, 1, none⟩ = false := frozen_of_row _ _ 1 _ _ HZ7.out
  have HS := Lib.hid (blk_set (blk_set HZ7.out 0 (.int .i64 (K : Nat))) 1 (.slice a7 N c7))
  have HBF := Lib.hid ((hB7.setCell (p := ⟨w.heap.size, 0, none⟩) (Nat.le_refl _) (.int .i64 (K : Nat))).setCell (p := ⟨w.heap.size, 1, none⟩) (Nat.le_refl _) (.slice a7 N c7))
  have HRR := Lib.hid ((sSlice sTok).setB ((sSlice sTok).setB R7 hnf 0 (.int .i64 (K : Nat))) hnf 1 (.slice a7 N c7))
  have HOO : Hid (Own ((w7.setCell ⟨w.heap.size, 0, none⟩ (.int .i64 (K : Nat))).setCell ⟨w.heap.size, 1, none⟩ (.slice a7 N c7)) w.heap.size f7) := ((HOF.out.lower (Nat.le_succ _)).setCell _ _).setCell _ _
  clear R7 O7 hb7 HC6 hnf HOF
  go_wp2
  refine bodyPost_ret (results_cell2 rfl _ _ w.heap.size _ _ _ _ rfl HS.out Tryd.underlying30 rfl (by kernel_rfl)) rfl ?_
  exact ⟨.slice a7 N c7, f7, by rw [HF.out] <;> rfl, by rw [HF.out]; exact HRR.out, HOO.out, HBF.out⟩
 ·rw [if_neg hcap] at HRD
  go_upto_region 7 with fail
  have hcs : Below w2.heap.size w2 w2.drew := belowN (Below.refl _ _) 1
  refine wp_region_noPanic ?_
  refine wp_region_held_drew (S := fun w' => w'.cell? ⟨b1, o1 + 4 + 1, none⟩ = some (.string tk.text)) (by kernel_rfl) (by exact HY.out _ hcs) (fun hHeld => ?_)
  generalize hwd : w2.drew = wd at *
  refine takeH2 0 25 (v := ?_) rfl rfl (by kernel_rfl) (by kernel_rfl) (by kernel_rfl) (fun _ _ _ h => h) (by rfl) (by assumption) ?_ ?_
  rotate_left
  ·intro w hSw; go_simp; (first | done | with_reducible rfl | rfl)
  try simp only [Act.put, List.setIfInBounds_toArray, List.set_cons_zero, List.set_cons_succ]
  refine takeH2 1 26 (v := ?_) rfl rfl (by kernel_rfl) (by kernel_rfl) (by kernel_rfl) (fun _ _ _ h => h) (by rfl) (by assumption) ?_ ?_
  rotate_left
  ·intro w hSw; go_simp; (first | done | with_reducible rfl | rfl)
  try simp only [Act.put, List.setIfInBounds_toArray, List.set_cons_zero, List.set_cons_succ]
  refine takeH2 2 27 (v := ?_) rfl rfl (by kernel_rfl) (by kernel_rfl) (by kernel_rfl) (fun _ _ _ h => h) (by rfl) (by assumption) ?_ ?_
  rotate_left
  ·intro w hSw; go_simp; (first | done | with_reducible rfl | rfl)
  try simp only [Act.put, List.setIfInBounds_toArray, List.set_cons_zero, List.set_cons_succ]
  refine takeH2 3 28 (v := ?_) rfl rfl (by kernel_rfl) (by kernel_rfl) (by kernel_rfl) (fun _ _ _ h => h) (by rfl) (by assumption) ?_ ?_
  rotate_left
  ·intro w hSw; have y1 := hSw; go_simp; (first | done | with_reducible rfl | rfl)
  try simp only [Act.put, List.setIfInBounds_toArray, List.set_cons_zero, List.set_cons_succ]
  refine takeH2 5 30 (v := ?_) rfl rfl (by kernel_rfl) (by kernel_rfl) (by kernel_rfl) (fun _ _ _ h => h) (by rfl) (by assumption) ?_ ?_
  rotate_left
  ·intro w hSw; go_simp; (first | done | with_reducible rfl | rfl)
  try simp only [Act.put, List.setIfInBounds_toArray, List.set_cons_zero, List.set_cons_succ]
  refine takeH2 6 31 (v := ?_) rfl rfl (by kernel_rfl) (by kernel_rfl) (by kernel_rfl) (fun _ _ _ h => h) (by rfl) (by assumption) ?_ ?_
  rotate_left
  ·intro w hSw; go_simp; (first | done | with_reducible rfl | rfl)
  try simp only [Act.put, List.setIfInBounds_toArray, List.set_cons_zero, List.set_cons_succ]
  refine wpAnyH_ready (rs := [4]) (by kernel_rfl) (by simp) ?_
  refine AllReadyH.cons rfl (fun K hK => ?_) AllReadyH.nil
  go_simp
  refine (HKO.out wd hcs).mono ?_
  rintro e w5 ⟨rfl, hb5⟩
  have hx5 := hcs.trans (hb5.mono hcs.size)
  refine hK.out _ _ (HY.out _ hx5) (fun hHeld => ?_)
  clear hK K
  try simp only [Act.put, List.setIfInBounds_toArray, List.set_cons_zero, List.set_cons_succ]
  refine takeH2 7 4 (v := ?_) rfl rfl (by kernel_rfl) (by kernel_rfl) (by kernel_rfl) (fun _ _ _ h => h) (by rfl) (by assumption) ?_ ?_
  rotate_left
  ·intro w hSw; go_simp; (first | done | with_reducible rfl | rfl)
  try simp only [Act.put, List.setIfInBounds_toArray, List.set_cons_zero, List.set_cons_succ]
  refine takeH2 8 5 (v := ?_) rfl rfl (by kernel_rfl) (by kernel_rfl) (by kernel_rfl) (fun _ _ _ h => h) (by rfl) (by assumption) ?_ ?_
  rotate_left
  ·intro w hSw; go_simp; (first | done | with_reducible rfl | rfl)
  try simp only [Act.put, List.setIfInBounds_toArray, List.set_cons_zero, List.set_cons_succ]
  refine wpAnyH_done (by kernel_rfl) ?_ _
  refine NoPanic.normal ?_
  clear hHeld
  have hB5 := hB2.trans (hx5.mono hB2.size)
  have HZ5 := Lib.hid (mbox HZ2.out hx5)
  have HR5 := Lib.hid ((sSlice sTok).below HRD.out hx5)
  have HRF := Lib.hid (fun Q hQ => impl_restFits hKL _ (l.drop 2) fd Q (by rw [List.length_drop]; omega) ((sSlice sTok).below HR5.out hQ))
  have HCT := Lib.hid (fun (Q : World) (hQ : Below w5.heap.size w5 Q) => impl_copyTokens _ (l.drop 2) fd Q (by rw [List.length_drop]; omega) HHX.out ((sSlice sTok).below HR5.out hQ))
  have HS5 : Hid (w.heap.size + 1 ≤ w5.heap.size) := by have := hx5.size; have := HS2.out; show _ ≤ _; omega
  clear hx5 hb5 hwd hcs HZ2 HL2 HRD HKO HR5 s2 s3 s5
  cases hr : fitsR K (l.drop 2)
  ·have HF : Hid (dirRes l = ((0, []), false)) := dir_no HVV.out HM0.out HH1.out (fun h => by
    have hr1 : restOk K (l.drop 2) = true := (congrArg (fun q => restOk q (l.drop 2)) HKE.out).symm.trans h.2.2
    have hr2 : K ≠ 0 := fun e => h.2.1 (HKE.out.trans e)
    have h9 : fitsR K (l.drop 2) = true := by unfold fitsR; rw [hr1, decide_eq_true hr2]; rfl
    rw [hr] at h9; exact absurd h9 (by simp))
   rw [hr] at HRF
   clear hr HCT
   go_wp2_with fail
   refine (HRF.out _ (Below.refl _ _)).mono ?_
   rintro e w6 ⟨rfl, hb6⟩
   have hB6 := hB5.trans (hb6.mono hB5.size)
   have HZ6 := Lib.hid (mbox HZ5.out hb6)
   clear HRF hb6 HZ5
   have z0 : w6.cell? ⟨w.heap.size, 0, none⟩ = some (.int .i64 0) := cell_of_row _ _ 0 _ _ _ HZ6.out
   have zf0 : w6.frozen? ⟨w.heap.size, 0, none⟩ = false := frozen_of_row _ _ 0 _ _ HZ6.out
   have z1 : w6.cell? ⟨w.heap.size, 1, none⟩ = some (.slice none 0 0) := cell_of_row _ _ 1 _ _ _ HZ6.out
   have zf1 : w6.frozen? ⟨w.heap.size, 1, none⟩ = false := frozen_of_row _ _ 1 _ _ HZ6.out
   have HS := Lib.hid (blk_set (blk_set HZ6.out 0 (.int .i64 0)) 1 (.slice none 0 0))
   have HBF := Lib.hid ((hB6.setCell (p := ⟨w.heap.size, 0, none⟩) (Nat.le_refl _) (.int .i64 0)).setCell (p := ⟨w.heap.size, 1, none⟩) (Nat.le_refl _) (.slice none 0 0))
   go_wp2
   refine bodyPost_ret (results_cell2 rfl _ _ w.heap.size _ _ _ _ rfl HS.out Tryd.underlying30 rfl (by kernel_rfl)) rfl ?_
   exact mineDir_no HF.out HBF.out
  have HK0 : K ≠ 0 ∧ restOk K (l.drop 2) = true := by
   unfold fitsR at hr
   simpa using hr
  have HF := Lib.hid (dir_yes HVV.out HM0.out HH1.out (HKN.out HK0.1) HKE.out HK0.1 HK0.2)
  rw [hr] at HRF
  clear hr HK0
  go_wp2_with fail
  refine (HRF.out _ (Below.refl _ _)).mono ?_
  rintro e w6 ⟨rfl, hb6⟩
  have hB6 := hB5.trans (hb6.mono hB5.size)
  have HZ6 := Lib.hid (mbox HZ5.out hb6)
  have HC6 := Lib.hid (HCT.out w6 hb6)
  have HS6 : Hid (w.heap.size + 1 ≤ w6.heap.size) := by have := hb6.size; have := HS5.out; show _ ≤ _; omega
  clear HRF hb6 HZ5 HCT HS5 hB5
  go_wp2_with fail
  refine HC6.out.mono ?_
  rintro e w7 ⟨v7, f7, rfl, R7, O7, hb7⟩
  have hB7 := hB6.trans (hb7.mono hB6.size)
  have HZ7 := Lib.hid (mbox HZ6.out hb7)
  obtain ⟨a7, c7, rfl, -⟩ := open_rows R7
  obtain ⟨N, HN⟩ : ∃ N : Nat, Hid (N = (l.drop 2).length) := ⟨_, Lib.hid rfl⟩
  rw [show (l.drop 2).length = N from HN.out.symm] at R7 ⊢
  have hnf : w.heap.size ∉ f7 := fun h => by have := (O7.2 _ h).1; have := HS6.out; omega
  have HOF : Hid (Own w7 (w.heap.size + 1) f7) := O7.lower HS6.out
  have z0 : w7.cell? ⟨w.heap.size, 0, none⟩ = some (.int .i64 0) := cell_of_row _ _ 0 _ _ _ HZ7.out
  have zf0 : w7.frozen? ⟨w.heap.size, 0, none⟩ = false := frozen_of_row _ _ 0 _ _ HZ7.out
  have z1 : w7.cell? ⟨w.heap.size, 1, none⟩ = some (.slice none 0 0) := cell_of_row _ _ 1 _ _ _ HZ7.out
  have zf1 : w7.frozen? ⟨w.heap.size, 1, none⟩ = false := frozen_of_row _ _ 1 _ _ HZ7.out
  have HS := Lib.hid (blk_set (blk_set HZ7.out 0 (.int .i64 (K : Nat))) 1 (.slice a7 N c7))
  have HBF := Lib.hid ((hB7.setCell (p := ⟨w.heap.size, 0, none⟩) (Nat.le_refl _) (.int .i64 (K : Nat))).setCell (p := ⟨w.heap.size, 1, none⟩) (Nat.le_refl _) (.slice a7 N c7))
  have HRR := Lib.hid ((sSlice sTok).setB ((sSlice sTok).setB R7 hnf 0 (.int .i64 (K : Nat))) hnf 1 (.slice a7 N c7))
  have HOO : Hid (Own ((w7.setCell ⟨w.heap.size, 0, none⟩ (.int .i64 (K : Nat))).setCell ⟨w.heap.size, 1, none⟩ (.slice a7 N c7)) w.heap.size f7) := ((HOF.out.lower (Nat.le_succ _)).setCell _ _).setCell _ _
  clear R7 O7 hb7 HC6 hnf HOF
  go_wp2
  refine bodyPost_ret (results_cell2 rfl _ _ w.heap.size _ _ _ _ rfl HS.out Tryd.underlying30 rfl (by kernel_rfl)) rfl ?_
  exact ⟨.slice a7 N c7, f7, by rw [HF.out] <;> rfl, by rw [HF.out]; exact HRR.out, HOO.out, HBF.out⟩

set_option maxHeartbeats 16000000 in
set_option maxRecDepth 100000 in
theorem impl_ReadDirective (s : ByteArray) (w : World) (hs : s.size ≤ maxLen) (hE : KE w) : Calls Tryd.prog 14 #[.string s] w (MineDir (readDir s) w) := by
 have hz0 := alloc_below' w (.cells #[.int .i64 0, .slice none 0 0] 30)
 have HZ0 := Lib.hid (heap_alloc_new w (.cells #[.int .i64 0, .slice none 0 0] 30))
 have hs0 : (w.alloc (.cells #[.int .i64 0, .slice none 0 0] 30)).heap.size = w.heap.size + 1 := Array.size_push _
 have HC := Lib.hid (impl_StripComments s _ hs (hE.below hz0 (Nat.le_refl _)).1)
 have HEE := Lib.hid hE
 have hsz := strip_size (s := s)
 rcases hq : stripRes s with ⟨x, b⟩
 have HQ := Lib.hid hq
 rw [hq] at HC hsz
 try dsimp only at HC hsz
 clear hE
 go_enter Tryd.func14, Tryd.ntmps14
 go_wp2_with fail
 refine HC.out.mono ?_
 rintro e w1 ⟨rfl, hb1⟩
 have hB1 := hz0.trans (hb1.mono hz0.size)
 have HZ1 := Lib.hid (mbox HZ0.out hb1)
 have HS1 : Hid (w.heap.size + 1 ≤ w1.heap.size) := by have := hb1.size; show _ ≤ _; omega
 clear hz0 hs0 HZ0 HC hb1
 cases b
 ·have HF : Hid (readDir s = ((0, []), false)) := read_no (fun h => by rw [HQ.out] at h; exact absurd h.1 (by simp))
  clear hq
  have z0 : w1.cell? ⟨w.heap.size, 0, none⟩ = some (.int .i64 0) := cell_of_row _ _ 0 _ _ _ HZ1.out
  have zf0 : w1.frozen? ⟨w.heap.size, 0, none⟩ = false := frozen_of_row _ _ 0 _ _ HZ1.out
  have z1 : w1.cell? ⟨w.heap.size, 1, none⟩ = some (.slice none 0 0) := cell_of_row _ _ 1 _ _ _ HZ1.out
  have zf1 : w1.frozen? ⟨w.heap.size, 1, none⟩ = false := frozen_of_row _ _ 1 _ _ HZ1.out
  have HS := Lib.hid (blk_set (blk_set HZ1.out 0 (.int .i64 0)) 1 (.slice none 0 0))
  have HBF := Lib.hid ((hB1.setCell (p := ⟨w.heap.size, 0, none⟩) (Nat.le_refl _) (.int .i64 0)).setCell (p := ⟨w.heap.size, 1, none⟩) (Nat.le_refl _) (.slice none 0 0))
  go_wp2
  refine bodyPost_ret (results_cell2 rfl _ _ w.heap.size _ _ _ _ rfl HS.out Tryd.underlying30 rfl (by kernel_rfl)) rfl ?_
  exact mineDir_no HF.out HBF.out
 have HT := Lib.hid (impl_TokensOf x w1 (Nat.le_trans hsz hs))
 rcases ht : tokRes x with ⟨l, c⟩
 have HTK := Lib.hid ht
 unfold TokMade at HT
 rw [ht] at HT
 try dsimp only at HT
 clear hq ht hsz
 go_wp2_with fail
 refine HT.out.mono ?_
 rintro e w2 ⟨v2, f2, rfl, hR2, hO2, hb2⟩
 have hB2 := hB1.trans (hb2.mono hB1.size)
 have HZ2 := Lib.hid (mbox HZ1.out hb2)
 have HS2 : Hid (w.heap.size + 1 ≤ w2.heap.size) := by have := hb2.size; have := HS1.out; show _ ≤ _; omega
 obtain ⟨al, cl, rfl, -⟩ := open_rows hR2
 have HR2 := Lib.hid hR2
 clear hR2 hO2 hb2 HT HZ1 HS1 hB1
 cases c
 ·have HF : Hid (readDir s = ((0, []), false)) := read_no (fun h => by rw [HQ.out] at h; simp only at h; rw [HTK.out] at h; exact absurd h.2 (by simp))
  have z0 : w2.cell? ⟨w.heap.size, 0, none⟩ = some (.int .i64 0) := cell_of_row _ _ 0 _ _ _ HZ2.out
  have zf0 : w2.frozen? ⟨w.heap.size, 0, none⟩ = false := frozen_of_row _ _ 0 _ _ HZ2.out
  have z1 : w2.cell? ⟨w.heap.size, 1, none⟩ = some (.slice none 0 0) := cell_of_row _ _ 1 _ _ _ HZ2.out
  have zf1 : w2.frozen? ⟨w.heap.size, 1, none⟩ = false := frozen_of_row _ _ 1 _ _ HZ2.out
  have HS := Lib.hid (blk_set (blk_set HZ2.out 0 (.int .i64 0)) 1 (.slice none 0 0))
  have HBF := Lib.hid ((hB2.setCell (p := ⟨w.heap.size, 0, none⟩) (Nat.le_refl _) (.int .i64 0)).setCell (p := ⟨w.heap.size, 1, none⟩) (Nat.le_refl _) (.slice none 0 0))
  go_wp2
  refine bodyPost_ret (results_cell2 rfl _ _ w.heap.size _ _ _ _ rfl HS.out Tryd.underlying30 rfl (by kernel_rfl)) rfl ?_
  exact mineDir_no HF.out HBF.out
 have HF := Lib.hid (read_yes HQ.out HTK.out)
 have HD := Lib.hid (impl_DirectiveOf _ l f2 w2 (HEE.out.below hB2 (Nat.le_refl _)) HR2.out)
 rcases hd : dirRes l with ⟨⟨k, r⟩, ok⟩
 unfold MineDir at HD
 rw [hd] at HD HF
 try dsimp only at HD
 clear hd HR2
 go_wp2_with fail
 refine HD.out.mono ?_
 rintro e w3 ⟨v3, f3, rfl, hR3, O3, hb3⟩
 obtain ⟨a3, c3, rfl, -⟩ := open_rows hR3
 have hB3 := hB2.trans (hb3.mono hB2.size)
 have HZ3 := Lib.hid (mbox HZ2.out hb3)
 have hnf : w.heap.size ∉ f3 := fun h => by have := (O3.2 _ h).1; have := HS2.out; omega
 have HOF : Hid (Own w3 (w.heap.size + 1) f3) := O3.lower HS2.out
 obtain ⟨N, HN⟩ : ∃ N : Nat, Hid (N = r.length) := ⟨_, Lib.hid rfl⟩
 rw [show r.length = N from HN.out.symm] at hR3 ⊢
 have z0 : w3.cell? ⟨w.heap.size, 0, none⟩ = some (.int .i64 0) := cell_of_row _ _ 0 _ _ _ HZ3.out
 have zf0 : w3.frozen? ⟨w.heap.size, 0, none⟩ = false := frozen_of_row _ _ 0 _ _ HZ3.out
 have z1 : w3.cell? ⟨w.heap.size, 1, none⟩ = some (.slice none 0 0) := cell_of_row _ _ 1 _ _ _ HZ3.out
 have zf1 : w3.frozen? ⟨w.heap.size, 1, none⟩ = false := frozen_of_row _ _ 1 _ _ HZ3.out
 have HS := Lib.hid (blk_set (blk_set HZ3.out 0 (.int .i64 k)) 1 (.slice a3 N c3))
 have HBF := Lib.hid ((hB3.setCell (p := ⟨w.heap.size, 0, none⟩) (Nat.le_refl _) (.int .i64 k)).setCell (p := ⟨w.heap.size, 1, none⟩) (Nat.le_refl _) (.slice a3 N c3))
 have HRR := Lib.hid ((sSlice sTok).setB ((sSlice sTok).setB hR3 hnf 0 (.int .i64 k)) hnf 1 (.slice a3 N c3))
 have HOO : Hid (Own ((w3.setCell ⟨w.heap.size, 0, none⟩ (.int .i64 k)).setCell ⟨w.heap.size, 1, none⟩ (.slice a3 N c3)) w.heap.size f3) := ((HOF.out.lower (Nat.le_succ _)).setCell _ _).setCell _ _
 clear hR3 O3 hb3 HD hnf HOF
 go_wp2
 refine bodyPost_ret (results_cell2 rfl _ _ w.heap.size _ _ _ _ rfl HS.out Tryd.underlying30 rfl (by kernel_rfl)) rfl ?_
 exact ⟨.slice a3 N c3, f3, by rw [HF.out] <;> rfl, by rw [HF.out]; exact HRR.out, HOO.out, HBF.out⟩

theorem mine_toD {r : (Int × List Tok) × Bool} {w : World} (h0 : 0 ≤ r.1.1) (h1 : r.1.1 ≤ 10) {e : Ending} {w' : World} (h : MineDir r w e w') : MineDirD (toD r) w e w' := by
 obtain ⟨v, fp, rfl, hR, hf, hb⟩ := h
 exact ⟨[.int .i64 r.1.1, v], fp, rfl, ⟨v, rfl, (show okInt r.1.1 from ⟨by omega, by omega⟩), hR⟩, hf, hb⟩
theorem impl_DirectiveOf_w (v : Value) (l : List Tok) (fp : List Nat) (w : World) (_hl : wtTokenS l ≤ 1048576) (H : (sSlice sTok).R w [v] l fp) (hE : KE w) :
  Calls Tryd.prog 20 #[v] w (MineDirD (dirD l) w) := (impl_DirectiveOf v l fp w hE H).mono fun _ _ h => mine_toD (dir_small l).1.1 (dir_small l).1.2 h
theorem impl_ReadDirective_w (s : ByteArray) (w : World) (hs : okStr s) (hE : KE w) :
  Calls Tryd.prog 14 #[.string s] w (MineDirD (readD s) w) := (impl_ReadDirective s w hs hE).mono fun _ _ h => by
 obtain ⟨l, h1, -⟩ := read_small s
 exact mine_toD h1.1 h1.2 h

end Go.Proofs.YtlegeancmcmbaaaDoor
