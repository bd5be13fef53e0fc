/- Texts that the proof of P stands on, in one file. -/
import Derived.Test.YtlegeancmcmbaaaDoorZP13
import Derived.Test.YtlegeancmcmbaaaDoorZP1
import Derived.Test.YtlegeancmcmbaaaDoorZP3
import Derived.Test.YtlegeancmcmbaaaDoorZP11
import Derived.Test.YtlegeancmcmbaaaDoorZP8
import Derived.Test.YtlegeancmcmbaaaDoorZP6
import Derived.IntWalk
import Derived.Lib.Bytealg
import Derived.Test.YtlegeancmcmbaaaDoorZP9
import Derived.Test.YtlegeancmcmbaaaDoorZP4
set_option linter.unusedVariables false
set_option linter.unusedSimpArgs false
/- Of the program: the names of kinds. -/
namespace Go.Proofs.YtlegeancmcmbaaaDoor
open Go.RowKit

theorem kindRes_nm {n : Nat} (h : n < 11) : kindRes (n : Int) = kindNm n := by
 by_cases h0 : n = 0
 ·subst h0; rfl
 ·rw [kindRes_in (by omega) (by omega)]; rfl

set_option maxHeartbeats 2000000 in
theorem impl_KindText (k : Int) (w : World) (_hk : okInt k) (hE : KE w) :
  Calls Tryd.prog 10 #[.int .i64 k] w fun e w' => e = .returned (.string (kindRes k)) ∧ Below w.heap.size w w' := by
 by_cases h0 : k < 0
 ·have HF := Lib.hid (kindRes_out (k := k) (by omega))
  go_enter Tryd.func10, Tryd.ntmps10
  go_wp2
  go_ret
  exact ⟨by rw [HF.out] <;> rfl, Below.refl _ _⟩
 by_cases h1 : 10 < k
 ·have HF := Lib.hid (kindRes_out (k := k) (by omega))
  go_enter Tryd.func10, Tryd.ntmps10
  go_wp2
  go_ret
  exact ⟨by rw [HF.out] <;> rfl, Below.refl _ _⟩
 obtain ⟨n, rfl⟩ : ∃ n : Nat, k = (n : Int) := ⟨k.toNat, by omega⟩
 have hn : n < 11 := by omega
 have HF := Lib.hid (kindRes_nm hn)
 have hc := hE.2 n hn
 have i1 : (0 : Int) ≤ (n : Int) := by omega
 have i2 : (n : Int) < 11 := by omega
 clear hE
 go_enter Tryd.func10, Tryd.ntmps10
 go_wp2
 go_ret
 exact ⟨by rw [HF.out] <;> rfl, Below.refl _ _⟩

def kindArr : Value := .agg #[.string (kindNm 0), .string (kindNm 1), .string (kindNm 2), .string (kindNm 3), .string (kindNm 4), .string (kindNm 5), .string (kindNm 6), .string (kindNm 7), .string (kindNm 8), .string (kindNm 9), .string (kindNm 10)]
set_option maxRecDepth 100000 in
theorem run_kind (k : Nat) (h : k < 11) (w : World) : (Instr.index 51 kindArr (.int .i64 (k : Int))).run Tryd.prog w = .ok (.string (kindNm k)) w := by
 have : k = 0 ∨ k = 1 ∨ k = 2 ∨ k = 3 ∨ k = 4 ∨ k = 5 ∨ k = 6 ∨ k = 7 ∨ k = 8 ∨ k = 9 ∨ k = 10 := by omega
 rcases this with rfl | rfl | rfl | rfl | rfl | rfl | rfl | rfl | rfl | rfl | rfl <;> rfl

def kindFirst (x : List UInt8) (k : Nat) : Nat := if k ≤ 10 then (if x = kindTx k then k else kindFirst x (k + 1)) else 0
termination_by 11 - k
theorem first_hit {x : List UInt8} {k : Nat} (h : k ≤ 10) (hx : x = kindTx k) : kindFirst x k = k := by rw [kindFirst, if_pos h, if_pos hx]
theorem first_next {x : List UInt8} {k : Nat} (h : k ≤ 10) (hx : x ≠ kindTx k) : kindFirst x k = kindFirst x (k + 1) := by rw [kindFirst.eq_def x k, if_pos h, if_neg hx]
theorem first_out {x : List UInt8} {k : Nat} (h : ¬ k ≤ 10) : kindFirst x k = 0 := by rw [kindFirst, if_neg h]
theorem first_at (x : List UInt8) : ∀ (d k : Nat), 11 - k ≤ d → kindFirst x k = kindAt x k := by
 intro d
 induction d with
 | zero => intro k h; rw [first_out (by omega), kindAt_out (by omega)]
 |
  succ d ih =>
  intro k h
  by_cases hk : k ≤ 10
  ·by_cases hx : x = kindTx k
   ·rw [first_hit hk hx, kindAt_hit hk hx]
   ·rw [first_next hk hx, kindAt_next hk hx]; exact ih (k + 1) (by omega)
  ·rw [first_out hk, kindAt_out hk]
theorem first_zero (x : List UInt8) : kindFirst x 0 = kindAt x 1 := by
 by_cases hx : x = kindTx 0
 ·rw [first_hit (by omega) hx]
  subst hx
  decide +kernel
 ·rw [first_next (by omega) hx]; exact first_at x 11 1 (by omega)
theorem nm_list (k : Nat) : (kindNm k).toList = kindTx k := by unfold kindNm; rw [ByteArray.toList_eq]

set_option maxHeartbeats 4000000 in
set_option maxRecDepth 100000 in
theorem impl_kindOf (x : ByteArray) (w : World) (hE : KE w) :
  Calls Tryd.prog 45 #[.string x] w fun e w' => e = .returned (.int .i64 ((kindAt x.toList 1 : Nat) : Int)) ∧ Below w.heap.size w w' := by
 obtain ⟨-, hE⟩ := hE
 have q0 := hE 0 (by decide)
 have q1 := hE 1 (by decide)
 have q2 := hE 2 (by decide)
 have q3 := hE 3 (by decide)
 have q4 := hE 4 (by decide)
 have q5 := hE 5 (by decide)
 have q6 := hE 6 (by decide)
 have q7 := hE 7 (by decide)
 have q8 := hE 8 (by decide)
 have q9 := hE 9 (by decide)
 have q10 := hE 10 (by decide)
 have HZ := Lib.hid (first_zero x.toList)
 obtain ⟨r, HR⟩ : ∃ r, Hid (r = kindAt x.toList 1) := ⟨_, rfl⟩
 rw [← HR.out] at HZ ⊢
 clear hE
 go_enter Tryd.func45, Tryd.ntmps45
 go_wp2
 clear q0 q1 q2 q3 q4 q5 q6 q7 q8 q9 q10
 go_loopw [6] (fun i wr => ∃ k : Nat, k ≤ 11 ∧ i = .int .i64 k ∧ Hid (kindFirst x.toList k = r) ∧ Below w.heap.size w wr) (fun i _ => 11 - (intOf i).toNat)
 case atStart => exact ⟨0, by omega, rfl, HZ, Below.refl _ _⟩
 case round =>
  obtain ⟨k, h11, rfl, HK, hb⟩ := hrel
  by_cases hlt : k < 11
  ·have i0 : (k : Int) < 11 := by omega
   have hI : (Instr.index 51 (.agg #[.string (kindNm 0), .string (kindNm 1), .string (kindNm 2), .string (kindNm 3), .string (kindNm 4), .string (kindNm 5), .string (kindNm 6), .string (kindNm 7), .string (kindNm 8), .string (kindNm 9), .string (kindNm 10)]) (.int .i64 (k : Int))).run Tryd.prog wr = .ok (.string (kindNm k)) wr := run_kind k hlt wr
   have hn := nm_list k
   by_cases hx : x.toList = kindTx k
   ·have HF : Hid (k = r) := (first_hit (by omega) hx).symm.trans HK.out
    have e1 : (x.toList == (kindNm k).toList) = true := by rw [hn]; simpa using hx
    clear hx hn
    go_wp2
    go_ret
    exact ⟨by rw [HF.out] <;> rfl, hb⟩
   ·have HF : Hid (kindFirst x.toList (k + 1) = r) := (first_next (by omega) hx).symm.trans HK.out
    have e1 : (x.toList == (kindNm k).toList) = false := by rw [hn]; simpa using hx
    clear hx hn
    go_wp2
    go_roundw
    case rel => exact ⟨k + 1, by omega, by go_num, HF, hb⟩
    case measure => simp [intOf]; omega
  ·have i0 : ¬ (k : Int) < 11 := by omega
   have HF : Hid (0 = r) := (first_out (by omega)).symm.trans HK.out
   go_wp2
   go_ret
   exact ⟨by rw [← HF.out] <;> rfl, hb⟩

end Go.Proofs.YtlegeancmcmbaaaDoor

/- Of the program: brackets, the closing place, a token's copy. -/
namespace Go.Proofs.YtlegeancmcmbaaaDoor
open Go.RowKit
def CopyTok (x : Tok) (w : World) (e : Ending) (w' : World) : Prop :=
 ∃ (ao : Option Addr) (c : Nat) (fp : List Nat), e = .returned (.agg #[.int .i64 x.kind, .string x.text, .bool x.spaced, .slice ao x.hidden.length c]) ∧ sTok.R w' [.int .i64 x.kind, .string x.text, .bool x.spaced, .slice ao x.hidden.length c] x fp ∧
  Own w' w.heap.size fp ∧ (∀ b ∈ fp, ∃ cur t fr, w'.heap[b]? = some (.cells cur t fr) ∧ t = 9) ∧ Below w.heap.size w w'

set_option maxHeartbeats 4000000 in
set_option maxRecDepth 100000 in
theorem impl_copyToken (cs : List Value) (x : Tok) (fp : List Nat) (w : World) (hx : x.hidden.length ≤ 2000000) (H : sTok.R w cs x fp) : Calls Tryd.prog 71 #[.agg cs.toArray] w (CopyTok x w) := by
 obtain ⟨h, rfl, hk, hok, K⟩ := H
 obtain ⟨a0, cap0, rfl, -, -, -, hsz⟩ := open_strs K
 have b0 := alloc_below' w (.cells #[.int .i64 x.kind, .string x.text, .bool x.spaced, .slice a0 x.hidden.length cap0] 47)
 have hb2 := b0.trans ((alloc_below' (w.alloc (.cells #[.int .i64 x.kind, .string x.text, .bool x.spaced, .slice a0 x.hidden.length cap0] 47)) (.cells #[.int .i64 0, .string ⟨#[]⟩, .bool false, .slice none 0 0] 47)).mono b0.size)
 obtain ⟨g0, g1⟩ := alloc2_blk w #[.int .i64 x.kind, .string x.text, .bool x.spaced, .slice a0 x.hidden.length cap0] #[.int .i64 0, .string ⟨#[]⟩, .bool false, .slice none 0 0] 47 47
 have hs2 : ((w.alloc (.cells #[.int .i64 x.kind, .string x.text, .bool x.spaced, .slice a0 x.hidden.length cap0] 47)).alloc (.cells #[.int .i64 0, .string ⟨#[]⟩, .bool false, .slice none 0 0] 47)).heap.size = w.heap.size + 2 := by
  show ((w.heap.push _).push _).size = _
  simp
 have HK := Lib.hid ((sSlice sStr).below K hb2)
 have HSZ := Lib.hid hsz
 clear K hsz b0
 obtain ⟨hv, HV⟩ : ∃ hv : Value, Hid (hv = Value.slice a0 x.hidden.length cap0) := ⟨_, rfl⟩
 go_enter Tryd.func71, Tryd.ntmps71
 go_upto_region 2 with fail
 generalize ((w.alloc (.cells #[.int .i64 x.kind, .string x.text, .bool x.spaced, .slice a0 x.hidden.length cap0] 47)).alloc (.cells #[.int .i64 0, .string ⟨#[]⟩, .bool false, .slice none 0 0] 47)) = W3 at *
 have c03 : W3.cell? ⟨w.heap.size, 3, none⟩ = some hv := by
  rw [HV.out]
  exact cell_of_row _ _ 3 _ _ _ g0
 have HKV : Hid ((sSlice sStr).R W3 [hv] x.hidden fp) := by show (sSlice sStr).R _ _ _ _; rw [HV.out]; exact HK.out
 have HG := Lib.hid (And.intro g0 (And.intro g1 hs2))
 have hb4 := Lib.hid hb2
 clear g0 g1 hs2 HK hb2
 go_wp2_with (
  at_builtin
  refine wp_append_strsR rfl (.tmp 4) (.tmp 6) rfl W3.heap.size (.slice none 0 0) hv [] x.hidden _ rfl (World.ownsRow_nil _ _ _ _) rfl HKV.out (by simp; omega) (Nat.le_refl _) ?_
  intro v5 w1 hown hgrow
  rw [List.nil_append] at hown
  obtain ⟨fp1, R1, O1, hfp⟩ := own_flat (ok := okStr) hown HSZ.out
  have hs3 := HG.out.2.2
  have hblk : ∀ k, k < W3.heap.size → w1.heap[k]? = W3.heap[k]? := fun k hk => hgrow.block k hk (by simp [Value.ownBlock])
  have HG1 : Hid (w1.heap[w.heap.size]? = some (.cells #[.int .i64 x.kind, .string x.text, .bool x.spaced, .slice a0 x.hidden.length cap0] 47 (0, 0)) ∧ w1.heap[w.heap.size + 1]? = some (.cells #[.int .i64 0, .string ⟨#[]⟩, .bool false, .slice none 0 0] 47 (0, 0))) :=
   ⟨(hblk _ (by omega)).trans HG.out.1, (hblk _ (by omega)).trans HG.out.2.1⟩
  have hb : Below w.heap.size w w1 := hb4.out.grown hgrow (by omega) (fun b hb => by simp [Value.ownBlock] at hb)
  have hty : ∀ b ∈ fp1, ∃ cur t fr, w1.heap[b]? = some (.cells cur t fr) ∧ t = 9 := fun b hb' => by
   have hv := hfp b hb'
   rcases hown.2 with ⟨rfl, _⟩ | ⟨g, cap, cur, rfl, _, hg, _⟩
   ·simp [Value.ownBlock] at hv
   ·simp only [Value.ownBlock, Option.some.injEq] at hv
    subst hv
    exact ⟨_, _, _, hg, rfl⟩
  have hlo : ∀ b ∈ fp1, w.heap.size + 2 ≤ b := fun b hb => by have := (O1.2 b hb).1; omega
  have HOW : Hid (Own w1 w.heap.size fp1) := O1.lower (by omega)
  clear HG hblk hgrow hown hfp O1 c03 hb4 HKV hs3
  obtain ⟨a1, cap1, rfl, hq⟩ := open_rows R1
  clear hq
  have c10 : w1.cell? ⟨w.heap.size + 1, 0, none⟩ = some (.int .i64 0) := cell_of_row w1 (w.heap.size + 1) 0 _ _ _ HG1.out.2
  have c11 : w1.cell? ⟨w.heap.size + 1, 1, none⟩ = some (.string ⟨#[]⟩) := cell_of_row w1 (w.heap.size + 1) 1 _ _ _ HG1.out.2
  have c12 : w1.cell? ⟨w.heap.size + 1, 2, none⟩ = some (.bool false) := cell_of_row w1 (w.heap.size + 1) 2 _ _ _ HG1.out.2
  have c13 : w1.cell? ⟨w.heap.size + 1, 3, none⟩ = some (.slice none 0 0) := cell_of_row w1 (w.heap.size + 1) 3 _ _ _ HG1.out.2
  have c20 : w1.cell? ⟨w.heap.size, 0, none⟩ = some (.int .i64 x.kind) := cell_of_row w1 (w.heap.size) 0 _ _ _ HG1.out.1
  have c21 : w1.cell? ⟨w.heap.size, 1, none⟩ = some (.string x.text) := cell_of_row w1 (w.heap.size) 1 _ _ _ HG1.out.1
  have c22 : w1.cell? ⟨w.heap.size, 2, none⟩ = some (.bool x.spaced) := cell_of_row w1 (w.heap.size) 2 _ _ _ HG1.out.1
  have c23 : w1.cell? ⟨w.heap.size, 3, none⟩ = some (.slice a0 x.hidden.length cap0) := cell_of_row w1 (w.heap.size) 3 _ _ _ HG1.out.1
  have f10 : w1.frozen? ⟨w.heap.size + 1, 0, none⟩ = false := frozen_of_row w1 (w.heap.size + 1) 0 _ _ HG1.out.2
  have f11 : w1.frozen? ⟨w.heap.size + 1, 1, none⟩ = false := frozen_of_row w1 (w.heap.size + 1) 1 _ _ HG1.out.2
  have f12 : w1.frozen? ⟨w.heap.size + 1, 2, none⟩ = false := frozen_of_row w1 (w.heap.size + 1) 2 _ _ HG1.out.2
  have f13 : w1.frozen? ⟨w.heap.size + 1, 3, none⟩ = false := frozen_of_row w1 (w.heap.size + 1) 3 _ _ HG1.out.2
  have f23 : w1.frozen? ⟨w.heap.size, 3, none⟩ = false := frozen_of_row w1 (w.heap.size) 3 _ _ HG1.out.1
  have hn1 : w.heap.size + 1 ∉ fp1 := fun hx => by have := hlo _ hx; omega
  have hn2 : w.heap.size ∉ fp1 := fun hx => by have := hlo _ hx; omega
  have HR := Lib.hid ((sSlice sStr).setB ((sSlice sStr).setB ((sSlice sStr).setB ((sSlice sStr).setB ((sSlice sStr).setB R1 hn2 3 (.slice a1 x.hidden.length cap1)) hn1 0 (.int .i64 x.kind)) hn1 1 (.string x.text)) hn1 2 (.bool x.spaced)) hn1 3 (.slice a1 x.hidden.length cap1))
  have HOF := Lib.hid (((((HOW.out.setCell ⟨w.heap.size, 3, none⟩ (.slice a1 x.hidden.length cap1)).setCell ⟨w.heap.size + 1, 0, none⟩ (.int .i64 x.kind)).setCell ⟨w.heap.size + 1, 1, none⟩ (.string x.text)).setCell ⟨w.heap.size + 1, 2, none⟩ (.bool x.spaced)).setCell ⟨w.heap.size + 1, 3, none⟩ (.slice a1 x.hidden.length cap1))
  have HT : Hid (∀ b ∈ fp1, ∃ cur t fr, (((((w1.setCell ⟨w.heap.size, 3, none⟩ (.slice a1 x.hidden.length cap1)).setCell ⟨w.heap.size + 1, 0, none⟩ (.int .i64 x.kind)).setCell ⟨w.heap.size + 1, 1, none⟩ (.string x.text)).setCell ⟨w.heap.size + 1, 2, none⟩ (.bool x.spaced)).setCell ⟨w.heap.size + 1, 3, none⟩ (.slice a1 x.hidden.length cap1)).heap[b]? = some (.cells cur t fr) ∧ t = 9) := fun b hb => by
   obtain ⟨cur, t, fr, q1, q2⟩ := hty b hb
   have e1 : b ≠ w.heap.size + 1 := fun e => hn1 (e ▸ hb)
   have e2 : b ≠ w.heap.size := fun e => hn2 (e ▸ hb)
   exact ⟨cur, t, fr, blk_other (blk_other (blk_other (blk_other (blk_other q1 e2 _ _) e1 _ _) e1 _ _) e1 _ _) e1 _ _, q2⟩
  have HB := Lib.hid (((((hb.setCell (p := ⟨w.heap.size, 3, none⟩) (by simp) (.slice a1 x.hidden.length cap1)).setCell (p := ⟨w.heap.size + 1, 0, none⟩) (by simp) (.int .i64 x.kind)).setCell (p := ⟨w.heap.size + 1, 1, none⟩) (by simp) (.string x.text)).setCell (p := ⟨w.heap.size + 1, 2, none⟩) (by simp) (.bool x.spaced)).setCell (p := ⟨w.heap.size + 1, 3, none⟩) (by simp) (.slice a1 x.hidden.length cap1))
  have HS := Lib.hid (blk_set (blk_set (blk_set (blk_set (blk_other HG1.out.2 (by omega : w.heap.size + 1 ≠ w.heap.size) 3 (.slice a1 x.hidden.length cap1)) 0 (.int .i64 x.kind)) 1 (.string x.text)) 2 (.bool x.spaced)) 3 (.slice a1 x.hidden.length cap1))
  clear HG1 hty hlo HOW)
 refine bodyPost_ret (results_cell_row rfl _ _ (w.heap.size + 1) _ _ _ _ rfl HS.out Tryd.underlying47 rfl (by kernel_rfl)) rfl ?_
 exact ⟨a1, cap1, fp1, rfl, ⟨_, rfl, hk, hok, HR.out⟩, HOF.out, HT.out, HB.out⟩

end Go.Proofs.YtlegeancmcmbaaaDoor

/- Validity of tables, of both. (Made by gen_tab2.py.) -/
namespace Go.Proofs.YtlegeancmcmbaaaDoor
open Go.RowKit

section
variable {P : Program} {ops : Array Oper} {Q : Exit → Act → World → Prop} {md : Region.Mode} {S : World → Prop}
end
end Go.Proofs.YtlegeancmcmbaaaDoor

/- Names of tables are in order: no program. -/
namespace Go.Proofs.YtlegeancmcmbaaaDoor
open Go.RowKit
def plFrom (l : List DMacro) (nm : ByteArray) (k : Nat) : Int := if h : k < l.length then (if (l[k].name.toList == nm.toList) = true then (k : Int) else plFrom l nm (k + 1)) else -1
termination_by l.length - k
def place (l : List DMacro) (nm : ByteArray) : Int := plFrom l nm 0
end Go.Proofs.YtlegeancmcmbaaaDoor

/- Conditions: no program. -/
namespace Go.Proofs.YtlegeancmcmbaaaDoor
open Go.RowKit
section
variable {T : List DMacro} {l acc : List Tok} {k : Nat}
end
end Go.Proofs.YtlegeancmcmbaaaDoor

/- Values: what comes out lies within bounds; there is always an answer. No program. -/
namespace Go.Proofs.YtlegeancmcmbaaaDoor
open Go.RowKit
end Go.Proofs.YtlegeancmcmbaaaDoor

/- Of the model: truth, numbers. -/
namespace Go.Proofs.YtlegeancmcmbaaaDoor
open Go.RowKit
end Go.Proofs.YtlegeancmcmbaaaDoor

/- Places of names in tables, and IsDefined, of both. -/
namespace Go.Proofs.YtlegeancmcmbaaaDoor
open Go.RowKit
end Go.Proofs.YtlegeancmcmbaaaDoor
