/- Texts that the proof of V stands on, in one file. -/
import Derived.Test.YthbojipdhgidlaaYV1
import Derived.Test.YthbojipdhgidlaaZU9
set_option linter.unusedVariables false
set_option linter.unusedSimpArgs false
/- A macro and arguments, drawn. (Made by gen_drawaf.py.) -/
namespace Go.Proofs.Ythbojipdhgidlaa
open Go.RowKit

/-- A macro and arguments. -/
def DrawnAF (w : World) (e : Ending) (w' : World) : Prop :=
  ∃ (nm : ByteArray) (f : Bool) (s2 s3 : Value) (ps : List ByteArray) (bd : List Tok) (fp : List Nat) (va : Value) (A : List (List Tok)) (fpa : List Nat), e = .returned (.tuple #[.agg #[.string nm, .bool f, s2, s3], va]) ∧
    sMacro.R w' [.string nm, .bool f, s2, s3] ⟨nm, f, ps, bd⟩ fp ∧ (sSlice sToks).R w' [va] A fpa ∧ Below w.heap.size w w'
/-- Arguments, one more. -/
theorem af_more {base : Nat} {v : Value} {L : List (Elem Tok)} {w0 w : World} (h : RowE sTok w0.heap.size 56 v L w) (hs : ∀ x ∈ L, StrTy w x.fp) (hb : base ≤ w0.heap.size) :
    ∃ (a : Option Addr) (c : Nat) (fp : List Nat), v = .slice a L.length c ∧ sToks.R w [.slice a L.length c] (L.map (·.d)) fp ∧ (∀ b ∈ fp, base ≤ b) ∧ ∀ b ∈ fp, ∃ cur t fr, w.heap[b]? = some (.cells cur t fr) ∧ t ≠ 30 := by
  obtain ⟨a, c, hv, -⟩ := h.val
  obtain ⟨fp, h1, h2, -⟩ := slice_of_row h.row fun x hx => ⟨h.len x hx, h.el x hx⟩
  refine ⟨a, c, fp, hv, by rw [← hv]; exact h1, fun b hb' => ?_, fun b hb' => ?_⟩
  · rcases h2 b hb' with h0 | h0
    · have := h.mine b h0; omega
    · obtain ⟨x, hx, hx'⟩ := List.mem_flatMap.1 h0
      have := h.lo x hx b hx'; omega
  · rcases h2 b hb' with h0 | h0
    · rcases h.row.2 with ⟨h', _⟩ | ⟨g, cap, cur, q1, q2, q3, -⟩
      · rw [h'] at h0; simp [Value.ownBlock] at h0
      · rw [q1] at h0
        simp only [Value.ownBlock, Option.some.injEq] at h0
        subst h0
        exact ⟨_, _, _, q3, by decide⟩
    · obtain ⟨x, hx, hx'⟩ := List.mem_flatMap.1 h0
      obtain ⟨cur, fr, q⟩ := hs x hx b hx'
      exact ⟨_, _, _, q, by decide⟩

set_option maxHeartbeats 16000000 in
set_option maxRecDepth 100000 in
theorem DrawArgumentsFit (v : Value) (l : List UInt8) (fp : List Nat) (w : World) (H : (sSlice sByte).R w [v] l fp) :
    Calls Try.prog 15 #[v] w (DrawnAF w) := by
  have bz := alloc_below' w (.cells #[.string ⟨#[]⟩, .bool false, .slice none 0 0, .slice none 0 0] 32)
  have HZ0 := Lib.hid (heap_alloc_new w (.cells #[.string ⟨#[]⟩, .bool false, .slice none 0 0, .slice none 0 0] 32))
  have HH := Lib.hid ((sSlice sByte).below H bz)
  have hsz : (w.alloc (.cells #[.string ⟨#[]⟩, .bool false, .slice none 0 0, .slice none 0 0] 32)).heap.size = w.heap.size + 1 := Array.size_push _
  clear H
  go_enter Try.func15, Try.ntmps15
  go_wp2_with fail
  refine (l20Open _ l fp _ HH.out).mono ?_
  rintro e w1 ⟨rb, rfl, hrb, hR, hB⟩
  have HZ1 := Lib.hid ((hB.block w.heap.size (by omega)).trans HZ0.out)
  have hs1 := hB.size
  have hr1 := hR.lt
  rw [hsz] at hrb hs1
  have hBw : Below w.heap.size w w1 := bz.trans (hB.mono bz.size)
  clear HH HZ0 bz hB hsz
  go_wp2_with fail
  refine (l20Macro rb 0 _ _ hR (by omega) (by omega) (by omega)).mono ?_
  rintro e w2 ⟨nm, f, a2, a3, n2, c2, n3, c3, ps, bd, fp', q, rfl, hT, hok, hlo, hq, hR2, hK2⟩
  have HT0 := hT
  obtain ⟨h2', h3', p2, p3, hcs, hnok, K2, K3, hfp⟩ := hT
  simp only [List.cons.injEq, Value.string.injEq, Value.bool.injEq, and_true, true_and] at hcs
  obtain ⟨e2, e3⟩ := hcs
  subst e2 e3
  obtain ⟨b2, d2, hv2, -⟩ := open_strs K2
  obtain ⟨b3, d3, hv3, -⟩ := open_rows K3
  simp only [Value.slice.injEq] at hv2 hv3
  obtain ⟨rfl, rfl, rfl⟩ := hv2
  obtain ⟨rfl, rfl, rfl⟩ := hv3
  clear K2 K3 hfp hnok
  have hps : ps.length ≤ 100 := hok.2.1
  have hbm := alloc_below' w2 (.cells #[.string nm, .bool f, .slice a2 ps.length c2, .slice a3 bd.length c3] 32)
  have HM3 := Lib.hid (heap_alloc_new w2 (.cells #[.string nm, .bool f, .slice a2 ps.length c2, .slice a3 bd.length c3] 32))
  have hs3 : (w2.alloc (.cells #[.string nm, .bool f, .slice a2 ps.length c2, .slice a3 bd.length c3] 32)).heap.size = w2.heap.size + 1 := Array.size_push _
  have HE4 : Hid (RowE sToks (w2.heap.size + 1) 30 (.slice (some ⟨w2.heap.size + 1, 0, none⟩) 0 0) [] ((w2.alloc (.cells #[.string nm, .bool f, .slice a2 ps.length c2, .slice a3 bd.length c3] 32)).alloc (.cells #[] 30))) := by
    have := RowE.lit (S := sToks) (w := w2.alloc (.cells #[.string nm, .bool f, .slice a2 ps.length c2, .slice a3 bd.length c3] 32)) (base := w2.heap.size + 1) (e := 30) [] (by simp) (by simp) (by simp) (by simp) (by omega) (by simp)
    rw [hs3] at this
    exact this
  have hbl := alloc_below' (w2.alloc (.cells #[.string nm, .bool f, .slice a2 ps.length c2, .slice a3 bd.length c3] 32)) (.cells #[] 30)
  have hb24 := hbm.trans (hbl.mono hbm.size)
  have HM4 := Lib.hid ((hbl.block w2.heap.size (by omega)).trans HM3.out)
  have HR4 := Lib.hid (hR2.grow hb24)
  have HT4 := Lib.hid (sMacro.below HT0 hb24)
  have HK4 := Lib.hid (hK2.trans (Kept.of_below (fp := [rb]) hb24))
  have hs24 := hb24.size
  have hs12 := hK2.size
  have HFL : Hid (∀ b ∈ fp', w1.heap.size ≤ b ∧ b < w2.heap.size) := fun b hb => ⟨hlo b hb, sMacro.lt HT0 b hb⟩
  have hs4 : ((w2.alloc (.cells #[.string nm, .bool f, .slice a2 ps.length c2, .slice a3 bd.length c3] 32)).alloc (.cells #[] 30)).heap.size = w2.heap.size + 2 := by show ((w2.heap.push _).push _).size = _; simp
  have HT3 := Lib.hid (sMacro.below HT0 hbm)
  have HK3 := Lib.hid (hK2.trans (Kept.of_below (fp := [rb]) hbm))
  have HK34 := Lib.hid (Kept.of_below (fp := [rb]) hbl)
  have HZ3 := Lib.hid ((hbm.block w.heap.size (by omega)).trans ((hK2.block w.heap.size (by omega) (by simp; omega)).trans HZ1.out))
  clear hbm hbl hb24 hR2 HT0 hK2 hlo hR HT4 HK4 HZ1
  go_upto_region 4 with fail
  generalize ((w2.alloc (.cells #[.string nm, .bool f, .slice a2 ps.length c2, .slice a3 bd.length c3] 32)).alloc (.cells #[] 30)) = w4 at *
  generalize (w2.alloc (.cells #[.string nm, .bool f, .slice a2 ps.length c2, .slice a3 bd.length c3] 32)) = W3 at *
  go_cut [7] from 14 (fun d wr => ∃ (m qq : Nat), d = .int .i64 m ∧ m ≤ 100 ∧ qq ≤ q + 2 ∧ Rd wr rb qq ∧ Kept [rb] w4 wr)
  case first =>
    refine wp_region_noPanic ?_
    refine wp_region_held_drew (S := fun w' => w'.heap[w2.heap.size]? = some (.cells #[.string nm, .bool f, .slice a2 ps.length c2, .slice a3 bd.length c3] 32 (0, 0))) (by kernel_rfl) (by exact HM4.out) (fun hHeld => ?_)
    have HKd := Lib.hid (show Kept [rb] w4 w4.drew from (Kept.refl [rb] w4).drewN 1)
    have HRd := Lib.hid (show Rd w4.drew rb q from HR4.out.grow (belowN (Below.refl _ _) 1))
    have hw0 : IntKind.i64.wrap 0 = 0 := IntWalk.i64_in _ (by omega)
    have hw1 : IntKind.i64.wrap 1 = 1 := IntWalk.i64_in _ (by omega)
    have hsd : w4.heap.size ≤ w4.drew.heap.size := Nat.le_refl _
    generalize w4.drew = wd at *
    refine takeH 0 14 (v := ?_) rfl rfl (by kernel_rfl) (by kernel_rfl) (by kernel_rfl) (fun _ _ _ h => h) (by rfl) (by assumption) ?_ ?_
    rotate_left
    · intro w hSw; have s0 := cell_of_row _ _ 0 _ _ _ hSw; have s1 := cell_of_row _ _ 1 _ _ _ hSw; have s2 := cell_of_row _ _ 2 _ _ _ hSw; have s3 := cell_of_row _ _ 3 _ _ _ hSw; go_simp; (first | done | with_reducible rfl | rfl)
    try simp only [Act.put, List.setIfInBounds_toArray, List.set_cons_zero, List.set_cons_succ]
    refine takeH 1 15 (v := ?_) rfl rfl (by kernel_rfl) (by kernel_rfl) (by kernel_rfl) (fun _ _ _ h => h) (by rfl) (by assumption) ?_ ?_
    rotate_left
    · intro w hSw; have s0 := cell_of_row _ _ 0 _ _ _ hSw; have s1 := cell_of_row _ _ 1 _ _ _ hSw; have s2 := cell_of_row _ _ 2 _ _ _ hSw; have s3 := cell_of_row _ _ 3 _ _ _ hSw; go_simp; (first | done | with_reducible rfl | rfl)
    try simp only [Act.put, List.setIfInBounds_toArray, List.set_cons_zero, List.set_cons_succ]
    refine takeH 2 16 (v := ?_) rfl rfl (by kernel_rfl) (by kernel_rfl) (by kernel_rfl) (fun _ _ _ h => h) (by rfl) (by assumption) ?_ ?_
    rotate_left
    · intro w hSw; have s0 := cell_of_row _ _ 0 _ _ _ hSw; have s1 := cell_of_row _ _ 1 _ _ _ hSw; have s2 := cell_of_row _ _ 2 _ _ _ hSw; have s3 := cell_of_row _ _ 3 _ _ _ hSw; go_simp; (first | done | with_reducible rfl | rfl)
    try simp only [Act.put, List.setIfInBounds_toArray, List.set_cons_zero, List.set_cons_succ]
    refine takeH 3 17 (v := ?_) rfl rfl (by kernel_rfl) (by kernel_rfl) (by kernel_rfl) (fun _ _ _ h => h) (by rfl) (by assumption) ?_ ?_
    rotate_left
    · intro w hSw; have s0 := cell_of_row _ _ 0 _ _ _ hSw; have s1 := cell_of_row _ _ 1 _ _ _ hSw; have s2 := cell_of_row _ _ 2 _ _ _ hSw; have s3 := cell_of_row _ _ 3 _ _ _ hSw; go_simp; (first | done | with_reducible rfl | rfl)
    try simp only [Act.put, List.setIfInBounds_toArray, List.set_cons_zero, List.set_cons_succ]
    refine takeH 6 20 (v := ?_) rfl rfl (by kernel_rfl) (by kernel_rfl) (by kernel_rfl) (fun _ _ _ h => h) (by rfl) (by assumption) ?_ ?_
    rotate_left
    · intro w hSw; have s0 := cell_of_row _ _ 0 _ _ _ hSw; have s1 := cell_of_row _ _ 1 _ _ _ hSw; have s2 := cell_of_row _ _ 2 _ _ _ hSw; have s3 := cell_of_row _ _ 3 _ _ _ hSw; go_simp; (first | done | with_reducible rfl | rfl)
    try simp only [Act.put, List.setIfInBounds_toArray, List.set_cons_zero, List.set_cons_succ]
    refine wpAnyH_ready (rs := [4]) (by kernel_rfl) (by simp) ?_
    refine AllReadyH.cons rfl (fun K hK => ?_) AllReadyH.nil
    go_simp
    refine (pick rb q _ _ HRd.out (by omega) (by omega) (by omega)).mono ?_
    rintro e w5 ⟨r4, rfl, h40, h41, hR5, hK5⟩
    have HR5 := Lib.hid hR5
    have HK5 := Lib.hid (HKd.out.trans hK5)
    have hs5 := hK5.size
    refine hK.out _ _ ((hK5.block _ (Array.getElem?_eq_some_iff.1 hHeld).1 (by simp; omega)).trans hHeld) (fun hHeld => ?_)
    clear hK K
    try simp only [Act.put, List.setIfInBounds_toArray, List.set_cons_zero, List.set_cons_succ]
    clear hK5 hR5
    obtain ⟨m4, rfl⟩ : ∃ m4 : Nat, r4 = (m4 : Int) := ⟨r4.toNat, by omega⟩
    refine wpAnyH_ready (rs := [5, 7]) (by decide +kernel) (by simp) ?_
    refine AllReadyH.cons rfl (fun K hK => ?_) ?_
    · have bl := alloc_below' w5 (.cells #[.int .i64 (ps.length : Int), .int .i64 (m4 : Int)] 3)
      have HL6 := Lib.hid (heap_alloc_new w5 (.cells #[.int .i64 (ps.length : Int), .int .i64 (m4 : Int)] 3))
      have HR6 := Lib.hid (HR5.out.grow bl)
      have HK6 := Lib.hid (HK5.out.trans (Kept.of_below (fp := [rb]) bl))
      have hs6 : (w5.alloc (.cells #[.int .i64 (ps.length : Int), .int .i64 (m4 : Int)] 3)).heap.size = w5.heap.size + 1 := Array.size_push _
      have hH6 := (bl.block _ (Array.getElem?_eq_some_iff.1 hHeld).1).trans hHeld
      go_simp
      refine hK.out _ _ hH6 (fun hHeld => ?_)
      clear hK K bl
      try simp only [Act.put, List.setIfInBounds_toArray, List.set_cons_zero, List.set_cons_succ]
      generalize hw6 : (w5.alloc (.cells #[.int .i64 (ps.length : Int), .int .i64 (m4 : Int)] 3)) = w6 at *
      clear hw6
      refine wpAnyH_ready (rs := [7]) (by kernel_rfl) (by simp) ?_
      refine AllReadyH.cons rfl (fun K hK => ?_) AllReadyH.nil
      go_simp
      refine (pick rb (q + 1) _ _ HR6.out (by omega) (by omega) (by omega)).mono ?_
      rintro e w7 ⟨r7, rfl, h70, h71, hR7, hK7⟩
      have HL7 := Lib.hid ((hK7.block w5.heap.size (by omega) (by simp; have := HRd.out.lt; omega)).trans HL6.out)
      have HK7 := Lib.hid (HK6.out.trans hK7)
      refine hK.out _ _ ((hK7.block _ (Array.getElem?_eq_some_iff.1 hHeld).1 (by simp; omega)).trans hHeld) (fun hHeld => ?_)
      clear hK K
      try simp only [Act.put, List.setIfInBounds_toArray, List.set_cons_zero, List.set_cons_succ]
      obtain rfl | rfl | rfl : r7 = 0 ∨ r7 = 1 ∨ r7 = 2 := by omega
      · refine takeH 8 22 (v := ?_) rfl rfl (by kernel_rfl) (by kernel_rfl) (by kernel_rfl) (fun _ _ _ h => h) (by rfl) (by assumption) ?_ ?_
        rotate_left
        · intro w hSw; go_simp; (first | done | with_reducible rfl | rfl)
        try simp only [Act.put, List.setIfInBounds_toArray, List.set_cons_zero, List.set_cons_succ]
        have hcl : w7.cell? ⟨w5.heap.size, 0, none⟩ = some (.int .i64 ((ps.length : Nat) : Int)) := cell_of_row _ _ 0 _ _ _ HL7.out
        refine takeH 9 23 (v := ?_) rfl rfl (by kernel_rfl) (by kernel_rfl) (by kernel_rfl) (fun _ _ _ h => h) (by rfl) (by assumption) ?_ ?_
        rotate_left
        · intro w hSw; go_simp; (first | done | with_reducible rfl | rfl)
        try simp only [Act.put, List.setIfInBounds_toArray, List.set_cons_zero, List.set_cons_succ]
        refine wpAnyH_ready (rs := [10]) (by kernel_rfl) (by simp) ?_
        refine AllReadyH.cons rfl (fun K hK => ?_) AllReadyH.nil
        go_simp
        refine hK.out _ _ (hHeld) (fun hHeld => ?_)
        clear hK K
        try simp only [Act.put, List.setIfInBounds_toArray, List.set_cons_zero, List.set_cons_succ]
        refine takeH 11 7 (v := ?_) rfl rfl (by kernel_rfl) (by kernel_rfl) (by kernel_rfl) (fun _ _ _ h => h) (by rfl) (by assumption) ?_ ?_
        rotate_left
        · intro w hSw; go_simp; (first | done | with_reducible rfl | rfl)
        try simp only [Act.put, List.setIfInBounds_toArray, List.set_cons_zero, List.set_cons_succ]
        refine wpAnyH_done (by kernel_rfl) ?_ _
        refine NoPanic.normal ?_
        clear hHeld
        go_wp2
        go_meet
        case rel => exact ⟨ps.length, _, rfl, by omega, by omega, hR7, HK7.out⟩
      · refine takeH 8 22 (v := ?_) rfl rfl (by kernel_rfl) (by kernel_rfl) (by kernel_rfl) (fun _ _ _ h => h) (by rfl) (by assumption) ?_ ?_
        rotate_left
        · intro w hSw; go_simp; (first | done | with_reducible rfl | rfl)
        try simp only [Act.put, List.setIfInBounds_toArray, List.set_cons_zero, List.set_cons_succ]
        have hcl : w7.cell? ⟨w5.heap.size, 0, none⟩ = some (.int .i64 ((ps.length : Nat) : Int)) := cell_of_row _ _ 0 _ _ _ HL7.out
        refine takeH 9 23 (v := ?_) rfl rfl (by kernel_rfl) (by kernel_rfl) (by kernel_rfl) (fun _ _ _ h => h) (by rfl) (by assumption) ?_ ?_
        rotate_left
        · intro w hSw; go_simp; (first | done | with_reducible rfl | rfl)
        try simp only [Act.put, List.setIfInBounds_toArray, List.set_cons_zero, List.set_cons_succ]
        refine wpAnyH_ready (rs := [10]) (by kernel_rfl) (by simp) ?_
        refine AllReadyH.cons rfl (fun K hK => ?_) AllReadyH.nil
        go_simp
        refine hK.out _ _ (hHeld) (fun hHeld => ?_)
        clear hK K
        try simp only [Act.put, List.setIfInBounds_toArray, List.set_cons_zero, List.set_cons_succ]
        refine takeH 11 7 (v := ?_) rfl rfl (by kernel_rfl) (by kernel_rfl) (by kernel_rfl) (fun _ _ _ h => h) (by rfl) (by assumption) ?_ ?_
        rotate_left
        · intro w hSw; go_simp; (first | done | with_reducible rfl | rfl)
        try simp only [Act.put, List.setIfInBounds_toArray, List.set_cons_zero, List.set_cons_succ]
        refine wpAnyH_done (by kernel_rfl) ?_ _
        refine NoPanic.normal ?_
        clear hHeld
        go_wp2
        go_meet
        case rel => exact ⟨ps.length, _, rfl, by omega, by omega, hR7, HK7.out⟩
      · refine takeH 8 22 (v := ?_) rfl rfl (by kernel_rfl) (by kernel_rfl) (by kernel_rfl) (fun _ _ _ h => h) (by rfl) (by assumption) ?_ ?_
        rotate_left
        · intro w hSw; go_simp; (first | done | with_reducible rfl | rfl)
        try simp only [Act.put, List.setIfInBounds_toArray, List.set_cons_zero, List.set_cons_succ]
        have hcl : w7.cell? ⟨w5.heap.size, 1, none⟩ = some (.int .i64 ((m4 : Nat) : Int)) := cell_of_row _ _ 1 _ _ _ HL7.out
        refine takeH 9 23 (v := ?_) rfl rfl (by kernel_rfl) (by kernel_rfl) (by kernel_rfl) (fun _ _ _ h => h) (by rfl) (by assumption) ?_ ?_
        rotate_left
        · intro w hSw; go_simp; (first | done | with_reducible rfl | rfl)
        try simp only [Act.put, List.setIfInBounds_toArray, List.set_cons_zero, List.set_cons_succ]
        refine wpAnyH_ready (rs := [10]) (by kernel_rfl) (by simp) ?_
        refine AllReadyH.cons rfl (fun K hK => ?_) AllReadyH.nil
        go_simp
        refine hK.out _ _ (hHeld) (fun hHeld => ?_)
        clear hK K
        try simp only [Act.put, List.setIfInBounds_toArray, List.set_cons_zero, List.set_cons_succ]
        refine takeH 11 7 (v := ?_) rfl rfl (by kernel_rfl) (by kernel_rfl) (by kernel_rfl) (fun _ _ _ h => h) (by rfl) (by assumption) ?_ ?_
        rotate_left
        · intro w hSw; go_simp; (first | done | with_reducible rfl | rfl)
        try simp only [Act.put, List.setIfInBounds_toArray, List.set_cons_zero, List.set_cons_succ]
        refine wpAnyH_done (by kernel_rfl) ?_ _
        refine NoPanic.normal ?_
        clear hHeld
        go_wp2
        go_meet
        case rel => exact ⟨m4, _, rfl, by omega, by omega, hR7, HK7.out⟩
    · refine AllReadyH.cons rfl (fun K hK => ?_) AllReadyH.nil
      go_simp
      refine (pick rb (q + 1) _ _ HR5.out (by omega) (by omega) (by omega)).mono ?_
      rintro e w7 ⟨r7, rfl, h70, h71, hR7, hK7⟩
      have HR7 := Lib.hid hR7
      have HK7 := Lib.hid (HK5.out.trans hK7)
      have hs7 := hK7.size
      refine hK.out _ _ ((hK7.block _ (Array.getElem?_eq_some_iff.1 hHeld).1 (by simp; omega)).trans hHeld) (fun hHeld => ?_)
      clear hK K
      try simp only [Act.put, List.setIfInBounds_toArray, List.set_cons_zero, List.set_cons_succ]
      obtain rfl | rfl | rfl : r7 = 0 ∨ r7 = 1 ∨ r7 = 2 := by omega
      · refine takeH 8 22 (v := ?_) rfl rfl (by kernel_rfl) (by kernel_rfl) (by kernel_rfl) (fun _ _ _ h => h) (by rfl) (by assumption) ?_ ?_
        rotate_left
        · intro w hSw; go_simp; (first | done | with_reducible rfl | rfl)
        try simp only [Act.put, List.setIfInBounds_toArray, List.set_cons_zero, List.set_cons_succ]
        refine wpAnyH_ready (rs := [5]) (by decide +kernel) (by simp) ?_
        refine AllReadyH.cons rfl (fun K hK => ?_) AllReadyH.nil
        have bl := alloc_below' w7 (.cells #[.int .i64 (ps.length : Int), .int .i64 (m4 : Int)] 3)
        have HL6 := Lib.hid (heap_alloc_new w7 (.cells #[.int .i64 (ps.length : Int), .int .i64 (m4 : Int)] 3))
        have HR6 := Lib.hid (HR7.out.grow bl)
        have HK6 := Lib.hid (HK7.out.trans (Kept.of_below (fp := [rb]) bl))
        have hs6 : (w7.alloc (.cells #[.int .i64 (ps.length : Int), .int .i64 (m4 : Int)] 3)).heap.size = w7.heap.size + 1 := Array.size_push _
        have hH6 := (bl.block _ (Array.getElem?_eq_some_iff.1 hHeld).1).trans hHeld
        go_simp
        refine hK.out _ _ hH6 (fun hHeld => ?_)
        clear hK K bl
        try simp only [Act.put, List.setIfInBounds_toArray, List.set_cons_zero, List.set_cons_succ]
        generalize hw6 : (w7.alloc (.cells #[.int .i64 (ps.length : Int), .int .i64 (m4 : Int)] 3)) = w6 at *
        clear hw6
        have hcl : w6.cell? ⟨w7.heap.size, 0, none⟩ = some (.int .i64 ((ps.length : Nat) : Int)) := cell_of_row _ _ 0 _ _ _ HL6.out
        refine takeH 9 23 (v := ?_) rfl rfl (by kernel_rfl) (by kernel_rfl) (by kernel_rfl) (fun _ _ _ h => h) (by rfl) (by assumption) ?_ ?_
        rotate_left
        · intro w hSw; go_simp; (first | done | with_reducible rfl | rfl)
        try simp only [Act.put, List.setIfInBounds_toArray, List.set_cons_zero, List.set_cons_succ]
        refine wpAnyH_ready (rs := [10]) (by kernel_rfl) (by simp) ?_
        refine AllReadyH.cons rfl (fun K hK => ?_) AllReadyH.nil
        go_simp
        refine hK.out _ _ (hHeld) (fun hHeld => ?_)
        clear hK K
        try simp only [Act.put, List.setIfInBounds_toArray, List.set_cons_zero, List.set_cons_succ]
        refine takeH 11 7 (v := ?_) rfl rfl (by kernel_rfl) (by kernel_rfl) (by kernel_rfl) (fun _ _ _ h => h) (by rfl) (by assumption) ?_ ?_
        rotate_left
        · intro w hSw; go_simp; (first | done | with_reducible rfl | rfl)
        try simp only [Act.put, List.setIfInBounds_toArray, List.set_cons_zero, List.set_cons_succ]
        refine wpAnyH_done (by kernel_rfl) ?_ _
        refine NoPanic.normal ?_
        clear hHeld
        go_wp2
        go_meet
        case rel => exact ⟨ps.length, _, rfl, by omega, by omega, HR6.out, HK6.out⟩
      · refine takeH 8 22 (v := ?_) rfl rfl (by kernel_rfl) (by kernel_rfl) (by kernel_rfl) (fun _ _ _ h => h) (by rfl) (by assumption) ?_ ?_
        rotate_left
        · intro w hSw; go_simp; (first | done | with_reducible rfl | rfl)
        try simp only [Act.put, List.setIfInBounds_toArray, List.set_cons_zero, List.set_cons_succ]
        refine wpAnyH_ready (rs := [5]) (by decide +kernel) (by simp) ?_
        refine AllReadyH.cons rfl (fun K hK => ?_) AllReadyH.nil
        have bl := alloc_below' w7 (.cells #[.int .i64 (ps.length : Int), .int .i64 (m4 : Int)] 3)
        have HL6 := Lib.hid (heap_alloc_new w7 (.cells #[.int .i64 (ps.length : Int), .int .i64 (m4 : Int)] 3))
        have HR6 := Lib.hid (HR7.out.grow bl)
        have HK6 := Lib.hid (HK7.out.trans (Kept.of_below (fp := [rb]) bl))
        have hs6 : (w7.alloc (.cells #[.int .i64 (ps.length : Int), .int .i64 (m4 : Int)] 3)).heap.size = w7.heap.size + 1 := Array.size_push _
        have hH6 := (bl.block _ (Array.getElem?_eq_some_iff.1 hHeld).1).trans hHeld
        go_simp
        refine hK.out _ _ hH6 (fun hHeld => ?_)
        clear hK K bl
        try simp only [Act.put, List.setIfInBounds_toArray, List.set_cons_zero, List.set_cons_succ]
        generalize hw6 : (w7.alloc (.cells #[.int .i64 (ps.length : Int), .int .i64 (m4 : Int)] 3)) = w6 at *
        clear hw6
        have hcl : w6.cell? ⟨w7.heap.size, 0, none⟩ = some (.int .i64 ((ps.length : Nat) : Int)) := cell_of_row _ _ 0 _ _ _ HL6.out
        refine takeH 9 23 (v := ?_) rfl rfl (by kernel_rfl) (by kernel_rfl) (by kernel_rfl) (fun _ _ _ h => h) (by rfl) (by assumption) ?_ ?_
        rotate_left
        · intro w hSw; go_simp; (first | done | with_reducible rfl | rfl)
        try simp only [Act.put, List.setIfInBounds_toArray, List.set_cons_zero, List.set_cons_succ]
        refine wpAnyH_ready (rs := [10]) (by kernel_rfl) (by simp) ?_
        refine AllReadyH.cons rfl (fun K hK => ?_) AllReadyH.nil
        go_simp
        refine hK.out _ _ (hHeld) (fun hHeld => ?_)
        clear hK K
        try simp only [Act.put, List.setIfInBounds_toArray, List.set_cons_zero, List.set_cons_succ]
        refine takeH 11 7 (v := ?_) rfl rfl (by kernel_rfl) (by kernel_rfl) (by kernel_rfl) (fun _ _ _ h => h) (by rfl) (by assumption) ?_ ?_
        rotate_left
        · intro w hSw; go_simp; (first | done | with_reducible rfl | rfl)
        try simp only [Act.put, List.setIfInBounds_toArray, List.set_cons_zero, List.set_cons_succ]
        refine wpAnyH_done (by kernel_rfl) ?_ _
        refine NoPanic.normal ?_
        clear hHeld
        go_wp2
        go_meet
        case rel => exact ⟨ps.length, _, rfl, by omega, by omega, HR6.out, HK6.out⟩
      · refine takeH 8 22 (v := ?_) rfl rfl (by kernel_rfl) (by kernel_rfl) (by kernel_rfl) (fun _ _ _ h => h) (by rfl) (by assumption) ?_ ?_
        rotate_left
        · intro w hSw; go_simp; (first | done | with_reducible rfl | rfl)
        try simp only [Act.put, List.setIfInBounds_toArray, List.set_cons_zero, List.set_cons_succ]
        refine wpAnyH_ready (rs := [5]) (by decide +kernel) (by simp) ?_
        refine AllReadyH.cons rfl (fun K hK => ?_) AllReadyH.nil
        have bl := alloc_below' w7 (.cells #[.int .i64 (ps.length : Int), .int .i64 (m4 : Int)] 3)
        have HL6 := Lib.hid (heap_alloc_new w7 (.cells #[.int .i64 (ps.length : Int), .int .i64 (m4 : Int)] 3))
        have HR6 := Lib.hid (HR7.out.grow bl)
        have HK6 := Lib.hid (HK7.out.trans (Kept.of_below (fp := [rb]) bl))
        have hs6 : (w7.alloc (.cells #[.int .i64 (ps.length : Int), .int .i64 (m4 : Int)] 3)).heap.size = w7.heap.size + 1 := Array.size_push _
        have hH6 := (bl.block _ (Array.getElem?_eq_some_iff.1 hHeld).1).trans hHeld
        go_simp
        refine hK.out _ _ hH6 (fun hHeld => ?_)
        clear hK K bl
        try simp only [Act.put, List.setIfInBounds_toArray, List.set_cons_zero, List.set_cons_succ]
        generalize hw6 : (w7.alloc (.cells #[.int .i64 (ps.length : Int), .int .i64 (m4 : Int)] 3)) = w6 at *
        clear hw6
        have hcl : w6.cell? ⟨w7.heap.size, 1, none⟩ = some (.int .i64 ((m4 : Nat) : Int)) := cell_of_row _ _ 1 _ _ _ HL6.out
        refine takeH 9 23 (v := ?_) rfl rfl (by kernel_rfl) (by kernel_rfl) (by kernel_rfl) (fun _ _ _ h => h) (by rfl) (by assumption) ?_ ?_
        rotate_left
        · intro w hSw; go_simp; (first | done | with_reducible rfl | rfl)
        try simp only [Act.put, List.setIfInBounds_toArray, List.set_cons_zero, List.set_cons_succ]
        refine wpAnyH_ready (rs := [10]) (by kernel_rfl) (by simp) ?_
        refine AllReadyH.cons rfl (fun K hK => ?_) AllReadyH.nil
        go_simp
        refine hK.out _ _ (hHeld) (fun hHeld => ?_)
        clear hK K
        try simp only [Act.put, List.setIfInBounds_toArray, List.set_cons_zero, List.set_cons_succ]
        refine takeH 11 7 (v := ?_) rfl rfl (by kernel_rfl) (by kernel_rfl) (by kernel_rfl) (fun _ _ _ h => h) (by rfl) (by assumption) ?_ ?_
        rotate_left
        · intro w hSw; go_simp; (first | done | with_reducible rfl | rfl)
        try simp only [Act.put, List.setIfInBounds_toArray, List.set_cons_zero, List.set_cons_succ]
        refine wpAnyH_done (by kernel_rfl) ?_ _
        refine NoPanic.normal ?_
        clear hHeld
        go_wp2
        go_meet
        case rel => exact ⟨m4, _, rfl, by omega, by omega, HR6.out, HK6.out⟩
  case rest =>
    obtain ⟨m, qq, rfl, hm, hqq, hRc, hKc⟩ := hcut
    have hscw := hKc.size
    have HEc := Lib.hid (HE4.out.keptR hKc (by omega))
    have HKc := Lib.hid (HK34.out.trans hKc)
    clear HE4 HM4 HR4 hKc HK34
    go_wp2
    go_loopw [6, 8] (fun o i wr => ∃ (k qk : Nat) (L : List (Elem (List Tok))), k ≤ m ∧ i = .int .i64 k ∧ qk ≤ q + 2 + 300 * k ∧ Hid (L.length = k) ∧ Hid (RowE sToks (w2.heap.size + 1) 30 o L wr) ∧ (∀ b, o.ownBlock = some b → w2.heap.size + 1 ≤ b) ∧ Rd wr rb qk ∧ Kept [rb] W3 wr) (fun _ i _ => m - (intOf i).toNat)
    case atStart => exact ⟨0, qq, [], by omega, rfl, by omega, rfl, HEc, HEc.out.mine, hRc, HKc.out⟩
    case round =>
      obtain ⟨k, qk, L, hk, rfl, hqk, HLk, HE, hmine, hRk, hKk⟩ := hrel
      have hsk := hKk.size
      by_cases hlt : k < m
      · have e0 : decide ((k : Int) < (m : Int)) = true := decide_eq_true (by omega)
        go_wp2_with fail
        refine (l20Tokens_s rb qk _ _ hRk (by omega) (by omega) (by omega) 0 (by omega) (by omega)).mono ?_
        rintro e w5 ⟨v5, L5, q5, rfl, hE5, hok5, -, hl5, hq5, hR5, hK5, hst5⟩
        have hs5 := hK5.size
        obtain ⟨a5, c5, f5, rfl, r5, lo5, ty5⟩ := af_more (base := w2.heap.size + 1) hE5 hst5 (by omega)
        obtain ⟨ao, co, rfl, -⟩ := HE.out.val
        have HE5 := Lib.hid (HE.out.keptR hK5 (by omega))
        have HA := Lib.hid (And.intro r5 (And.intro lo5 ty5))
        have HR5 := Lib.hid hR5
        have HK5 := Lib.hid (hKk.trans hK5)
        clear hE5 hst5 hok5 r5 lo5 ty5 hR5 hK5 HE
        go_wp2_with (at_builtin; refine wp_append_toksE rfl (.tmp 30) (.tmp 33) rfl (w2.heap.size + 1) (w2.heap.size + 1) (.slice ao L.length co) L rfl HE5.out a5 L5.length c5 (L5.map (·.d)) f5 rfl HA.out.1 HA.out.2.1 HA.out.2.2 (by have := HLk.out; omega) (Nat.le_refl _) (by omega) HE5.out.mine ?_; intro v6 w6 hE6 hg6 hv6; have HE6 := Lib.hid hE6; have HR6 := Lib.hid (grownRd HR5.out hg6 (by omega : rb < w2.heap.size + 1) (fun b hb => HE5.out.mine b hb)); have HK6 := Lib.hid (grownKept HK5.out hg6 (fun b hb => by have := HE5.out.mine b hb; omega)); clear hE6 hg6)
        go_roundw
        case rel => exact ⟨k + 1, q5, _, by omega, by go_num, by omega, (by show _ = _; rw [List.length_append, HLk.out]; rfl), HE6, hv6, HR6.out, HK6.out⟩
        case measure => simp [intOf]; omega
      · have e0 : decide ((k : Int) < (m : Int)) = false := decide_eq_false (by omega)
        go_wp2_with fail
        refine (pick rb qk _ _ hRk (by omega) (by omega) (by omega)).mono ?_
        rintro e w5 ⟨r5, rfl, h50, h51, hR5, hK5⟩
        have hs5 := hK5.size
        have HE5 := Lib.hid (HE.out.keptR hK5 (by omega))
        have HK5 := Lib.hid (hKk.trans hK5)
        obtain ⟨ao, co, rfl, -⟩ := HE.out.val
        have HM5 := Lib.hid ((HK5.out.block w2.heap.size (by omega) (by simp; omega)).trans HM3.out)
        have HZ5 := Lib.hid ((HK5.out.block w.heap.size (by omega) (by simp; omega)).trans HZ3.out)
        have HT5 := Lib.hid (sMacro.kept HT3.out (fun b hb hx => by have := (HFL.out b hb).1; have e : b = rb := (by simpa using hx); omega) HK5.out)
        have HB5 := Lib.hid (kept_below (kept_below hBw HK3.out (by omega) hBw.size) HK5.out (by omega) (by omega))
        have hs35 := HK5.out.size
        clear HE HKc HEc hKk hK5 hR5 hRk hRc HM3 HZ3 HT3
        by_cases hr : r5 = 0
        · have hr' : (r5 == 0) = true := by simp [hr]
          clear hr
          have b1 := alloc_below' w5 (.cells #[] 56)
          have b2 := b1.trans ((alloc_below' (w5.alloc (.cells #[] 56)) (.cells #[.slice (some ⟨w5.heap.size, 0, none⟩) 0 0] 30)).mono b1.size)
          have HX := Lib.hid (heap_alloc_new (w5.alloc (.cells #[] 56)) (.cells #[.slice (some ⟨w5.heap.size, 0, none⟩) 0 0] 30))
          have hsx : (w5.alloc (.cells #[] 56)).heap.size = w5.heap.size + 1 := Array.size_push _
          have HA6 : Hid ((sSlice sToks).R ((w5.alloc (.cells #[] 56)).alloc (.cells #[.slice (some ⟨w5.heap.size, 0, none⟩) 0 0] 30)) [.slice (some ⟨w5.heap.size + 1, 0, none⟩) 1 1] [[]] [w5.heap.size + 1]) := by
            rw [hsx] at HX
            refine ⟨_, _, rfl, by simp, by unfold maxLen; simp, .inr ⟨by simp, w5.heap.size + 1, 0, fun _ => [], rfl, by simp, (Array.getElem?_eq_some_iff.1 HX.out).1, fun i hi => ?_⟩⟩
            have e0 : i = 0 := by simp at hi; omega
            subst e0
            refine ⟨[.slice (some ⟨w5.heap.size, 0, none⟩) 0 0], ⟨rfl, fun j hj => ?_⟩, slice_empty sTok _ _ 0 (by simp)⟩
            have e1 : j = 0 := by have : (sToks).m = 1 := rfl; omega
            subst e1
            exact cell_of_row _ _ _ _ _ _ HX.out
          have HM6 := Lib.hid ((b2.block w2.heap.size (by omega)).trans HM5.out)
          have HZ6 := Lib.hid ((b2.block w.heap.size (by omega)).trans HZ5.out)
          have HT6 := Lib.hid (sMacro.below HT5.out b2)
          have HB6 := Lib.hid (HB5.out.trans (b2.mono HB5.out.size))
          have HNA : Hid (w.heap.size ∉ [w5.heap.size + 1]) := by show _ ∉ _; simp; omega
          clear HX b1 b2 HM5 HZ5 HT5 HB5 HE5 HK5
          have x0 : ((w5.alloc (.cells #[] 56)).alloc (.cells #[.slice (some ⟨w5.heap.size, 0, none⟩) 0 0] 30)).cell? ⟨w2.heap.size, 0, none⟩ = some (.string nm) := cell_of_row _ _ 0 _ _ _ HM6.out
          have x1 : ((w5.alloc (.cells #[] 56)).alloc (.cells #[.slice (some ⟨w5.heap.size, 0, none⟩) 0 0] 30)).cell? ⟨w2.heap.size, 1, none⟩ = some (.bool f) := cell_of_row _ _ 1 _ _ _ HM6.out
          have x2 : ((w5.alloc (.cells #[] 56)).alloc (.cells #[.slice (some ⟨w5.heap.size, 0, none⟩) 0 0] 30)).cell? ⟨w2.heap.size, 2, none⟩ = some (.slice a2 ps.length c2) := cell_of_row _ _ 2 _ _ _ HM6.out
          have x3 : ((w5.alloc (.cells #[] 56)).alloc (.cells #[.slice (some ⟨w5.heap.size, 0, none⟩) 0 0] 30)).cell? ⟨w2.heap.size, 3, none⟩ = some (.slice a3 bd.length c3) := cell_of_row _ _ 3 _ _ _ HM6.out
          have z0 : ((w5.alloc (.cells #[] 56)).alloc (.cells #[.slice (some ⟨w5.heap.size, 0, none⟩) 0 0] 30)).cell? ⟨w.heap.size, 0, none⟩ = some (.string ⟨#[]⟩) := cell_of_row _ _ 0 _ _ _ HZ6.out
          have z1 : ((w5.alloc (.cells #[] 56)).alloc (.cells #[.slice (some ⟨w5.heap.size, 0, none⟩) 0 0] 30)).cell? ⟨w.heap.size, 1, none⟩ = some (.bool false) := cell_of_row _ _ 1 _ _ _ HZ6.out
          have z2 : ((w5.alloc (.cells #[] 56)).alloc (.cells #[.slice (some ⟨w5.heap.size, 0, none⟩) 0 0] 30)).cell? ⟨w.heap.size, 2, none⟩ = some (.slice none 0 0) := cell_of_row _ _ 2 _ _ _ HZ6.out
          have z3 : ((w5.alloc (.cells #[] 56)).alloc (.cells #[.slice (some ⟨w5.heap.size, 0, none⟩) 0 0] 30)).cell? ⟨w.heap.size, 3, none⟩ = some (.slice none 0 0) := cell_of_row _ _ 3 _ _ _ HZ6.out
          have zf0 : ((w5.alloc (.cells #[] 56)).alloc (.cells #[.slice (some ⟨w5.heap.size, 0, none⟩) 0 0] 30)).frozen? ⟨w.heap.size, 0, none⟩ = false := frozen_of_row _ _ 0 _ _ HZ6.out
          have zf1 : ((w5.alloc (.cells #[] 56)).alloc (.cells #[.slice (some ⟨w5.heap.size, 0, none⟩) 0 0] 30)).frozen? ⟨w.heap.size, 1, none⟩ = false := frozen_of_row _ _ 1 _ _ HZ6.out
          have zf2 : ((w5.alloc (.cells #[] 56)).alloc (.cells #[.slice (some ⟨w5.heap.size, 0, none⟩) 0 0] 30)).frozen? ⟨w.heap.size, 2, none⟩ = false := frozen_of_row _ _ 2 _ _ HZ6.out
          have zf3 : ((w5.alloc (.cells #[] 56)).alloc (.cells #[.slice (some ⟨w5.heap.size, 0, none⟩) 0 0] 30)).frozen? ⟨w.heap.size, 3, none⟩ = false := frozen_of_row _ _ 3 _ _ HZ6.out
          have HS := Lib.hid (blk_set (blk_set (blk_set (blk_set HZ6.out 0 (.string nm)) 1 (.bool f)) 2 (.slice a2 ps.length c2)) 3 (.slice a3 bd.length c3))
          have hnf : w.heap.size ∉ fp' := fun hx => by have := (HFL.out _ hx).1; omega
          have HTF := Lib.hid (sMacro.setB (sMacro.setB (sMacro.setB (sMacro.setB HT6.out hnf 0 (.string nm)) hnf 1 (.bool f)) hnf 2 (.slice a2 ps.length c2)) hnf 3 (.slice a3 bd.length c3))
          have HAF := Lib.hid ((sSlice sToks).setB ((sSlice sToks).setB ((sSlice sToks).setB ((sSlice sToks).setB HA6.out HNA.out 0 (.string nm)) HNA.out 1 (.bool f)) HNA.out 2 (.slice a2 ps.length c2)) HNA.out 3 (.slice a3 bd.length c3))
          have HBF := Lib.hid ((((HB6.out.setCell (p := ⟨w.heap.size, 0, none⟩) (Nat.le_refl _) (.string nm)).setCell (p := ⟨w.heap.size, 1, none⟩) (Nat.le_refl _) (.bool f)).setCell (p := ⟨w.heap.size, 2, none⟩) (Nat.le_refl _) (.slice a2 ps.length c2)).setCell (p := ⟨w.heap.size, 3, none⟩) (Nat.le_refl _) (.slice a3 bd.length c3))
          clear HM6 HZ6 HT6 HB6 HA6
          go_wp2
          refine bodyPost_ret (results_cell2 rfl _ _ w.heap.size _ _ _ _ rfl HS.out Try.underlying32 rfl (by kernel_rfl)) rfl ?_
          exact ⟨nm, f, _, _, ps, bd, fp', _, _, _, rfl, HTF.out, HAF.out, HBF.out⟩
        · have hr' : (r5 == 0) = false := by simp [hr]
          clear hr
          obtain ⟨fpr, hra, hrl⟩ := HE5.out.readLo
          have HA6 := Lib.hid hra
          have HM6 := HM5
          have HZ6 := HZ5
          have HT6 := HT5
          have HB6 := HB5
          have HNA : Hid (w.heap.size ∉ fpr) := fun hx => by have := hrl _ hx; omega
          clear hra hrl HM5 HZ5 HT5 HB5 HE5 HK5
          have x0 : w5.cell? ⟨w2.heap.size, 0, none⟩ = some (.string nm) := cell_of_row _ _ 0 _ _ _ HM6.out
          have x1 : w5.cell? ⟨w2.heap.size, 1, none⟩ = some (.bool f) := cell_of_row _ _ 1 _ _ _ HM6.out
          have x2 : w5.cell? ⟨w2.heap.size, 2, none⟩ = some (.slice a2 ps.length c2) := cell_of_row _ _ 2 _ _ _ HM6.out
          have x3 : w5.cell? ⟨w2.heap.size, 3, none⟩ = some (.slice a3 bd.length c3) := cell_of_row _ _ 3 _ _ _ HM6.out
          have z0 : w5.cell? ⟨w.heap.size, 0, none⟩ = some (.string ⟨#[]⟩) := cell_of_row _ _ 0 _ _ _ HZ6.out
          have z1 : w5.cell? ⟨w.heap.size, 1, none⟩ = some (.bool false) := cell_of_row _ _ 1 _ _ _ HZ6.out
          have z2 : w5.cell? ⟨w.heap.size, 2, none⟩ = some (.slice none 0 0) := cell_of_row _ _ 2 _ _ _ HZ6.out
          have z3 : w5.cell? ⟨w.heap.size, 3, none⟩ = some (.slice none 0 0) := cell_of_row _ _ 3 _ _ _ HZ6.out
          have zf0 : w5.frozen? ⟨w.heap.size, 0, none⟩ = false := frozen_of_row _ _ 0 _ _ HZ6.out
          have zf1 : w5.frozen? ⟨w.heap.size, 1, none⟩ = false := frozen_of_row _ _ 1 _ _ HZ6.out
          have zf2 : w5.frozen? ⟨w.heap.size, 2, none⟩ = false := frozen_of_row _ _ 2 _ _ HZ6.out
          have zf3 : w5.frozen? ⟨w.heap.size, 3, none⟩ = false := frozen_of_row _ _ 3 _ _ HZ6.out
          have HS := Lib.hid (blk_set (blk_set (blk_set (blk_set HZ6.out 0 (.string nm)) 1 (.bool f)) 2 (.slice a2 ps.length c2)) 3 (.slice a3 bd.length c3))
          have hnf : w.heap.size ∉ fp' := fun hx => by have := (HFL.out _ hx).1; omega
          have HTF := Lib.hid (sMacro.setB (sMacro.setB (sMacro.setB (sMacro.setB HT6.out hnf 0 (.string nm)) hnf 1 (.bool f)) hnf 2 (.slice a2 ps.length c2)) hnf 3 (.slice a3 bd.length c3))
          have HAF := Lib.hid ((sSlice sToks).setB ((sSlice sToks).setB ((sSlice sToks).setB ((sSlice sToks).setB HA6.out HNA.out 0 (.string nm)) HNA.out 1 (.bool f)) HNA.out 2 (.slice a2 ps.length c2)) HNA.out 3 (.slice a3 bd.length c3))
          have HBF := Lib.hid ((((HB6.out.setCell (p := ⟨w.heap.size, 0, none⟩) (Nat.le_refl _) (.string nm)).setCell (p := ⟨w.heap.size, 1, none⟩) (Nat.le_refl _) (.bool f)).setCell (p := ⟨w.heap.size, 2, none⟩) (Nat.le_refl _) (.slice a2 ps.length c2)).setCell (p := ⟨w.heap.size, 3, none⟩) (Nat.le_refl _) (.slice a3 bd.length c3))
          clear HM6 HZ6 HT6 HB6 HA6
          go_wp2
          refine bodyPost_ret (results_cell2 rfl _ _ w.heap.size _ _ _ _ rfl HS.out Try.underlying32 rfl (by kernel_rfl)) rfl ?_
          exact ⟨nm, f, _, _, ps, bd, fp', _, _, _, rfl, HTF.out, HAF.out, HBF.out⟩

end Go.Proofs.Ythbojipdhgidlaa
