/- Texts that the proof of U stands on, in one file. -/
import Derived.Test.YtflbdanlcpojbaaZU1
import Derived.Test.YtflbdanlcpojbaaZU3
import Derived.Test.YtflbdanlcpojbaaZU2
import Derived.Deep.RegionHeld3
import Derived.Deep.QuietTactic
import Derived.BigQuiet
import Derived.Outline
import Derived.StillTailTactics
set_option linter.unusedVariables false
set_option linter.unusedSimpArgs false
/- Printing tokens: no program. -/
namespace Go.Proofs.Ytflbdanlcpojbaa
open Go.RowKit

theorem ext_get (s : ByteArray) (i j k : Nat) (h : k < (s.extract i j).size) : (s.extract i j)[k] = s[i + k]'(by rw [ByteArray.size_extract] at h; omega) := by
  rw [ByteArray.getElem_extract]

/-- A token's kind is that of its first byte. -/
def Headed (t : Tok) : Prop := ∃ h : 0 < t.text.size, t.kind = cutKind t.text[0]
theorem toks_head (s : ByteArray) : ∀ (k : Nat) (sp : Bool) (n : Nat) (l : List Tok), toks s k sp n = some l → ∀ t ∈ l, Headed t := by
  intro k sp n
  induction k, sp, n using toks.induct (s := s) with
  | case1 k sp n hk h32 ih =>
    intro l h
    rw [toks, dif_pos hk, if_pos h32] at h
    exact ih l h
  | case2 k sp n hk h32 hb =>
    intro l h
    rw [toks, dif_pos hk, if_neg h32, if_pos hb] at h
    exact absurd h (by simp)
  | case3 k sp n hk h32 hb ih =>
    intro l h t ht
    rw [toks, dif_pos hk, if_neg h32, if_neg hb] at h
    have hr := cutEnd_room (s := s) (k := k) (by omega)
    rw [Option.map_eq_some_iff] at h
    obtain ⟨l', h1, rfl⟩ := h
    rcases List.mem_cons.1 ht with rfl | ht
    · have hz : 0 < (s.extract k (cutEnd s k).toNat).size := by rw [ByteArray.size_extract]; omega
      refine ⟨hz, ?_⟩
      show cutKind s[k] = cutKind (s.extract k (cutEnd s k).toNat)[0]
      rw [ext_get]; rfl
    · exact ih l' h1 t ht
  | case4 k sp n hk =>
    intro l h
    rw [toks, dif_neg hk] at h
    simp only [Option.some.injEq] at h
    subst h; simp
theorem tokRes_head (s : ByteArray) : ∀ t ∈ (tokRes s).1, Headed t := by
  rcases hr : tokRes s with ⟨l, ok⟩
  cases ok
  · obtain rfl := tokRes_false hr
    simp
  · exact toks_head s 0 false 0 l (tokRes_true hr).1
theorem oneTok_res {x : ByteArray} {k : Int} (h : oneTok x k = true) : ∃ t, tokRes x = ([t], true) ∧ t.kind = k ∧ t.text = x := by
  rcases one_ways x k with ⟨_, HG⟩ | ⟨l, _, _, HG⟩ | ⟨t', _, _, HG⟩ | ⟨t', _, _, _, HG⟩ | ⟨t', hr, hk, hx, _, _⟩
  · exact absurd (HG.out.symm.trans h) (by simp)
  · exact absurd (HG.out.symm.trans h) (by simp)
  · exact absurd (HG.out.symm.trans h) (by simp)
  · exact absurd (HG.out.symm.trans h) (by simp)
  · exact ⟨t', hr, hk, hx⟩
/-- What is known of a valid token. -/
theorem tokOk_facts {t : Tok} (h : tokOk t = true) : Headed t ∧ t.text.size ≤ 200 := by
  unfold tokOk at h
  rw [Bool.and_eq_true] at h
  obtain ⟨u, hr, hk, hx⟩ := oneTok_res h.1
  have h1 := tokRes_head t.text u (by rw [hr]; simp)
  have h2 := lineOk_size (tokRes_true hr).2
  refine ⟨?_, h2⟩
  obtain ⟨a, b⟩ := h1
  obtain ⟨k, x, s, hd⟩ := t
  subst hx
  exact ⟨a, (show k = u.kind from hk.symm).trans b⟩

/-- The texts of the tokens are these two. -/
def readsTwo (a b : ByteArray) : Bool := (tokRes (a ++ b)).2 && decide ((tokRes (a ++ b)).1.map (·.text) = [a, b])
/-- Two texts have // or /* where they meet. -/
def meets (a b : ByteArray) : Bool := if h : 0 < a.size ∧ 0 < b.size then decide (a[a.size - 1].toNat = 47) && (decide (b[0].toNat = 47) || decide (b[0].toNat = 42)) else false
def glued (a b : ByteArray) : Bool := !readsTwo a b || meets a b
theorem toksOk_facts {l : List Tok} (h : toksOk l = true) : l.length ≤ 60 ∧ ∀ k, (hk : k < l.length) → tokOk l[k] = true := by
  unfold toksOk at h
  rw [Bool.and_eq_true, decide_eq_true_eq, List.all_eq_true] at h
  exact ⟨h.1, fun k hk => h.2 _ (List.getElem_mem hk)⟩
end Go.Proofs.Ytflbdanlcpojbaa

/- Tokens and the law's own helpers. -/
namespace Go.Proofs.Ytflbdanlcpojbaa
open Go.RowKit

def mkToken (k : Int) (x : Tok) : Tok := ⟨k, mtext (k + 1), (k + 1 + 1) % 3 == 0, marks mtext (k + 1 + 1 + 1) x.hidden.length⟩
def cntToken (x : Tok) : Nat := 3 + x.hidden.length
def mkTokenS (k : Int) (l : List Tok) : List Tok := mkAll mkToken cntToken k l
def cntTokenS (l : List Tok) : Nat := cntAll cntToken l

set_option maxHeartbeats 1000000 in
theorem eqToken_same (cs1 cs2 : List Value) (x : Tok) (fp1 fp2 : List Nat) (w : World) (H1 : sTok.R w cs1 x fp1) (H2 : sTok.R w cs2 x fp2) :
    Calls Try.prog 41 #[.agg cs1.toArray, .agg cs2.toArray] w fun e w' => e = .returned (.bool true) ∧ Below w.heap.size w w' := by
  obtain ⟨h1, rfl, _, _, K1⟩ := H1
  obtain ⟨h2, rfl, _, _, K2⟩ := H2
  have b0 := alloc_below' w (.cells #[.int .i64 x.kind, .string x.text, .bool x.spaced, h1] 35)
  have b1 := b0.trans ((alloc_below' (w.alloc (.cells #[.int .i64 x.kind, .string x.text, .bool x.spaced, h1] 35)) (.cells #[.int .i64 x.kind, .string x.text, .bool x.spaced, h2] 35)).mono b0.size)
  have HC : Hid (∀ W, Below w.heap.size w W → Calls Try.prog 42 #[h1, h2] W fun e w' => e = .returned (.bool true) ∧ Below W.heap.size W w') := fun W hb => eqStringS_same h1 h2 x.hidden fp1 fp2 W ((sSlice sStr).below K1 hb) ((sSlice sStr).below K2 hb)
  have e1 : (x.kind != x.kind) = false := by simp
  have e2 := bytes_beq (rfl : x.text = x.text)
  have e3 : (x.spaced != x.spaced) = false := by simp
  go_enter Try.func41, Try.ntmps41
  go_wp2_with (go_at_call 42; refine (HC.out _ b1).mono ?_; rintro e w1 ⟨rfl, hb1⟩)
  go_ret
  exact ⟨rfl, b1.trans (hb1.mono b1.size)⟩

set_option maxHeartbeats 4000000 in
set_option maxRecDepth 100000 in
theorem eqTokenS_same (v1 v2 : Value) (l : List Tok) (fp1 fp2 : List Nat) (w : World) (H1 : (sSlice sTok).R w [v1] l fp1) (H2 : (sSlice sTok).R w [v2] l fp2) :
    Calls Try.prog 14 #[v1, v2] w fun e w' => e = .returned (.bool true) ∧ Below w.heap.size w w' := by
  obtain ⟨a1, cap1, rfl, hc1, hm1, hrow1⟩ := open_rows H1
  obtain ⟨a2, cap2, rfl, hc2, hm2, hrow2⟩ := open_rows H2
  unfold maxLen at hm1 hm2
  have hnb : ((l.length : Int) != (l.length : Int)) = false := by simp
  go_enter Try.func14, Try.ntmps14
  go_wp2
  go_loopw [5] (fun i wr => ∃ k : Nat, k ≤ l.length ∧ i = .int .i64 k ∧ Below w.heap.size w wr) (fun i _ => l.length - (intOf i).toNat)
  case atStart => exact ⟨0, by omega, rfl, Below.refl _ _⟩
  case round =>
    obtain ⟨k, hk, rfl, hb⟩ := hrel
    by_cases hlt : k < l.length
    · obtain ⟨b1, off1, fps1, rfl, hb1, rfl, he1⟩ := hrow1 (by omega)
      obtain ⟨b2, off2, fps2, rfl, hb2, rfl, he2⟩ := hrow2 (by omega)
      obtain ⟨es1, hE1, hR1⟩ := he1 k hlt
      obtain ⟨es2, hE2, hR2⟩ := he2 k hlt
      clear hrow1 hrow2 he1 he2 H1 H2
      have hR1' := hR1
      have hR2' := hR2
      obtain ⟨h1, rfl, _, _, K1⟩ := hR1'
      obtain ⟨h2, rfl, _, _, K2⟩ := hR2'
      have hE1' := hE1.frame (hb.block b1 hb1)
      have hE2' := hE2.frame (hb.block b2 hb2)
      have HC : Hid (∀ W, Below wr.heap.size wr W → Calls Try.prog 41 #[.agg #[.int .i64 l[k].kind, .string l[k].text, .bool l[k].spaced, h1], .agg #[.int .i64 l[k].kind, .string l[k].text, .bool l[k].spaced, h2]] W fun e w' => e = .returned (.bool true) ∧ Below W.heap.size W w') := fun W hW => eqToken_same _ _ l[k] _ _ W (sTok.below (sTok.below hR1 hb) hW) (sTok.below (sTok.below hR2 hb) hW)
      have c10 : wr.cell? ⟨b1, off1 + k * 4, none⟩ = some _ := elem_cell0 hE1' (by decide) rfl
      have c11 : wr.cell? ⟨b1, off1 + k * 4 + 1, none⟩ = some _ := elem_cell (j := 1) hE1' (by decide) rfl
      have c12 : wr.cell? ⟨b1, off1 + k * 4 + 2, none⟩ = some _ := elem_cell (j := 2) hE1' (by decide) rfl
      have c13 : wr.cell? ⟨b1, off1 + k * 4 + 3, none⟩ = some _ := elem_cell (j := 3) hE1' (by decide) rfl
      have c20 : wr.cell? ⟨b2, off2 + k * 4, none⟩ = some _ := elem_cell0 hE2' (by decide) rfl
      have c21 : wr.cell? ⟨b2, off2 + k * 4 + 1, none⟩ = some _ := elem_cell (j := 1) hE2' (by decide) rfl
      have c22 : wr.cell? ⟨b2, off2 + k * 4 + 2, none⟩ = some _ := elem_cell (j := 2) hE2' (by decide) rfl
      have c23 : wr.cell? ⟨b2, off2 + k * 4 + 3, none⟩ = some _ := elem_cell (j := 3) hE2' (by decide) rfl
      go_wp2_with fail
      go_still_tail 8, (by kernel_rfl)
      change wpList _ _ _ _ _ wr.drew
      have hd : Below wr.heap.size wr wr.drew := belowN (Below.refl _ _) 1
      generalize wr.drew = w2 at *
      go_wp2_with (go_at_call 41; refine (HC.out _ hd).mono ?_; rintro e w3 ⟨rfl, hb3⟩)
      go_roundw
      case rel => exact ⟨k + 1, by omega, by go_num, (hb.trans (hd.mono hb.size)).trans (hb3.mono (Nat.le_trans hb.size hd.size))⟩
      case measure => simp [intOf]; omega
    · go_wp2
      go_ret
      exact ⟨rfl, hb⟩

set_option maxHeartbeats 4000000 in
set_option maxRecDepth 100000 in
theorem markTokenS (v : Value) (l : List Tok) (fp : List Nat) (lo : Nat) (k : Int) (w : World) (h0 : 0 ≤ k) (h1 : k + cntTokenS l ≤ 2305843009213693952) (H : (sSlice sTok).R w [v] l fp) (O : Own w lo fp) :
    Calls Try.prog 19 #[v, .int .i64 k] w (Marked (sSlice sTok) v (mkTokenS k l) fp lo (k + cntTokenS l) w) := by
  have HI := Lib.hid H
  obtain ⟨a, cap, rfl, hc, hm, hrow0⟩ := open_rows H
  have hm' := hm
  unfold maxLen at hm
  clear H hrow0
  go_enter Try.func19, Try.ntmps19
  go_wp2
  go_loopw [1, 5] (fun t i wr => ∃ (j : Nat) (L : List Tok) (kk : Int), j ≤ l.length ∧ i = .int .i64 j ∧ t = .int .i64 kk ∧ Hid (kk = k + cntAll cntToken (l.take j)) ∧ Hid (MkUpto mkToken cntToken k l j L) ∧ Hid ((sSlice sTok).R wr [.slice a l.length cap] L fp) ∧ Own wr lo fp ∧ Kept fp w wr) (fun _ i _ => l.length - (intOf i).toNat)
  case atStart => exact ⟨0, l, k, by omega, rfl, rfl, by show _ = _; simp [cntAll], MkUpto.zero _ _, HI.out, O, Kept.refl _ _⟩
  case round =>
    obtain ⟨j, L, kk, hj, rfl, rfl, HKK, HM, HR, HO, HK⟩ := hrel
    by_cases hlt : j < l.length
    · obtain ⟨a', cap', hv, hc', hm'', hrow⟩ := open_rows HR.out
      have hLl := HM.out.len
      obtain ⟨b, off, fps, hab, hb, hfp, he⟩ := hrow (by omega)
      simp only [Value.slice.injEq] at hv
      obtain ⟨rfl, hv2, rfl⟩ := hv
      subst hab
      clear hv2
      rw [hLl] at hfp
      subst hfp
      obtain ⟨es, hE, hR⟩ := he j (by omega)
      rw [HM.out.at hlt] at hR
      have hle := cntAll_le (c := cntToken) l (j + 1)
      rw [cntAll_take hlt] at hle
      have hKb : (0 : Int) ≤ kk ∧ kk + 3 + l[j].hidden.length ≤ 2305843009213693952 := by
        have := HKK.out
        unfold cntTokenS at h1
        have hc3 : cntToken l[j] = 3 + l[j].hidden.length := rfl
        omega
      obtain ⟨hk0, hk1⟩ := hKb
      have HX := Lib.hid (HM.out.succ hlt)
      have HXK : Hid (kk + 3 + l[j].hidden.length = k + cntAll cntToken (l.take (j + 1))) := by
        show _ = _
        rw [cntAll_take hlt]
        have := HKK.out
        have hc3 : cntToken l[j] = 3 + l[j].hidden.length := rfl
        omega
      rw [← HKK.out] at HX
      obtain ⟨h3, rfl, _, _, K3⟩ := hR
      have hnd := HO.1
      have hap := flat_apart hnd hlt
      have hbm : b ∈ b :: (List.range l.length).flatMap fps := by simp
      have Hrow : Hid (∀ (w' : World) (d : Tok) (es' : List Value), Turned b (off + j * sTok.m) (off + j * sTok.m + sTok.m) (fps j) wr w' → ElemAt w' b off sTok.m j es' → sTok.R w' es' d (fps j) → (sSlice sTok).R w' [.slice (some ⟨b, off, none⟩) l.length cap] (L.set j d) (b :: (List.range l.length).flatMap fps)) :=
        fun w' d es' hT h1 h2 => row_turned hLl hc hm' hb he hlt hnd hT h1 h2
      clear he hrow hc' hm'' hle h1 hLl
      have hm4 : sTok.m = 4 := rfl
      rw [hm4] at hE
      have HW0 := Lib.hid (Wr.start (fpj := fps j) hE HO hb hbm hap.1)
      have c0 := HW0.out.cell0 (by decide) rfl
      have f0 := HW0.out.frozen (off + j * 4)
      go_wp2_with fail
      refine (markText _ _ (by omega)).mono ?_
      rintro e W2 ⟨rfl, hb2⟩
      have HW1 := Lib.hid ((HW0.out.set0 (by decide) (.int .i64 kk)).below hb2)
      have K31 := (sSlice sStr).below ((sSlice sStr).setB K3 hap.1 (off + j * 4) (.int .i64 kk)) hb2
      have c1 := HW1.out.cell 1 (by decide) rfl
      have f1 := HW1.out.frozen (off + j * 4 + 1)
      have HW2 := Lib.hid (HW1.out.set 1 (by decide) (.string (mtext (kk + 1))))
      have K32 := (sSlice sStr).setB K31 hap.1 (off + j * 4 + 1) (.string (mtext (kk + 1)))
      have c2 := HW2.out.cell 2 (by decide) rfl
      have f2 := HW2.out.frozen (off + j * 4 + 2)
      have HW3 := Lib.hid (HW2.out.set 2 (by decide) (.bool ((kk + 1 + 1) % 3 == 0)))
      have K33 := (sSlice sStr).setB K32 hap.1 (off + j * 4 + 2) (.bool ((kk + 1 + 1) % 3 == 0))
      have c3 := HW3.out.cell 3 (by decide) rfl
      have HN3 := Lib.hid (HW3.out.o.sub (flat_nodup hnd hlt) (flat_sub hlt))
      have HOK : Hid (okInt kk ∧ okStr (mtext (kk + 1))) := ⟨⟨by omega, by omega⟩, mtext_size (by omega)⟩
      clear c0 f0 hE hb2 K31 K32 HW1 HW0
      go_wp2_with fail
      refine (markStringS _ _ _ lo _ _ (by omega) (by omega) K33 HN3.out).mono ?_
      rintro e W5 ⟨rfl, R5, O5, hk5⟩
      have HW5 := Lib.hid (HW3.out.sub hk5 O5 (fun x hx => hx))
      clear hk5 c3 f1 f2 c1 c2 HW3 HW2 K33 HN3
      have HR5 := Lib.hid (Hrow.out W5 (mkToken kk l[j]) _ HW5.out.t HW5.out.e ⟨h3, rfl, HOK.out.1, HOK.out.2, R5⟩)
      have HK5 := Lib.hid (HK.trans (HW5.out.t.keptAll hlt))
      have HO5 := Lib.hid HW5.out.o
      have hk2 : kk + 1 + 1 + 1 + (l[j].hidden.length : Int) = kk + 3 + l[j].hidden.length := by omega
      clear Hrow HW5 R5 O5 HR HO HK hnd hap hb
      go_wp2
      go_roundw
      case rel => exact ⟨j + 1, _, _, by omega, by go_num, rfl, by show _ = _; have := HXK.out; omega, HX, HR5, HO5.out, HK5.out⟩
      case measure => simp [intOf]; omega
    · have HD := HM.out.done (by omega)
      have hjl : l.take j = l := List.take_of_length_le (by omega)
      have HKD := HKK.out
      rw [hjl] at HKD
      have HF := Lib.hid HKD
      have HRD := HR.out
      rw [HD] at HRD
      have HRF := Lib.hid HRD
      clear hjl HKD HRD HR HM HKK HD
      go_wp2
      go_ret
      exact ⟨by rw [HF.out]; rfl, HRF.out, HO, HK⟩

set_option maxHeartbeats 4000000 in
set_option maxRecDepth 100000 in
theorem heldTokenS (v : Value) (l : List Tok) (fp : List Nat) (k : Int) (w : World) (h0 : 0 ≤ k) (h1 : k + cntTokenS l ≤ 2305843009213693952) (H : (sSlice sTok).R w [v] (mkTokenS k l) fp) :
    Calls Try.prog 20 #[v, .int .i64 k] w fun e w' => e = .returned (.int .i64 (k + cntTokenS l)) ∧ Below w.heap.size w w' := by
  obtain ⟨a, cap, rfl, hc, hm, hrow⟩ := open_rows H
  have hml : (mkTokenS k l).length = l.length := mkAll_len _ _
  rw [hml] at hc ⊢
  unfold maxLen at hm
  have Hrow : Hid (∀ j, (hj : j < l.length) → ∃ b off fps h, a = some ⟨b, off, none⟩ ∧ b < w.heap.size ∧ ElemAt w b off 4 j [.int .i64 (k + cntAll cntToken (l.take j)), .string (mtext (k + cntAll cntToken (l.take j) + 1)), .bool ((k + cntAll cntToken (l.take j) + 1 + 1) % 3 == 0), h] ∧ (sSlice sStr).R w [h] (marks mtext (k + cntAll cntToken (l.take j) + 1 + 1 + 1) l[j].hidden.length) fps) := by
    intro j hj
    obtain ⟨b, off, fps, hab, hb, _, he⟩ := hrow (by omega)
    obtain ⟨es, hE, hR⟩ := he j (by rw [hml]; exact hj)
    have hg : (mkTokenS k l)[j]'(by rw [hml]; exact hj) = mkToken (k + cntAll cntToken (l.take j)) l[j] := mkAll_get k j hj
    rw [hg] at hR
    obtain ⟨h, rfl, _, _, K⟩ := hR
    exact ⟨b, off, fps j, h, hab, hb, hE, K⟩
  clear H hrow hml
  go_enter Try.func20, Try.ntmps20
  go_wp2
  go_loopw [1, 5] (fun t i wr => ∃ (j : Nat) (kk : Int), j ≤ l.length ∧ i = .int .i64 j ∧ t = .int .i64 kk ∧ Hid (kk = k + cntAll cntToken (l.take j)) ∧ Below w.heap.size w wr) (fun _ i _ => l.length - (intOf i).toNat)
  case atStart => exact ⟨0, k, by omega, rfl, rfl, by show _ = _; simp [cntAll], Below.refl _ _⟩
  case round =>
    obtain ⟨j, kk, hj, rfl, rfl, HKK, hbel⟩ := hrel
    by_cases hlt : j < l.length
    · obtain ⟨b, off, fpj, h, rfl, hb, hE, K⟩ := Hrow.out j hlt
      have hle := cntAll_le (c := cntToken) l (j + 1)
      rw [cntAll_take hlt] at hle
      have hKb : (0 : Int) ≤ kk ∧ kk + 3 + l[j].hidden.length ≤ 2305843009213693952 := by
        have := HKK.out
        unfold cntTokenS at h1
        have hc3 : cntToken l[j] = 3 + l[j].hidden.length := rfl
        omega
      obtain ⟨hk0, hk1⟩ := hKb
      have HXK : Hid (kk + 3 + l[j].hidden.length = k + cntAll cntToken (l.take (j + 1))) := by
        show _ = _
        rw [cntAll_take hlt]
        have := HKK.out
        have hc3 : cntToken l[j] = 3 + l[j].hidden.length := rfl
        omega
      rw [← HKK.out] at hE K
      replace hE := hE.frame (hbel.block b hb)
      replace K := (sSlice sStr).below K hbel
      have hbr : b < wr.heap.size := Nat.lt_of_lt_of_le hb hbel.size
      have c0 : wr.cell? ⟨b, off + j * 4, none⟩ = some _ := elem_cell0 hE (by decide) rfl
      have c1 : wr.cell? ⟨b, off + j * 4 + 1, none⟩ = some _ := elem_cell hE (by decide) rfl
      have c2 : wr.cell? ⟨b, off + j * 4 + 2, none⟩ = some _ := elem_cell hE (by decide) rfl
      have c3 : wr.cell? ⟨b, off + j * 4 + 3, none⟩ = some _ := elem_cell hE (by decide) rfl
      have e0 : (kk != kk) = false := by simp
      have e1 := bytes_beq (rfl : mtext (kk + 1) = mtext (kk + 1))
      have e2 : (((kk + 1 + 1) % 3 == 0) != ((kk + 1 + 1) % 3 == 0)) = false := by simp
      clear Hrow h1 hle
      go_wp2_with fail
      go_region_held3 (fun w' => w'.cell? ⟨b, off + j * 4 + 1, none⟩ = some (.string (mtext (kk + 1))))
        (first | go_keep | ((rw [hb2.cell (p := ⟨b, off + j * 4 + 1, none⟩) (by simp; omega)]; assumption)))
        (first | (go_at_call 44; refine (markText _ _ (by omega)).mono ?_; rintro e w2 ⟨rfl, hb2⟩))
      have hbw := hbel.drew.trans (hb2.mono hbel.size)
      have c2' : w2.cell? ⟨b, off + j * 4 + 2, none⟩ = some _ := (hb2.cell (p := ⟨b, off + j * 4 + 2, none⟩) (by simp; omega)).trans c2
      have c3' : w2.cell? ⟨b, off + j * 4 + 3, none⟩ = some _ := (hb2.cell (p := ⟨b, off + j * 4 + 3, none⟩) (by simp; omega)).trans c3
      have K2 := (sSlice sStr).below ((sSlice sStr).frame (w' := wr.drew) (fun _ _ => rfl) K) hb2
      clear c0 c1 c2 c3 K hE hb2
      go_wp2_with (go_at_call 45; refine (heldStringS _ _ _ _ _ (by omega) (by omega) K2).mono ?_; rintro e w3 ⟨rfl, hb3⟩)
      go_roundw
      case rel => exact ⟨j + 1, _, by omega, by go_num, rfl, by show _ = _; have := HXK.out; omega, hbw.trans (hb3.mono hbw.size)⟩
      case measure => simp [intOf]; omega
    · have hjl : l.take j = l := List.take_of_length_le (by omega)
      have HKD := HKK.out
      rw [hjl] at HKD
      have HF := Lib.hid HKD
      clear hjl HKD HKK
      go_wp2
      go_ret
      exact ⟨by rw [HF.out]; rfl, hbel⟩

end Go.Proofs.Ytflbdanlcpojbaa

/- How many tokens there are: no program. -/
namespace Go.Proofs.Ytflbdanlcpojbaa
open Go.RowKit

theorem toks_all (s : ByteArray) : ∀ (k : Nat) (sp : Bool) (n : Nat) (l : List Tok), toks s k sp n = some l → n ≤ 60 → n + l.length ≤ 60 ∧ ∀ t ∈ l, t.hidden = [] := by
  intro k sp n
  induction k, sp, n using toks.induct (s := s) with
  | case1 k sp n hk h32 ih =>
    intro l h hn
    rw [toks, dif_pos hk, if_pos h32] at h
    exact ih l h hn
  | case2 k sp n hk h32 hb =>
    intro l h hn
    rw [toks, dif_pos hk, if_neg h32, if_pos hb] at h
    exact absurd h (by simp)
  | case3 k sp n hk h32 hb ih =>
    intro l h hn
    rw [toks, dif_pos hk, if_neg h32, if_neg hb] at h
    rw [Option.map_eq_some_iff] at h
    obtain ⟨l', h1, rfl⟩ := h
    obtain ⟨a, b⟩ := ih l' h1 (by omega)
    refine ⟨by simp only [List.length_cons]; omega, fun t ht => ?_⟩
    rcases List.mem_cons.1 ht with rfl | ht
    · rfl
    · exact b t ht
  | case4 k sp n hk =>
    intro l h hn
    rw [toks, dif_neg hk] at h
    simp only [Option.some.injEq] at h
    subst h; simp; exact hn
theorem tokRes_all (s : ByteArray) : (tokRes s).1.length ≤ 60 ∧ ∀ t ∈ (tokRes s).1, t.hidden = [] := by
  rcases hr : tokRes s with ⟨l, ok⟩
  cases ok
  · obtain rfl := tokRes_false hr
    simp
  · obtain ⟨h1, _⟩ := tokRes_true hr
    have := toks_all s 0 false 0 l h1 (by omega)
    exact ⟨by simpa using this.1, this.2⟩
end Go.Proofs.Ytflbdanlcpojbaa

/- What is printed is read again; tokens of a line are valid: no program. -/
namespace Go.Proofs.Ytflbdanlcpojbaa
open Go.RowKit

def bAt (s : ByteArray) (j : Nat) : Option UInt8 := if h : j < s.size then some s[j] else none
theorem bAt_lt {s : ByteArray} {j : Nat} (h : j < s.size) : bAt s j = some s[j] := by unfold bAt; rw [dif_pos h]
theorem bAt_ge {s : ByteArray} {j : Nat} (h : s.size ≤ j) : bAt s j = none := by unfold bAt; rw [dif_neg (by omega)]
theorem bAt_some {s : ByteArray} {j : Nat} {c : UInt8} (h : bAt s j = some c) : ∃ hj : j < s.size, s[j] = c := by
  by_cases hj : j < s.size
  · rw [bAt_lt hj, Option.some.injEq] at h; exact ⟨hj, h⟩
  · rw [bAt_ge (by omega)] at h; exact absurd h (by simp)
theorem bAt_left {s t : ByteArray} {j : Nat} (h : j < s.size) : bAt (s ++ t) j = bAt s j := by
  rw [bAt_lt (by rw [ByteArray.size_append]; omega), bAt_lt h, ByteArray.getElem_append_left h]
theorem bAt_right {s t : ByteArray} {i j : Nat} (h : i = s.size + j) : bAt (s ++ t) i = bAt t j := by
  subst h
  by_cases hj : j < t.size
  · rw [bAt_lt (by rw [ByteArray.size_append]; omega), bAt_lt hj, ByteArray.getElem_append_right (by omega)]
    congr 2; omega
  · rw [bAt_ge (by rw [ByteArray.size_append]; omega), bAt_ge (by omega)]
theorem bAt_ext {a b : ByteArray} (h : a.size = b.size) (h2 : ∀ j, j < a.size → bAt a j = bAt b j) : a = b := by
  apply ByteArray.ext
  apply Array.ext (by exact h)
  intro i h1 h3
  have h1' : i < a.size := h1
  have := h2 i h1'
  rw [bAt_lt h1', bAt_lt (h ▸ h1'), Option.some.injEq] at this
  simpa [ByteArray.getElem_eq_getElem_data] using this
theorem bAt_sub {s : ByteArray} {i e j : Nat} (he : e ≤ s.size) (h : j < e - i) : bAt (s.extract i e) j = bAt s (i + j) := by
  have hz : (s.extract i e).size = e - i := by rw [ByteArray.size_extract]; omega
  rw [bAt_lt (by omega), bAt_lt (by omega), ext_get]

/-- A byte that makes no token before it longer. -/
def stopB (c : UInt8) : Bool := !isWord c && decide (c ≠ 61) && decide (c ≠ 38) && decide (c ≠ 124) && decide (c ≠ 35)
theorem stopB_word {c : UInt8} (h : stopB c = true) : isWord c = false := by
  unfold stopB at h
  simp only [Bool.and_eq_true] at h
  simpa using h.1.1.1.1
/-- The byte behind a token does not make it longer. -/
def Ends (s' : ByteArray) (k' : Nat) (s : ByteArray) (k : Nat) : Prop := bAt s' k' = bAt s k ∨ ∀ c, bAt s' k' = some c → stopB c = true
theorem ends_none {s' : ByteArray} {k' : Nat} {s : ByteArray} {k : Nat} (h : bAt s' k' = none) : Ends s' k' s k := .inr fun c hc => by
  rw [h] at hc; exact absurd hc (by simp)
theorem wEnd_same {s s' : ByteArray} : ∀ (d k k' : Nat), wEnd s k = k + d → (∀ j, j < d → bAt s' (k' + j) = bAt s (k + j)) → Ends s' (k' + d) s (k + d) → wEnd s' k' = k' + d
  | 0, k, k', h, _, hE => by
    have hstop : ∀ c, bAt s k = some c → isWord c = false := fun c hc => by
      obtain ⟨hk, rfl⟩ := bAt_some hc
      cases hw : isWord s[k]
      · rfl
      · rw [wEnd_in hk hw] at h
        have := (wEnd_bounds s (k + 1)).1
        omega
    by_cases hk' : k' < s'.size
    · rcases hE with h1 | h1
      · rw [Nat.add_zero, Nat.add_zero, bAt_lt hk'] at h1
        exact wEnd_stop hk' (hstop _ h1.symm)
      · exact wEnd_stop hk' (stopB_word (h1 _ (bAt_lt hk')))
    · exact wEnd_out (by omega)
  | d + 1, k, k', h, hb, hE => by
    have hk : k < s.size := by
      apply Nat.lt_of_not_le; intro hn
      rw [wEnd_out hn] at h; omega
    have hw : isWord s[k] = true := by
      cases hw : isWord s[k]
      · rw [wEnd_stop hk hw] at h; omega
      · rfl
    rw [wEnd_in hk hw] at h
    have h0 := hb 0 (by omega)
    rw [Nat.add_zero, Nat.add_zero, bAt_lt hk] at h0
    obtain ⟨hk', he⟩ := bAt_some h0
    rw [wEnd_in hk' (by rw [he]; exact hw)]
    have e1 : k' + (d + 1) = k' + 1 + d := by omega
    have e2 : k + (d + 1) = k + 1 + d := by omega
    rw [e1]
    refine wEnd_same (s := s) (s' := s') d (k + 1) (k' + 1) (by omega) (fun j hj => ?_) (by rw [← e1, ← e2]; exact hE)
    have := hb (j + 1) (by omega)
    rwa [show k' + (j + 1) = k' + 1 + j by omega, show k + (j + 1) = k + 1 + j by omega] at this
theorem tClose_same {s s' : ByteArray} (d : Nat) : ∀ (k k' : Nat), tClose s k = some (k + d) → (∀ j, j < d → bAt s' (k' + j) = bAt s (k + j)) → tClose s' k' = some (k' + d) := by
  induction d using Nat.strongRecOn with
  | ind d ih =>
    intro k k' h hb
    have hs := tClose_some h
    have hk : k < s.size := by omega
    have h0 := hb 0 (by omega)
    rw [Nat.add_zero, Nat.add_zero, bAt_lt hk] at h0
    obtain ⟨hk', he⟩ := bAt_some h0
    by_cases h34 : s[k].toNat = 34
    · rw [tClose_quote hk h34, Option.some.injEq] at h
      rw [tClose_quote hk' (by rw [he]; exact h34)]
      congr 1; omega
    · by_cases h92 : s[k].toNat = 92
      · rw [tClose_back hk h92] at h
        have hs2 := tClose_some h
        rw [tClose_back hk' (by rw [he]; exact h92)]
        have := ih (d - 2) (by omega) (k + 2) (k' + 2) (by rw [h]; congr 1; omega) (fun j hj => by
          have := hb (j + 2) (by omega)
          rwa [show k' + (j + 2) = k' + 2 + j by omega, show k + (j + 2) = k + 2 + j by omega] at this)
        rw [this]; congr 1; omega
      · rw [tClose_else hk h34 h92] at h
        have hs2 := tClose_some h
        rw [tClose_else hk' (by rw [he]; exact h34) (by rw [he]; exact h92)]
        have := ih (d - 1) (by omega) (k + 1) (k' + 1) (by rw [h]; congr 1; omega) (fun j hj => by
          have := hb (j + 1) (by omega)
          rwa [show k' + (j + 1) = k' + 1 + j by omega, show k + (j + 1) = k + 1 + j by omega] at this)
        rw [this]; congr 1; omega
theorem two_bAt (s : ByteArray) (k : Nat) (a b : UInt8) : two s k a b = (decide (bAt s k = some a) && decide (bAt s (k + 1) = some b)) := by
  have hd : ∀ j, s.data.toList[j]? = bAt s j := fun j => by
    by_cases hj : j < s.size
    · rw [bAt_lt hj, List.getElem?_eq_getElem (by simpa using hj)]; simp [ByteArray.getElem_eq_getElem_data]
    · rw [bAt_ge (by omega), List.getElem?_eq_none (by simpa using hj)]
  have hx : ∀ L : List UInt8, [a, b].isPrefixOf L = (decide (L[0]? = some a) && decide (L[1]? = some b)) := fun L => by
    match L with
    | [] => simp [List.isPrefixOf]
    | [x] => simp [List.isPrefixOf]
    | x :: y :: L =>
      have e : ∀ u v : UInt8, (u == v) = decide (v = u) := fun u v => by
        by_cases h : v = u
        · subst h; simp
        · have h' : ¬ u = v := fun e => h e.symm
          simp [h, h']
      simp [List.isPrefixOf, e]
  unfold two
  rw [hx, List.getElem?_drop, List.getElem?_drop, hd, hd, Nat.add_zero]
theorem twoAt_same {s s' : ByteArray} {k k' : Nat} (h0 : bAt s' k' = bAt s k) (h1 : bAt s' (k' + 1) = bAt s (k + 1)) : twoAt s' k' = twoAt s k := by
  unfold twoAt; simp only [two_bAt, h0, h1]
theorem twoAt_no {s : ByteArray} {k : Nat} (h : ∀ c, bAt s (k + 1) = some c → stopB c = true) : twoAt s k = false := by
  unfold twoAt; simp only [two_bAt]
  cases hb : bAt s (k + 1) with
  | none => simp
  | some c =>
    have := h c hb
    unfold stopB at this
    simp only [Bool.and_eq_true, decide_eq_true_eq] at this
    obtain ⟨⟨⟨⟨_, h1⟩, h2⟩, h3⟩, h4⟩ := this
    simp [h1, h2, h3, h4]
theorem mLen_same {s s' : ByteArray} {k k' d : Nat} (h : mLen s k = d) (h0 : d ≠ 0) (hb : ∀ j, j < d → bAt s' (k' + j) = bAt s (k + j)) (hE : Ends s' (k' + d) s (k + d)) : mLen s' k' = d := by
  have b0 := hb 0 (by omega)
  rw [Nat.add_zero, Nat.add_zero] at b0
  cases ht : twoAt s k
  · have hk : k < s.size := by
      apply Nat.lt_of_not_le; intro hn
      unfold mLen at h; rw [if_neg (by simp [ht]), dif_neg (by omega)] at h; omega
    unfold mLen at h
    rw [if_neg (by simp [ht]), dif_pos hk] at h
    have hm : s[k] ∈ marks1 := by
      apply Classical.byContradiction; intro hn
      rw [if_neg hn] at h; omega
    rw [if_pos hm] at h
    subst h
    have ht' : twoAt s' k' = false := by
      rcases hE with h1 | h1
      · rw [twoAt_same b0 h1, ht]
      · exact twoAt_no h1
    rw [bAt_lt hk] at b0
    obtain ⟨hk', he⟩ := bAt_some b0
    unfold mLen
    rw [if_neg (by simp [ht']), dif_pos hk', if_pos (by rw [he]; exact hm)]
  · unfold mLen at h
    rw [if_pos ht] at h
    subst h
    have b1 := hb 1 (by omega)
    unfold mLen
    rw [if_pos (by rw [twoAt_same b0 b1]; exact ht)]
/-- Where a token ends depends on no byte but those of it and the next one. -/
theorem cut_same {s s' : ByteArray} {k k' d : Nat} (h : cutEnd s k = (k + d : Nat)) (hb : ∀ j, j < d → bAt s' (k' + j) = bAt s (k + j)) (hE : Ends s' (k' + d) s (k + d)) : cutEnd s' k' = (k' + d : Nat) := by
  have hr := cutEnd_room (s := s) (k := k) (by omega)
  have hk : k < s.size := hr.2.2
  have hd0 : 0 < d := by omega
  have b0 := hb 0 (by omega)
  rw [Nat.add_zero, Nat.add_zero, bAt_lt hk] at b0
  obtain ⟨hk', he⟩ := bAt_some b0
  cases hw : isWord s[k]
  · by_cases hq : s[k].toNat = 34
    · rw [cutEnd_text hk hw hq] at h
      cases hc : tClose s (k + 1) with
      | none => rw [hc] at h; simp only at h; omega
      | some e =>
        rw [hc] at h
        replace h : (e : Int) = (k + d : Nat) := h
        have := tClose_same (s := s) (s' := s') (d - 1) (k + 1) (k' + 1) (by rw [hc]; congr 1; omega) (fun j hj => by
          have := hb (j + 1) (by omega)
          rwa [show k' + (j + 1) = k' + 1 + j by omega, show k + (j + 1) = k + 1 + j by omega] at this)
        rw [cutEnd_text hk' (by rw [he]; exact hw) (by rw [he]; exact hq), this]
        simp only; omega
    · rw [cutEnd_mark hk hw hq] at h
      split at h
      · omega
      · rename_i h0
        have := mLen_same (s := s) (s' := s') (k := k) (k' := k') (d := d) (by omega) (by omega) hb hE
        rw [cutEnd_mark hk' (by rw [he]; exact hw) (by rw [he]; exact hq), this, if_neg (by omega)]
  · rw [cutEnd_word hk hw] at h
    split at h
    · omega
    · rename_i h0
      have := wEnd_same (s := s) (s' := s') d k k' (by omega) hb hE
      rw [cutEnd_word hk' (by rw [he]; exact hw), this, if_neg (by omega)]

theorem first_cut {z : ByteArray} {t : Tok} {ts : List Tok} (h : toks z 0 false 0 = some (t :: ts)) (h0 : 0 < z.size) (h32 : ¬ z[0].toNat = 32) : cutEnd z 0 = (t.text.size : Nat) := by
  rw [toks, dif_pos h0, if_neg h32] at h
  split at h
  · simp at h
  · rename_i hb
    rw [Option.map_eq_some_iff] at h
    obtain ⟨l', _, h2⟩ := h
    simp only [List.cons.injEq] at h2
    have hr := cutEnd_room (s := z) (k := 0) (by omega)
    rw [← h2.1]
    show _ = ((z.extract 0 (cutEnd z 0).toNat).size : Int)
    rw [ByteArray.size_extract]; omega
/-- A valid token's text runs to its own end. -/
theorem tokOk_cut {t : Tok} (h : tokOk t = true) : ∃ h0 : 0 < t.text.size, t.text[0].toNat ≠ 32 ∧ cutEnd t.text 0 = (t.text.size : Nat) ∧ lineOk t.text = true := by
  unfold tokOk at h
  rw [Bool.and_eq_true] at h
  obtain ⟨u, hr, _, hx⟩ := oneTok_res h.1
  obtain ⟨h1, _⟩ := tokRes_head t.text u (by rw [hr]; simp)
  obtain ⟨h2, h3⟩ := tokRes_true hr
  have h0 : 0 < t.text.size := by rw [← hx]; exact h1
  have h32 : ¬ t.text[0].toNat = 32 := by
    intro h32
    rw [toks, dif_pos h0, if_pos h32] at h2
    have := toks_fit t.text 1 true 0 _ h2 (by omega) u (by simp)
    rw [hx] at this
    omega
  refine ⟨h0, h32, ?_, h3⟩
  have := first_cut h2 h0 h32
  rw [hx] at this
  exact this
def AllOk (s : ByteArray) : Prop := ∀ j c, bAt s j = some c → okByte c = true
theorem AllOk.app {a b : ByteArray} (ha : AllOk a) (hb : AllOk b) : AllOk (a ++ b) := fun j c h => by
  by_cases hj : j < a.size
  · rw [bAt_left hj] at h; exact ha j c h
  · rw [bAt_right (j := j - a.size) (by omega)] at h; exact hb _ c h
theorem AllOk.of {s : ByteArray} (h : lineOk s = true) : AllOk s := fun j c hc => by
  obtain ⟨hj, rfl⟩ := bAt_some hc
  unfold lineOk at h
  rw [Bool.and_eq_true, List.all_eq_true] at h
  exact h.2 _ (by simp [ByteArray.getElem_eq_getElem_data])
theorem AllOk.line {s : ByteArray} (h : AllOk s) (hs : s.size ≤ 200) : lineOk s = true := by
  rw [lineOk_yes (k := s.size) (fun j hj _ => h j _ (bAt_lt hj)) (Nat.le_refl _)]
  exact decide_eq_true hs
/-- A token that is cut out of a line is one by itself. -/
theorem sub_tok {s : ByteArray} (hs : lineOk s = true) {k e : Nat} (hk : k < s.size) (h32 : ¬ s[k].toNat = 32) (hc : cutEnd s k = (e : Nat)) (sp : Bool) : tokOk ⟨cutKind s[k], s.extract k e, sp, []⟩ = true := by
  have hr := cutEnd_room (s := s) (k := k) (by omega)
  have hz : (s.extract k e).size = e - k := by rw [ByteArray.size_extract]; omega
  have hb : ∀ j, j < e - k → bAt (s.extract k e) (0 + j) = bAt s (k + j) := fun j hj => by rw [Nat.zero_add]; exact bAt_sub (by omega) hj
  have hcx := cut_same (s' := s.extract k e) (k' := 0) (d := e - k) (by rw [hc]; omega) hb (ends_none (bAt_ge (by omega)))
  have h0 : 0 < (s.extract k e).size := by omega
  have hf : (s.extract k e)[0] = s[k] := ext_get s k e 0 h0
  have hl : lineOk (s.extract k e) = true := by
    refine AllOk.line (fun j c hj => ?_) (by have := lineOk_size hs; omega)
    obtain ⟨h1, _⟩ := bAt_some hj
    rw [bAt_sub (by omega) (by omega)] at hj
    exact AllOk.of hs _ c hj
  have ht : toks (s.extract k e) 0 false 0 = some [⟨cutKind s[k], s.extract k e, false, []⟩] := by
    have hzz : ((s.extract k e).extract 0 (e - k)).size = (s.extract k e).size := by rw [ByteArray.size_extract]; omega
    have hx : (s.extract k e).extract 0 (e - k) = s.extract k e := bAt_ext hzz fun j hj => by
      rw [bAt_sub (by omega) (by omega), Nat.zero_add]
    rw [toks, dif_pos h0, if_neg (by rw [hf]; exact h32), hcx, if_neg (by omega), Nat.zero_add, Int.toNat_natCast, Nat.max_eq_right (by omega), toks, dif_neg (by omega), hf, hx]
    rfl
  have hr := tokRes_some hl ht
  unfold tokOk
  rw [Bool.and_eq_true]
  refine ⟨?_, by show hidOk [] = true; decide⟩
  show oneTok (s.extract k e) (cutKind s[k]) = true
  simp [oneTok, hr]
end Go.Proofs.Ytflbdanlcpojbaa

/- Texts of tokens: no program. -/
namespace Go.Proofs.Ytflbdanlcpojbaa
open Go.RowKit

def bs (s : ByteArray) : List UInt8 := s.data.toList
theorem ex_one {s : ByteArray} {k : Nat} (h : k < s.size) : s.extract k (k + 1) = ⟨#[s[k]]⟩ := by
  have hz : (s.extract k (k + 1)).size = 1 := by rw [ByteArray.size_extract]; omega
  refine bAt_ext (by rw [hz]; rfl) fun j hj => ?_
  obtain rfl : j = 0 := by omega
  rw [bAt_sub (by omega) (by omega), Nat.add_zero, bAt_lt h]; rfl

/-- A text with backslashes, and what it stands for. -/
inductive Esc : List UInt8 → List UInt8 → Prop
  | nil : Esc [] []
  | back (c : UInt8) {a b : List UInt8} : Esc a b → Esc (92 :: c :: a) (c :: b)
  | byte {c : UInt8} {a b : List UInt8} : c.toNat ≠ 34 → c.toNat ≠ 92 → Esc a b → Esc (c :: a) (c :: b)
theorem Esc.app {a b c d : List UInt8} (h : Esc a b) (h2 : Esc c d) : Esc (a ++ c) (b ++ d) := by
  induction h with
  | nil => exact h2
  | back c _ ih => exact .back c ih
  | byte h1 h3 _ ih => exact .byte h1 h3 ih
/-- What a text stands for, from the place k on. -/
def outTo (s : ByteArray) (k : Nat) : ByteArray :=
  if h : k + 1 < s.size then (if s[k].toNat = 92 then s.extract (k + 1) (k + 2) ++ outTo s (k + 2) else s.extract k (k + 1) ++ outTo s (k + 1)) else ⟨#[]⟩
termination_by s.size - k
theorem outTo_back {s : ByteArray} {k : Nat} (h : k + 1 < s.size) (hc : s[k].toNat = 92) : outTo s k = s.extract (k + 1) (k + 2) ++ outTo s (k + 2) := by rw [outTo, dif_pos h, if_pos hc]
theorem outTo_else {s : ByteArray} {k : Nat} (h : k + 1 < s.size) (hc : ¬ s[k].toNat = 92) : outTo s k = s.extract k (k + 1) ++ outTo s (k + 1) := by rw [outTo, dif_pos h, if_neg hc]
theorem outTo_end {s : ByteArray} {k : Nat} (h : s.size ≤ k + 1) : outTo s k = ⟨#[]⟩ := by rw [outTo, dif_neg (by omega)]
/-- A byte that wants a backslash in a text of texts. -/
def isQ (c : UInt8) : Bool := decide (c.toNat = 34) || decide (c.toNat = 92)
def escTo (s : ByteArray) : Nat → ByteArray
  | 0 => ⟨#[]⟩
  | k + 1 => if h : k < s.size then (if isQ s[k] = true then escTo s k ++ ⟨#[92]⟩ else escTo s k) ++ s.extract k (k + 1) else escTo s k
theorem escTo_q {s : ByteArray} {k : Nat} (h : k < s.size) (hc : isQ s[k] = true) : escTo s (k + 1) = escTo s k ++ ⟨#[92]⟩ ++ s.extract k (k + 1) := by rw [escTo, dif_pos h, if_pos hc]
theorem escTo_n {s : ByteArray} {k : Nat} (h : k < s.size) (hc : isQ s[k] = false) : escTo s (k + 1) = escTo s k ++ s.extract k (k + 1) := by rw [escTo, dif_pos h, if_neg (by simp [hc])]
theorem escTo_size (s : ByteArray) : ∀ k, (escTo s k).size ≤ 2 * k
  | 0 => by show (0 : Nat) ≤ _; omega
  | k + 1 => by
    have ih := escTo_size s k
    by_cases hk : k < s.size
    · have h1 : (⟨#[92]⟩ : ByteArray).size = 1 := rfl
      cases hc : isQ s[k]
      · rw [escTo_n hk hc, ByteArray.size_append, ByteArray.size_extract]; omega
      · rw [escTo_q hk hc, ByteArray.size_append, ByteArray.size_append, ByteArray.size_extract]; omega
    · rw [escTo, dif_neg hk]; omega
/-- A token's text in a text of texts. -/
def bit (t : Tok) : ByteArray := if t.kind = 3 then escTo t.text t.text.size else t.text
def joinTo (l : List Tok) : Nat → ByteArray
  | 0 => ⟨#[]⟩
  | k + 1 => if h : k < l.length then (if 0 < k ∧ l[k].spaced = true then joinTo l k ++ ⟨#[32]⟩ else joinTo l k) ++ bit l[k] else joinTo l k
theorem joinTo_sp {l : List Tok} {k : Nat} (hk : k < l.length) (h0 : 0 < k) (h : l[k].spaced = true) : joinTo l (k + 1) = joinTo l k ++ ⟨#[32]⟩ ++ bit l[k] := by rw [joinTo, dif_pos hk, if_pos ⟨h0, h⟩]
theorem joinTo_no {l : List Tok} {k : Nat} (hk : k < l.length) (h : ¬ (0 < k ∧ l[k].spaced = true)) : joinTo l (k + 1) = joinTo l k ++ bit l[k] := by rw [joinTo, dif_pos hk, if_neg h]
theorem bit_size (t : Tok) : (bit t).size ≤ 2 * t.text.size := by
  unfold bit; split
  · exact escTo_size _ _
  · omega
theorem joinTo_size {l : List Tok} (h : toksOk l = true) : ∀ k, k ≤ l.length → (joinTo l k).size ≤ 401 * k
  | 0, _ => by show (0 : Nat) ≤ _; omega
  | k + 1, hk => by
    have ih := joinTo_size h k (by omega)
    have hk' : k < l.length := by omega
    have h2 := (tokOk_facts ((toksOk_facts h).2 k hk')).2
    have h3 := bit_size l[k]
    have h1 : (⟨#[32]⟩ : ByteArray).size = 1 := rfl
    by_cases hs : 0 < k ∧ l[k].spaced = true
    · rw [joinTo_sp hk' hs.1 hs.2, ByteArray.size_append, ByteArray.size_append]; omega
    · rw [joinTo_no hk' hs, ByteArray.size_append]; omega
def quoted (x : ByteArray) : ByteArray := ⟨#[34]⟩ ++ x ++ ⟨#[34]⟩
theorem quoted_size (x : ByteArray) : (quoted x).size = x.size + 2 := by
  have h1 : (⟨#[34]⟩ : ByteArray).size = 1 := rfl
  unfold quoted; rw [ByteArray.size_append, ByteArray.size_append]; omega
def zTok : Tok := ⟨0, ⟨#[]⟩, false, []⟩
def txtRes (l : List Tok) : Tok × Bool := if toksOk l = true then (if 200 < (quoted (joinTo l l.length)).size then (zTok, false) else (⟨3, quoted (joinTo l l.length), false, []⟩, true)) else (zTok, false)
theorem txtRes_no {l : List Tok} (h : toksOk l = false) : txtRes l = (zTok, false) := by unfold txtRes; rw [if_neg (by simp [h])]
theorem txtRes_long {l : List Tok} {k : Nat} (h : toksOk l = true) (hk : l.length = k) (h2 : 200 < (quoted (joinTo l k)).size) : txtRes l = (zTok, false) := by unfold txtRes; rw [if_pos h, hk, if_pos h2]
theorem txtRes_yes {l : List Tok} {k : Nat} (h : toksOk l = true) (hk : l.length = k) (h2 : ¬ 200 < (quoted (joinTo l k)).size) : txtRes l = (⟨3, quoted (joinTo l k), false, []⟩, true) := by unfold txtRes; rw [if_pos h, hk, if_neg h2]
end Go.Proofs.Ytflbdanlcpojbaa

/- Pasting tokens, hiding names: no program. -/
namespace Go.Proofs.Ytflbdanlcpojbaa
open Go.RowKit

/-! ### Lists of names -/
def Up (l : List ByteArray) : Prop := l.Pairwise fun a b => sLess a b = true
theorem hid_at {l : List ByteArray} (h : hidOk l = true) : l.length ≤ 60 ∧ ∀ i, i < l.length → hidOkAt l i = true := by
  unfold hidOk at h
  rw [Bool.and_eq_true, decide_eq_true_eq, List.all_eq_true] at h
  exact ⟨h.1, fun i hi => h.2 i (by simpa using hi)⟩
theorem hid_step {l : List ByteArray} (h : hidOk l = true) {i : Nat} (hi : i + 1 < l.length) : sLess (l[i]'(by omega)) l[i + 1] = true := by
  have := (hid_at h).2 (i + 1) hi
  unfold hidOkAt at this
  rw [dif_pos hi, Bool.and_eq_true, Bool.or_eq_true, decide_eq_true_eq] at this
  rcases this.2 with h0 | h0
  · omega
  · exact h0
theorem hid_asc {l : List ByteArray} (h : hidOk l = true) : ∀ d i : Nat, (hj : i + d + 1 < l.length) → sLess (l[i]'(by omega)) (l[i + d + 1]'hj) = true
  | 0, i, hj => hid_step h hj
  | d + 1, i, hj => sLess_trans (hid_asc h d i (by omega)) (hid_step h hj)
theorem hid_parts {l : List ByteArray} (h : hidOk l = true) : l.length ≤ 60 ∧ (∀ x ∈ l, oneTok x 1 = true) ∧ Up l := by
  refine ⟨(hid_at h).1, fun x hx => ?_, ?_⟩
  · obtain ⟨i, hi, rfl⟩ := List.getElem_of_mem hx
    have := (hid_at h).2 i hi
    unfold hidOkAt at this
    rw [dif_pos hi, Bool.and_eq_true] at this
    exact this.1
  · unfold Up
    rw [List.pairwise_iff_getElem]
    intro i j hi hj hij
    have := hid_asc h (j - i - 1) i (by omega)
    have e : i + (j - i - 1) + 1 = j := by omega
    simpa only [e] using this
theorem asc_hid {l : List ByteArray} (h1 : l.length ≤ 60) (h2 : ∀ x ∈ l, oneTok x 1 = true) (h3 : Up l) : hidOk l = true := by
  refine hidOk_yes (k := l.length) (fun j hj => ?_) (Nat.le_refl _) h1
  unfold hidOkAt
  rw [dif_pos hj, h2 _ (List.getElem_mem hj), Bool.true_and, Bool.or_eq_true, decide_eq_true_eq]
  by_cases h0 : j = 0
  · exact .inl h0
  · unfold Up at h3
    rw [List.pairwise_iff_getElem] at h3
    exact .inr (h3 (j - 1) j (by omega) hj (by omega))
theorem hid_filter {l : List ByteArray} (h : hidOk l = true) (p : ByteArray → Bool) : hidOk (l.filter p) = true := by
  obtain ⟨h1, h2, h3⟩ := hid_parts h
  exact asc_hid (Nat.le_trans (List.length_filter_le _ _) h1) (fun x hx => h2 x (List.mem_filter.1 hx).1) (List.Pairwise.filter _ h3)

/-- Whether a name is in a list. -/
def hasN (l : List ByteArray) (s : ByteArray) : Bool := l.any fun x => x.toList == s.toList
theorem hasN_hit {l : List ByteArray} {s : ByteArray} {k : Nat} (hk : k < l.length) (h : (l[k].toList == s.toList) = true) : hasN l s = true := by
  unfold hasN; rw [List.any_eq_true]; exact ⟨_, List.getElem_mem hk, h⟩
theorem hasN_no {l : List ByteArray} {s : ByteArray} (h : ∀ j, (hj : j < l.length) → (l[j].toList == s.toList) = false) : hasN l s = false := by
  unfold hasN; rw [List.any_eq_false]
  intro x hx
  obtain ⟨j, hj, rfl⟩ := List.getElem_of_mem hx
  rw [h j hj]; simp
/-- The names that are in both lists. -/
def both (a b : List ByteArray) : List ByteArray := a.filter (hasN b)
theorem both_yes {a b : List ByteArray} {k : Nat} (hk : k < a.length) (h : hasN b a[k] = true) : both (a.take (k + 1)) b = both (a.take k) b ++ [a[k]] := by
  unfold both
  rw [List.take_succ_eq_append_getElem hk, List.filter_append, List.filter_cons_of_pos h]; rfl
theorem both_no {a b : List ByteArray} {k : Nat} (hk : k < a.length) (h : hasN b a[k] = false) : both (a.take (k + 1)) b = both (a.take k) b := by
  unfold both
  rw [List.take_succ_eq_append_getElem hk, List.filter_append, List.filter_cons_of_neg (by simp [h])]; simp
theorem both_all {a b : List ByteArray} {k : Nat} (hk : a.length ≤ k) : both (a.take k) b = both a b := by rw [List.take_of_length_le hk]
theorem both_len (a b : List ByteArray) : (both a b).length ≤ a.length := List.length_filter_le _ _

/-! ### Pasting -/
theorem p_wEnd_all (s : ByteArray) (k : Nat) : ∀ j, (h : j < s.size) → k ≤ j → j < wEnd s k → isWord s[j] = true := by
  induction k using wEnd.induct (s := s) with
  | case1 k h hc ih =>
    intro j hj hkj hje
    rw [wEnd_in h hc] at hje
    by_cases e : j = k
    · subst e; exact hc
    · exact ih j hj (by omega) hje
  | case2 k h hc => intro j hj hkj hje; rw [wEnd_stop h (by simpa using hc)] at hje; omega
  | case3 k h => intro j hj hkj hje; rw [wEnd_out (by omega)] at hje; omega
theorem p_marks1_32 : ∀ c ∈ marks1, c.toNat ≠ 32 := by decide
theorem p_two_snd {s : ByteArray} {k : Nat} {a b : UInt8} (h : two s k a b = true) : s[k + 1]'(two_room h) = b := by
  have hr := two_room h
  unfold two at h
  rw [List.isPrefixOf_iff_prefix] at h
  obtain ⟨t, ht⟩ := h
  have h1 : (s.data.toList.drop k)[1]? = some b := by rw [← ht]; rfl
  rw [List.getElem?_drop] at h1
  have h2 : s.data.toList[k + 1]? = some s[k + 1] := by
    rw [List.getElem?_eq_getElem (by simpa using hr)]; simp [ByteArray.getElem_eq_getElem_data]
  rw [h2] at h1
  simpa using h1
theorem p_two_last {s : ByteArray} {k : Nat} (h : twoAt s k = true) : ∃ hk : k + 1 < s.size, s[k + 1].toNat ≠ 32 := by
  have hk := twoAt_room h
  refine ⟨hk, ?_⟩
  unfold twoAt at h
  simp only [Bool.or_eq_true] at h
  rcases h with (((((h | h) | h) | h) | h) | h) | h <;> (rw [p_two_snd h]; decide)
theorem p_cut_last {s : ByteArray} {k : Nat} (hk : k < s.size) (h : cutEnd s k = s.size) : (s[s.size - 1]'(by omega)).toNat ≠ 32 := by
  cases hw : isWord s[k]
  · by_cases hq : s[k].toNat = 34
    · rw [cutEnd_text hk hw hq] at h
      cases hc : tClose s (k + 1) with
      | none => rw [hc] at h; simp only at h; omega
      | some e =>
        rw [hc] at h
        simp only at h
        obtain ⟨_, _, _, h1, h2⟩ := tClose_some hc
        have e1 : e = s.size := by omega
        subst e1
        omega
    · rw [cutEnd_mark hk hw hq] at h
      split at h
      · omega
      · rename_i h0
        cases ht : twoAt s k
        · by_cases hm : s[k] ∈ marks1
          · rw [mLen_one ht hk hm] at h
            have e : k = s.size - 1 := by omega
            subst e
            exact p_marks1_32 _ hm
          · exact absurd (mLen_none ht hk hm) h0
        · obtain ⟨h1, h2⟩ := p_two_last ht
          have e2 : mLen s k = 2 := by unfold mLen; rw [if_pos ht]
          rw [e2] at h
          have e : k + 1 = s.size - 1 := by omega
          intro hh
          apply h2
          have : s[k + 1] = s[s.size - 1]'(by omega) := by congr 1
          rw [this]; exact hh
  · rw [cutEnd_word hk hw] at h
    split at h
    · omega
    · have := p_wEnd_all s k (s.size - 1) (by omega) (by omega) (by omega)
      rw [isWord_iff] at this
      omega
/-- Where no token comes any more there are spaces alone. -/
theorem toks_rest (s : ByteArray) : ∀ (k : Nat) (sp : Bool) (n : Nat), toks s k sp n = some [] → ∀ j, (h : j < s.size) → k ≤ j → s[j].toNat = 32 := by
  intro k sp n
  induction k, sp, n using toks.induct (s := s) with
  | case1 k sp n hk h32 ih =>
    intro h j hj hkj
    rw [toks, dif_pos hk, if_pos h32] at h
    by_cases e : j = k
    · subst e; exact h32
    · exact ih h j hj (by omega)
  | case2 k sp n hk h32 hb =>
    intro h
    rw [toks, dif_pos hk, if_neg h32, if_pos hb] at h
    exact absurd h (by simp)
  | case3 k sp n hk h32 hb ih =>
    intro h
    rw [toks, dif_pos hk, if_neg h32, if_neg hb, Option.map_eq_some_iff] at h
    obtain ⟨l', _, h2⟩ := h
    exact absurd h2 (by simp)
  | case4 k sp n hk => intro h j hj hkj; omega
/-- One token without spaces around it is the whole line. -/
theorem one_whole {s : ByteArray} {t : Tok} (h : tokRes s = ([t], true)) (h0 : 0 < s.size) (hf : ¬ s[0].toNat = 32) (hl : ¬ (s[s.size - 1]'(by omega)).toNat = 32) : t = ⟨cutKind s[0], s, false, []⟩ ∧ tokOk t = true := by
  obtain ⟨h1, h2⟩ := tokRes_true h
  rw [toks, dif_pos h0, if_neg hf] at h1
  split at h1
  · exact absurd h1 (by simp)
  · rename_i hb
    rw [Option.map_eq_some_iff] at h1
    obtain ⟨l', h3, h4⟩ := h1
    simp only [List.cons.injEq] at h4
    obtain ⟨h4, rfl⟩ := h4
    have hr := cutEnd_room (s := s) (k := 0) (by omega)
    have hc : cutEnd s 0 = (s.size : Nat) := by
      by_cases e : cutEnd s 0 = (s.size : Nat)
      · exact e
      · exact absurd (toks_rest s _ _ _ h3 (s.size - 1) (by omega) (by omega)) hl
    have hv := sub_tok h2 h0 hf hc false
    have hx : s.extract 0 s.size = s := ByteArray.extract_zero_size
    have hx2 : s.extract 0 (cutEnd s 0).toNat = s := by rw [hc]; exact hx
    rw [hx] at hv
    rw [hx2] at h4
    subst h4
    exact ⟨rfl, hv⟩
theorem tok_ends {t : Tok} (h : tokOk t = true) : ∃ h0 : 0 < t.text.size, t.text[0].toNat ≠ 32 ∧ (t.text[t.text.size - 1]'(by omega)).toNat ≠ 32 ∧ t.kind = cutKind t.text[0] := by
  obtain ⟨h0, h1, h2, _⟩ := tokOk_cut h
  obtain ⟨⟨_, hk⟩, _⟩ := tokOk_facts h
  exact ⟨h0, h1, p_cut_last h0 h2, hk⟩
def pasteRes (a b : Tok) : Tok × Bool :=
  if tokOk a = true ∧ tokOk b = true then
    (match tokRes (a.text ++ b.text) with
     | ([t], true) => (⟨t.kind, t.text, a.spaced, both a.hidden b.hidden⟩, true)
     | _ => (zTok, false))
  else (zTok, false)
theorem paste_no1 {a b : Tok} (h : tokOk a = false) : pasteRes a b = (zTok, false) := by unfold pasteRes; rw [if_neg (by simp [h])]
theorem paste_no2 {a b : Tok} (h : tokOk b = false) : pasteRes a b = (zTok, false) := by unfold pasteRes; rw [if_neg (by simp [h])]
theorem paste_bad {a b : Tok} {l : List Tok} (h : tokRes (a.text ++ b.text) = (l, false)) : pasteRes a b = (zTok, false) := by
  unfold pasteRes; rw [h]; split
  · split
    · rename_i e; simp at e
    · rfl
  · rfl
theorem paste_len {a b : Tok} {l : List Tok} {o : Bool} (h : tokRes (a.text ++ b.text) = (l, o)) (hl : l.length ≠ 1) : pasteRes a b = (zTok, false) := by
  unfold pasteRes; rw [h]; split
  · split
    · rename_i e; simp only [Prod.mk.injEq] at e; rw [e.1] at hl; exact absurd rfl hl
    · rfl
  · rfl
theorem paste_yes {a b t : Tok} (ha : tokOk a = true) (hb : tokOk b = true) (h : tokRes (a.text ++ b.text) = ([t], true)) : pasteRes a b = (⟨t.kind, t.text, a.spaced, both a.hidden b.hidden⟩, true) := by
  unfold pasteRes; rw [if_pos ⟨ha, hb⟩, h]
theorem paste_true {a b u : Tok} (h : pasteRes a b = (u, true)) : tokOk a = true ∧ tokOk b = true ∧ ∃ t, tokRes (a.text ++ b.text) = ([t], true) ∧ u = ⟨t.kind, t.text, a.spaced, both a.hidden b.hidden⟩ := by
  unfold pasteRes at h
  split at h
  · rename_i hv
    split at h
    · rename_i t e; simp only [Prod.mk.injEq, and_true] at h; exact ⟨hv.1, hv.2, t, e, h.symm⟩
    · simp at h
  · simp at h
/-- Two tokens' texts together begin and end with no space. -/
theorem glue_ends {a b : Tok} (ha : tokOk a = true) (hb : tokOk b = true) : ∃ h0 : 0 < (a.text ++ b.text).size, (a.text ++ b.text)[0].toNat ≠ 32 ∧ ((a.text ++ b.text)[(a.text ++ b.text).size - 1]'(by omega)).toNat ≠ 32 ∧ a.kind = cutKind (a.text ++ b.text)[0] := by
  obtain ⟨a0, a1, _, ak⟩ := tok_ends ha
  obtain ⟨b0, _, b2, _⟩ := tok_ends hb
  have hz : (a.text ++ b.text).size = a.text.size + b.text.size := ByteArray.size_append
  have h0 : 0 < (a.text ++ b.text).size := by omega
  have e0 : (a.text ++ b.text)[0] = a.text[0] := ByteArray.getElem_append_left a0
  have e1 : (a.text ++ b.text)[(a.text ++ b.text).size - 1]'(by omega) = b.text[b.text.size - 1]'(by omega) := by
    rw [ByteArray.getElem_append_right (by omega)]
    congr 1; omega
  exact ⟨h0, by rw [e0]; exact a1, by rw [e1]; exact b2, by rw [e0]; exact ak⟩
theorem paste_fact {a b u : Tok} (h : pasteRes a b = (u, true)) : tokOk u = true ∧ u.text = a.text ++ b.text ∧ u.kind = a.kind ∧ u.spaced = a.spaced ∧ u.hidden = both a.hidden b.hidden ∧ u.hidden.length ≤ a.hidden.length := by
  obtain ⟨ha, hb, t, ht, rfl⟩ := paste_true h
  obtain ⟨h0, h1, h2, hk⟩ := glue_ends ha hb
  obtain ⟨rfl, hv⟩ := one_whole ht h0 h1 h2
  refine ⟨?_, rfl, hk.symm, rfl, rfl, both_len _ _⟩
  unfold tokOk at hv ha ⊢
  rw [Bool.and_eq_true] at hv ha ⊢
  exact ⟨hv.1, hid_filter ha.2 _⟩

/-! ### Hiding -/
end Go.Proofs.Ytflbdanlcpojbaa

/- Macros: their validity, their texts, and how they are read: no program. -/
namespace Go.Proofs.Ytflbdanlcpojbaa
open Go.RowKit

structure DMacro where
  name : ByteArray
  function : Bool
  params : List ByteArray
  body : List Tok

def definedB : ByteArray := ⟨#[100, 101, 102, 105, 110, 101, 100]⟩
def hash1 : ByteArray := ⟨#[35]⟩
def hash2 : ByteArray := ⟨#[35, 35]⟩
def openB : ByteArray := ⟨#[40]⟩
def closeB : ByteArray := ⟨#[41]⟩
def commaB : ByteArray := ⟨#[44]⟩
/-- The number of the parameter that a token is, from k on, or -1. -/
def parFrom (ps : List ByteArray) (t : Tok) (k : Nat) : Int := if h : k < ps.length then (if t.kind = 1 ∧ ps[k] = t.text then (k : Int) else parFrom ps t (k + 1)) else -1
termination_by ps.length - k
def parOf (ps : List ByteArray) (t : Tok) : Int := parFrom ps t 0
def macHead (m : DMacro) : Bool := oneTok m.name 1 && !decide (m.name = definedB) && decide (m.params.length ≤ 4) && (m.function || decide (m.params.length = 0)) && decide (m.body.length ≤ 20)
def parOk (ps : List ByteArray) (k : Nat) : Bool := if h : k < ps.length then oneTok ps[k] 1 && (List.range k).all (fun j => !decide (ps[j]? = some ps[k])) else true
def bodOk (m : DMacro) (k : Nat) : Bool :=
  if h : k < m.body.length then
    tokOk m.body[k] && decide (m.body[k].hidden.length = 0) && !(decide (k = 0) && m.body[k].spaced) &&
    !(decide (m.body[k].text = hash2) && (decide (k = 0) || decide (k + 1 = m.body.length) || decide ((m.body[k - 1]'(by omega)).text = hash2))) &&
    !(m.function && decide (m.body[k].text = hash1) && (if h2 : k + 1 < m.body.length then decide (parOf m.params m.body[k + 1] < 0) else true))
  else true
def macOk (m : DMacro) : Bool := macHead m && (List.range m.params.length).all (parOk m.params) && (List.range m.body.length).all (bodOk m)

/-- The names of parameters from a place on, and where the body begins. -/
def parsAt (l : List Tok) (k : Nat) : Option (List ByteArray × Nat) :=
  if h : k + 1 < l.length then
    (if l[k].kind = 1 then (if l[k + 1].text = closeB then some ([l[k].text], k + 2) else if l[k + 1].text = commaB then (parsAt l (k + 2)).map (fun p => (l[k].text :: p.1, p.2)) else none) else none)
  else none
termination_by l.length - k
def parsOf (l : List Tok) : Option (List ByteArray × Nat) := if h : 2 < l.length then (if l[2].text = closeB ∧ l[2].kind = 4 then some ([], 3) else parsAt l 2) else none
/-- A body as it is read: nothing hidden, the first one not Spaced. -/
def bodyFrom (l : List Tok) (k : Nat) : List Tok := (l.drop k).mapIdx fun i t => ⟨t.kind, t.text, t.spaced && decide (0 < i), []⟩
def zeroMac : DMacro := ⟨⟨#[]⟩, false, [], []⟩
def macChk (m : DMacro) : DMacro × Bool := if macOk m = true then (m, true) else (zeroMac, false)
/-- Whether the second token opens parameters. -/
def opens2 (l : List Tok) : Bool := if h : 1 < l.length then decide (l[1].text = openB) && !l[1].spaced else false
def macOf (l : List Tok) : DMacro × Bool :=
  if h : toksOk l = true ∧ 0 < l.length then
    (if opens2 l = true then (match parsOf l with | some p => macChk ⟨l[0].text, true, p.1, bodyFrom l p.2⟩ | none => (zeroMac, false))
     else macChk ⟨l[0].text, false, [], bodyFrom l 1⟩)
  else (zeroMac, false)

/-! ### Valid macros -/
theorem macOk_facts {m : DMacro} (h : macOk m = true) : (oneTok m.name 1 = true ∧ m.name ≠ definedB ∧ m.params.length ≤ 4 ∧ (m.function = true ∨ m.params = []) ∧ m.body.length ≤ 20) ∧ (∀ k, (hk : k < m.params.length) → oneTok m.params[k] 1 = true) ∧ (∀ k, k < m.body.length → bodOk m k = true) := by
  unfold macOk macHead at h
  simp only [Bool.and_eq_true, Bool.not_eq_true', decide_eq_false_iff_not, decide_eq_true_eq, Bool.or_eq_true, List.all_eq_true, List.mem_range, List.length_eq_zero_iff] at h
  obtain ⟨⟨⟨⟨⟨⟨h1, h2⟩, h3⟩, h4⟩, h5⟩, h6⟩, h7⟩ := h
  refine ⟨⟨h1, h2, h3, h4, h5⟩, fun k hk => ?_, h7⟩
  have := h6 k hk
  unfold parOk at this
  rw [dif_pos hk, Bool.and_eq_true] at this
  exact this.1
theorem bodOk_facts {m : DMacro} {k : Nat} (hk : k < m.body.length) (h : bodOk m k = true) : tokOk m.body[k] = true ∧ m.body[k].hidden = [] ∧ (k = 0 → m.body[k].spaced = false) := by
  unfold bodOk at h
  rw [dif_pos hk] at h
  simp only [Bool.and_eq_true, decide_eq_true_eq, List.length_eq_zero_iff, Bool.not_eq_true', Bool.and_eq_false_iff, decide_eq_false_iff_not] at h
  obtain ⟨⟨⟨⟨h1, h2⟩, h3⟩, _⟩, _⟩ := h
  exact ⟨h1, h2, fun h => h3.resolve_left (fun h' => h' h)⟩
end Go.Proofs.Ytflbdanlcpojbaa

/- The text of a macro is read as the macro again: no program. -/
namespace Go.Proofs.Ytflbdanlcpojbaa
open Go.RowKit

/-! ### Tokens that need no space between them -/
def markT (c : UInt8) : Tok := ⟨4, ⟨#[c]⟩, false, []⟩
def nameT (s : ByteArray) : Tok := ⟨1, s, false, []⟩
theorem nameT_ok {s : ByteArray} (h : oneTok s 1 = true) : tokOk (nameT s) = true := by
  unfold tokOk nameT
  rw [Bool.and_eq_true]
  exact ⟨h, by show hidOk [] = true; decide⟩
theorem wEnd_words (s : ByteArray) (k : Nat) : ∀ j, (h : j < s.size) → k ≤ j → j < wEnd s k → isWord s[j] = true := by
  induction k using wEnd.induct (s := s) with
  | case1 k h hc ih =>
    intro j hj hkj hje
    rw [wEnd_in h hc] at hje
    by_cases e : j = k
    · subst e; exact hc
    · exact ih j hj (by omega) hje
  | case2 k h hc => intro j hj hkj hje; rw [wEnd_stop h (by simpa using hc)] at hje; omega
  | case3 k h => intro j hj hkj hje; rw [wEnd_out (by omega)] at hje; omega
/-- A name: at most twelve bytes, each of a word. -/
theorem name_facts {s : ByteArray} (h : oneTok s 1 = true) : 0 < s.size ∧ s.size ≤ 12 ∧ ∀ j, (hj : j < s.size) → isWord s[j] = true := by
  obtain ⟨h0, _, hc, _⟩ := tokOk_cut (nameT_ok h)
  obtain ⟨_, hk⟩ := (tokOk_facts (nameT_ok h)).1
  have h0' : 0 < s.size := h0
  have hc' : cutEnd s 0 = (s.size : Nat) := hc
  have hk' : (1 : Int) = cutKind s[0] := hk
  have hw : isWord s[0] = true := by
    unfold cutKind at hk'
    unfold isWord
    split at hk'
    · omega
    · split at hk'
      · rename_i h; rw [h]; rfl
      · split at hk' <;> omega
  rw [cutEnd_word h0' hw] at hc'
  split at hc'
  · omega
  · exact ⟨h0', by omega, fun j hj => wEnd_words s 0 j hj (by omega) (by omega)⟩
/-! ### Printing token by token -/
/-! ### The tokens of a macro's text -/
/-- The head's tokens up to the parameter k. -/
def hL (m : DMacro) : Nat → List Tok
  | 0 => [nameT m.name, markT 40]
  | k + 1 => (if 0 < k then hL m k ++ [markT 44] else hL m k) ++ [nameT (if h : k < m.params.length then m.params[k] else ⟨#[]⟩)]
/-! ### Reading it -/
theorem bodyFrom_len (l : List Tok) (k : Nat) : (bodyFrom l k).length = l.length - k := by simp [bodyFrom]
theorem bodyFrom_get (l : List Tok) (k i : Nat) (h : i < (bodyFrom l k).length) : (bodyFrom l k)[i] = ⟨(l[k + i]'(by rw [bodyFrom_len] at h; omega)).kind, (l[k + i]'(by rw [bodyFrom_len] at h; omega)).text, (l[k + i]'(by rw [bodyFrom_len] at h; omega)).spaced && decide (0 < i), []⟩ := by simp [bodyFrom]
/-! ### What the other promises ask -/
theorem macOf_ok {l : List Tok} {m : DMacro} (h : macOf l = (m, true)) : macOk m = true := by
  have hc : ∀ x : DMacro, macChk x = (m, true) → macOk m = true := fun x hx => by
    unfold macChk at hx
    split at hx
    · rename_i h1
      simp only [Prod.mk.injEq, and_true] at hx
      rw [← hx]; exact h1
    · simp at hx
  unfold macOf at h
  split at h
  · split at h
    · split at h
      · exact hc _ h
      · simp at h
    · exact hc _ h
  · simp at h
theorem macOf_no {l : List Tok} {m : DMacro} (h : macOf l = (m, false)) : m = zeroMac := by
  have hc : ∀ x : DMacro, macChk x = (m, false) → m = zeroMac := fun x hx => by
    unfold macChk at hx
    split at hx
    · simp at hx
    · simp only [Prod.mk.injEq, and_true] at hx; exact hx.symm
  unfold macOf at h
  split at h
  · split at h
    · split at h
      · exact hc _ h
      · simp only [Prod.mk.injEq, and_true] at h; exact h.symm
    · exact hc _ h
  · simp only [Prod.mk.injEq, and_true] at h; exact h.symm
end Go.Proofs.Ytflbdanlcpojbaa
