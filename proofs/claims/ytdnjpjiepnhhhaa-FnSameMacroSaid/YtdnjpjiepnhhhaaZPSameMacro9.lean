/- Texts that the proof of PSameMacro stands on, in one file. -/
import Derived.Test.YtdnjpjiepnhhhaaZPSameMacro8
import Derived.Test.YtdnjpjiepnhhhaaZPSameMacro6
import Derived.Test.YtdnjpjiepnhhhaaZPSameMacro5
import Derived.Test.YtdnjpjiepnhhhaaZPSameMacro4
import Derived.Test.YtdnjpjiepnhhhaaShelf
import Derived.Test.YtdnjpjiepnhhhaaZPSameMacro1
set_option linter.unusedVariables false
set_option linter.unusedSimpArgs false
/- Macros are drawn. (Made by gen_drawmac.py.) -/
namespace Go.Proofs.Ytdnjpjiepnhhhaa
open Go.RowKit

/-- A drawn macro: small. -/
def okMac (m : DMacro) : Prop := m.name.size ≤ 1000 ∧ m.params.length ≤ 100 ∧ m.body.length ≤ 100 ∧ ∀ t ∈ m.body, t.hidden.length ≤ 3
/-- What is read out of tokens is small, and hides nothing. -/
theorem of_small (l : List Tok) : (macOf l).1.name.size ≤ 12 ∧ (macOf l).1.params.length ≤ 4 ∧ (macOf l).1.body.length ≤ 20 ∧ ∀ t ∈ (macOf l).1.body, t.hidden = [] := by
  rcases h : macOf l with ⟨m, ok⟩
  cases ok
  · have := macOf_no h
    subst this
    exact ⟨by show (0 : Nat) ≤ 12; omega, by show (0 : Nat) ≤ 4; omega, by show (0 : Nat) ≤ 20; omega, fun t ht => by simp [zeroMac] at ht⟩
  · obtain ⟨⟨h1, h2, h3, h4, h5⟩, h6, h7⟩ := macOk_facts (macOf_ok h)
    refine ⟨name_size h1, h3, h5, fun t ht => ?_⟩
    obtain ⟨k, hk, rfl⟩ := List.getElem_of_mem ht
    exact (bodOk_facts hk (h7 k hk)).2.1
/-- A macro is drawn, by at most n picks. -/
def DrawnMac (rb p n : Nat) (w : World) (e : Ending) (w' : World) : Prop :=
  ∃ (nm : ByteArray) (f : Bool) (a2 a3 : Option Addr) (n2 c2 n3 c3 : Nat) (ps : List ByteArray) (bd : List Tok) (fp : List Nat) (q : Nat), e = .returned (.agg #[.string nm, .bool f, .slice a2 n2 c2, .slice a3 n3 c3]) ∧
    sMacro.R w' [.string nm, .bool f, .slice a2 n2 c2, .slice a3 n3 c3] ⟨nm, f, ps, bd⟩ fp ∧ okMac ⟨nm, f, ps, bd⟩ ∧ (∀ b ∈ fp, w.heap.size ≤ b) ∧ q ≤ p + n ∧ Rd w' rb q ∧ Kept [rb] w w'

/-- Four cells of a result. -/
def set4 (w : World) (g : Nat) (v0 v1 v2 v3 : Value) : World := (((w.setCell ⟨g, 0, none⟩ v0).setCell ⟨g, 1, none⟩ v1).setCell ⟨g, 2, none⟩ v2).setCell ⟨g, 3, none⟩ v3
theorem set4_mac {w wP : World} {g rb q : Nat} {nm : ByteArray} {f : Bool} {s2 s3 : Value} {m : DMacro} {fp : List Nat} (HZ : wP.heap[g]? = some (.cells #[.string ⟨#[]⟩, .bool false, .slice none 0 0, .slice none 0 0] 27 (0, 0))) (R : sMacro.R wP [.string nm, .bool f, s2, s3] m fp) (hn : g ∉ fp) (HR : Rd wP rb q) (hr : rb < g) (HK : Kept [rb] w wP) (hg : w.heap.size ≤ g) :
    (set4 wP g (.string nm) (.bool f) s2 s3).heap[g]? = some (.cells #[.string nm, .bool f, s2, s3] 27 (0, 0)) ∧ sMacro.R (set4 wP g (.string nm) (.bool f) s2 s3) [.string nm, .bool f, s2, s3] m fp ∧ Rd (set4 wP g (.string nm) (.bool f) s2 s3) rb q ∧ Kept [rb] w (set4 wP g (.string nm) (.bool f) s2 s3) :=
  ⟨blk_set (blk_set (blk_set (blk_set HZ 0 _) 1 _) 2 _) 3 _, sMacro.setB (sMacro.setB (sMacro.setB (sMacro.setB R hn 0 _) hn 1 _) hn 2 _) hn 3 _, rdSet (rdSet (rdSet (rdSet HR hr 0 _) hr 1 _) hr 2 _) hr 3 _, keptSet (keptSet (keptSet (keptSet HK hg _ 0) hg _ 1) hg _ 2) hg _ 3⟩
theorem dm_ret {rb p n q : Nat} {w wF : World} {nm : ByteArray} {f : Bool} {a2 a3 : Option Addr} {n2 c2 n3 c3 : Nat} {ps : List ByteArray} {bd : List Tok} {fp : List Nat} (hR : sMacro.R wF [.string nm, .bool f, .slice a2 n2 c2, .slice a3 n3 c3] ⟨nm, f, ps, bd⟩ fp) (ho : okMac ⟨nm, f, ps, bd⟩) (hlo : ∀ b ∈ fp, w.heap.size ≤ b) (hq : q ≤ p + n) (hRd : Rd wF rb q) (hK : Kept [rb] w wF) :
    DrawnMac rb p n w (.returned (.agg #[.string nm, .bool f, .slice a2 n2 c2, .slice a3 n3 c3])) wF := ⟨nm, f, a2, a3, n2, c2, n3, c3, ps, bd, fp, q, rfl, hR, ho, hlo, hq, hRd, hK⟩

/-- append of any tokens that can be read, and hide nothing, behind a row of the call's own. -/
theorem wp_append_toksR {w : World} {ops : Array Oper} {rest : List Oper} {o : Oper} {a : Act} {Q : Exit → Act → World → Prop} (hg : o.guard = none) (s y : Operand)
    (ho : o.op = .call { callee := .builtin .append, args := #[s, y], argTypes := #[25, 25] })
    (base : Nat) (v u : Value) (L : List (Elem Tok)) (M : List Tok) (fp : List Nat) (hs : a.eval s = v) (hown : RowE sTok base 59 v L w) (hy : a.eval y = u) (HM : (sSlice sTok).R w [u] M fp) (hh : ∀ t ∈ M, t.hidden = [])
    (h63 : L.length + M.length ≤ 2000000) (hbase : base ≤ w.heap.size)
    (h : ∀ v' X w', X.map (·.d) = M → (∀ x ∈ X, x.fp = []) → RowE sTok base 59 v' (L ++ X) w' → w.grownBy w' v.ownBlock → wpList Try.prog ops Q rest (a.put o.dst v') w') : wpList Try.prog ops Q (o :: rest) a w := by
  obtain ⟨i, hi, hz0, hz1, hz2⟩ := info_parts ti_tok.2
  obtain ⟨ad, cap, rfl, hc, hm, hrow⟩ := open_rows HM
  by_cases h0 : 0 < M.length
  · obtain ⟨b, off, fps, rfl, hb, -, he⟩ := hrow h0
    have hex : ∀ k, (hk : k < M.length) → ∃ hh : Value, ElemAt w b off 4 k [.int .i64 M[k].kind, .string M[k].text, .bool M[k].spaced, hh] ∧ sTok.R w [.int .i64 M[k].kind, .string M[k].text, .bool M[k].spaced, hh] M[k] [] ∧ hh.oneCell' = true := fun k hk => by
      obtain ⟨es, hE, hR⟩ := he k hk
      have hk0 := hh _ (List.getElem_mem hk)
      obtain ⟨hv, rfl, k1, k2, hK⟩ := hR
      obtain ⟨ao, co, rfl, hc1, hm1, -⟩ := open_rows hK
      exact ⟨_, hE, ⟨_, rfl, k1, k2, by rw [hk0]; exact slice_empty sStr w ao co hm1⟩, rfl⟩
    let X : List (Elem Tok) := List.ofFn fun (k : Fin M.length) => (⟨[.int .i64 M[k.1].kind, .string M[k.1].text, .bool M[k.1].spaced, (hex k.1 k.2).choose], M[k.1], []⟩ : Elem Tok)
    have hXl : X.length = M.length := by simp [X]
    have hXg : ∀ k, (hk : k < X.length) → X[k] = ⟨[.int .i64 (M[k]'(by omega)).kind, .string (M[k]'(by omega)).text, .bool (M[k]'(by omega)).spaced, (hex k (by omega)).choose], M[k]'(by omega), []⟩ := fun k hk => by simp [X]
    have hXm : ∀ x ∈ X, ∃ k, ∃ hk : k < M.length, x = ⟨[.int .i64 M[k].kind, .string M[k].text, .bool M[k].spaced, (hex k hk).choose], M[k], []⟩ := fun x hx => by
      obtain ⟨k, hk, rfl⟩ := List.getElem_of_mem hx
      exact ⟨k, by omega, hXg k hk⟩
    have hXd : X.map (·.d) = M := List.ext_getElem (by simpa using hXl) fun k h1 h2 => by rw [List.getElem_map, hXg k (by simpa using h1)]
    have hX4 : ∀ x ∈ X, x.cells.length = 4 := fun x hx => by obtain ⟨k, hk, rfl⟩ := hXm x hx; rfl
    have hX1 : ∀ x ∈ X, ∀ u ∈ x.cells, u.oneCell' = true := fun x hx u hu => by
      obtain ⟨k, hk, rfl⟩ := hXm x hx
      have := (hex k hk).choose_spec.2.2
      simp only [List.mem_cons, List.not_mem_nil, or_false] at hu
      rcases hu with rfl | rfl | rfl | rfl
      · rfl
      · rfl
      · rfl
      · exact this
    refine wpList_append_own _ hg s y _ ho base _ i _ 4 _ ti_tok.1 hi hz0 hz1 hz2 rfl (by decide) v L.length _ hs hown.row ⟨b, off, none⟩ M.length cap (X.flatMap (·.cells)) hy (by rw [flatMap_len hX4, hXl]) ?_ ?_ (by unfold maxLen; omega) (by omega) hbase fun v' w' h1 h2 _ => h v' X w' hXd (fun x hx => by obtain ⟨k, hk, rfl⟩ := hXm x hx; rfl) (hown.appended (X := X) (by rw [List.length_append, hXl, List.flatMap_append]; exact h1) h2 hX4 (fun x hx => by obtain ⟨k, hk, rfl⟩ := hXm x hx; exact (hex k hk).choose_spec.2.1) (fun x hx b hb => by obtain ⟨k, hk, rfl⟩ := hXm x hx; simp at hb) (fun x hx b hb => by obtain ⟨k, hk, rfl⟩ := hXm x hx; simp at hb)) h2
    · intro j u hj
      have hjl : j < X.length * 4 := by have := (List.getElem?_eq_some_iff.1 hj).1; rwa [flatMap_len hX4] at this
      have hdm : j = j / 4 * 4 + j % 4 := by omega
      have hk : j / 4 < X.length := by omega
      rw [hdm, flatMap_at (f := Elem.cells) hX4 hk (by omega), hXg _ hk] at hj
      have hE := (hex (j / 4) (by omega)).choose_spec.1
      have := hE.2 (j % 4) (by omega)
      rw [Addr.add_lit, show off + j = off + j / 4 * 4 + j % 4 by omega, this]
      exact hj
    · intro u hu
      obtain ⟨x, hx, hu⟩ := List.mem_flatMap.1 hu
      exact hX1 x hx u hu
  · have hM : M = [] := List.length_eq_zero_iff.1 (by omega)
    subst hM
    cases ad with
    | none =>
      have hrun := run_append_nil (P := Try.prog) (w := w) base _ o.type _ i 4 cap ti_tok.1 hi v L.length _ hown.row
      have hK := h v [] w rfl (by simp) (by simpa using hown) ⟨rfl, rfl, rfl, Nat.le_refl _, fun _ _ _ => rfl⟩
      refine wpList_plain hg fun K hK' => ?_
      unfold Oper.wp
      simp only [List.length_nil] at hy
      simp [execOp, ho, resolve, invoke, builtin, hs, hy, hrun, Result.andThen]
      exact hK' _ _ hK
    | some ad =>
      refine wpList_append_own _ hg s y _ ho base _ i _ 4 _ ti_tok.1 hi hz0 hz1 hz2 rfl (by decide) v L.length _ hs hown.row ad 0 cap [] hy rfl (by simp) (by simp) (by unfold maxLen; omega) (by omega) hbase fun v' w' h1 h2 _ => h v' [] w' rfl (by simp) ?_ h2
      exact hown.appended (X := []) (by have h1' := h1; simp only [Nat.add_zero, List.append_nil] at h1' ⊢; exact h1') h2 (by simp) (by simp) (by simp) (by simp)

def mac_texts : List ByteArray := [⟨#[97, 32, 49]⟩, ⟨#[98, 32, 97, 32, 43, 32, 50]⟩, ⟨#[65, 66, 32, 97, 32, 98]⟩, ⟨#[102, 40, 120, 41, 32, 120, 32, 43, 32, 120]⟩, ⟨#[103, 40, 120, 44, 121, 41, 32, 120, 32, 35, 35, 32, 121]⟩, ⟨#[104, 40, 120, 41, 32, 35, 32, 120]⟩, ⟨#[101, 40, 41, 32, 55]⟩, ⟨#[97, 32, 102]⟩, ⟨#[114, 32, 114, 32, 43, 32, 49]⟩, ⟨#[112, 40, 120, 41, 32, 102, 40, 120, 41]⟩, ⟨#[113, 40, 120, 44, 121, 44, 122, 41, 32, 122, 32, 121, 32, 120]⟩, ⟨#[110]⟩, ⟨#[102, 40, 120, 41, 32, 120, 32, 35, 35, 32, 49]⟩, ⟨#[109, 40, 120, 41, 32, 40, 120, 41, 32, 42, 32, 40, 120, 41]⟩, ⟨#[98, 32, 98]⟩, ⟨#[103, 40, 120, 44, 121, 41, 32, 102, 40, 120, 41, 32, 121]⟩, ⟨#[97, 32, 40, 32, 50, 32, 41]⟩, ⟨#[120, 32, 102, 32, 40, 32, 51]⟩, ⟨#[99, 40, 120, 41, 32, 120, 32, 120]⟩, ⟨#[100, 32, 53, 32, 35, 35, 32, 54]⟩]
theorem mac_texts_size : ∀ s ∈ mac_texts, s.size ≤ 14 := by decide
def mac_names : List ByteArray := [⟨#[]⟩, ⟨#[49]⟩, ⟨#[100, 101, 102, 105, 110, 101, 100]⟩, ⟨#[97, 32, 98]⟩]
theorem mac_names_size : ∀ s ∈ mac_names, s.size ≤ 7 := by decide
def mac_pars : List ByteArray := [⟨#[120]⟩, ⟨#[49]⟩, ⟨#[]⟩]
theorem mac_pars_size : ∀ s ∈ mac_pars, s.size ≤ 1 := by decide

set_option maxHeartbeats 32000000 in
set_option maxRecDepth 100000 in
theorem l20Macro (rb p : Nat) (n : Int) (w : World) (H : Rd w rb p) (hp : p ≤ 900000) (hn : n ≤ 100) (hn0 : 0 ≤ n) :
    Calls Try.prog 52 #[.pointer (some ⟨rb, 0, none⟩), .int .i64 n] w (DrawnMac rb p 10 w) := by
  have hrb := H.lt
  have hz0 := alloc_below' w (.cells #[.string ⟨#[]⟩, .bool false, .slice none 0 0, .slice none 0 0] 27)
  have HZ := Lib.hid (heap_alloc_new w (.cells #[.string ⟨#[]⟩, .bool false, .slice none 0 0, .slice none 0 0] 27))
  have hzl := alloc_below' (w.alloc (.cells #[.string ⟨#[]⟩, .bool false, .slice none 0 0, .slice none 0 0] 27)) (.cells #[.string ⟨#[97, 32, 49]⟩, .string ⟨#[98, 32, 97, 32, 43, 32, 50]⟩, .string ⟨#[65, 66, 32, 97, 32, 98]⟩, .string ⟨#[102, 40, 120, 41, 32, 120, 32, 43, 32, 120]⟩, .string ⟨#[103, 40, 120, 44, 121, 41, 32, 120, 32, 35, 35, 32, 121]⟩, .string ⟨#[104, 40, 120, 41, 32, 35, 32, 120]⟩, .string ⟨#[101, 40, 41, 32, 55]⟩, .string ⟨#[97, 32, 102]⟩, .string ⟨#[114, 32, 114, 32, 43, 32, 49]⟩, .string ⟨#[112, 40, 120, 41, 32, 102, 40, 120, 41]⟩, .string ⟨#[113, 40, 120, 44, 121, 44, 122, 41, 32, 122, 32, 121, 32, 120]⟩, .string ⟨#[110]⟩, .string ⟨#[102, 40, 120, 41, 32, 120, 32, 35, 35, 32, 49]⟩, .string ⟨#[109, 40, 120, 41, 32, 40, 120, 41, 32, 42, 32, 40, 120, 41]⟩, .string ⟨#[98, 32, 98]⟩, .string ⟨#[103, 40, 120, 44, 121, 41, 32, 102, 40, 120, 41, 32, 121]⟩, .string ⟨#[97, 32, 40, 32, 50, 32, 41]⟩, .string ⟨#[120, 32, 102, 32, 40, 32, 51]⟩, .string ⟨#[99, 40, 120, 41, 32, 120, 32, 120]⟩, .string ⟨#[100, 32, 53, 32, 35, 35, 32, 54]⟩] 9)
  have hs1 : (w.alloc (.cells #[.string ⟨#[]⟩, .bool false, .slice none 0 0, .slice none 0 0] 27)).heap.size = w.heap.size + 1 := Array.size_push _
  have HS1 := Lib.hid hs1
  clear hs1
  have HR1 := Lib.hid ((H.grow hz0).grow hzl)
  go_enter Try.func52, Try.ntmps52
  go_wp2_with fail
  refine (pick rb p _ _ HR1.out (by omega) (by omega) (by omega)).mono ?_
  rintro e w2 ⟨r, rfl, h0, h1, hR2, hK2⟩
  obtain ⟨s, hs, hcs⟩ := lit_pick mac_texts 20 (fun s hs => Nat.le_trans (mac_texts_size s hs) (by decide)) h0 (by show r < 20; omega) (by rw [HS1.out]; omega) hK2
  rw [HS1.out] at hcs
  have hb2 := hz0.trans (hzl.mono hz0.size)
  have hK02 := (Kept.of_below (fp := [rb]) hb2).trans hK2
  have HZ2 := Lib.hid (blkKept ((hzl.block _ (by rw [HS1.out]; omega)).trans HZ.out) hK2 (by omega))
  have hok : okStr s := by unfold okStr maxLen; omega
  clear hzl hz0 HZ HR1
  go_wp2_with fail
  refine (spec_TokensOf s _ hok).mono ?_
  rintro e w3 ⟨v3, f3, rfl, hT, hO, hb3⟩
  have hall := tokRes_all s
  have hK03 := hK02.trans (Kept.of_below hb3)
  have HZ3 := Lib.hid (mbox HZ2.out hb3)
  have hR3 := hR2.grow hb3
  clear hO hb3 hcs HZ2 hR2 hK2 hK02 hb2
  go_wp2_with fail
  refine (spec_MacroOf v3 _ f3 _ (by omega) (fun k hk => by rw [hall.2 _ (List.getElem_mem hk)]; simp) hT).mono ?_
  rintro e w4 ⟨cs, fp, rfl, hM, hMO, hb4⟩
  have HSM := of_small (tokRes s).1
  have hw34 : w.heap.size + 1 ≤ w3.heap.size := mlt HZ3.out
  clear hT hall
  generalize macOf (tokRes s).1 = MM at hM HSM
  obtain ⟨⟨nm, fb, ps, bd⟩, okb⟩ := MM
  obtain ⟨h2, h3, fp2, fp3, rfl, okn, K2, K3, rfl⟩ := hM
  obtain ⟨a2, c2, rfl, -⟩ := open_strs K2
  obtain ⟨a3, c3, rfl, -⟩ := open_rows K3
  obtain ⟨sm1, sm2, sm3, sm4⟩ := HSM
  have hK04 := hK03.trans (Kept.of_below hb4)
  have HZ4 := mbox HZ3.out hb4
  have hR4 := hR3.grow hb4
  have hlo : ∀ b ∈ fp2 ++ fp3, w.heap.size + 1 ≤ b ∧ b < w4.heap.size := fun b hb => ⟨by have := (hMO.2 b hb).1; omega, hMO.lt b hb⟩
  have hbx := alloc_below' w4 (.cells #[.string nm, .bool fb, .slice a2 ps.length c2, .slice a3 bd.length c3] 27)
  have HM5 := Lib.hid (heap_alloc_new w4 (.cells #[.string nm, .bool fb, .slice a2 ps.length c2, .slice a3 bd.length c3] 27))
  have HZ5 := Lib.hid (mbox HZ4 hbx)
  have HR5 := Lib.hid (hR4.grow hbx)
  have HK5 := Lib.hid (hK04.trans (Kept.of_below hbx))
  have HP5 := Lib.hid ((sSlice sStr).below K2 hbx)
  have HB5 := Lib.hid ((sSlice sTok).below K3 hbx)
  have hg1 : w.heap.size < w4.heap.size := mlt HZ4
  have HOK := Lib.hid (And.intro okn (And.intro sm1 (And.intro sm2 (And.intro sm3 sm4))))
  have HLO := Lib.hid hlo
  clear hMO hb4 hK03 hK04 HZ3 HZ4 hR3 hR4 K2 K3 hbx hlo okn sm1 sm2 sm3 sm4
  go_wp2_with fail
  refine (odd rb (p + 1) n _ HR5.out (by omega) (by omega) hn0).mono ?_
  rintro e w5 ⟨b, q, rfl, hq1, hq2, hR6, hK6⟩
  have HM6 := Lib.hid (blkKept HM5.out hK6 (by omega))
  have HZ6 := Lib.hid (blkKept HZ5.out hK6 (by omega))
  have HK6 := Lib.hid (HK5.out.trans hK6)
  have nrb : ∀ b ∈ fp2 ++ fp3, b ∉ [rb] := fun b hb hx => by have := (HLO.out b hb).1; have e : b = rb := (by simpa using hx); omega
  have HP6 := Lib.hid ((sSlice sStr).kept HP5.out (fun b hb => nrb b (by simp [hb])) hK6)
  have HB6 := Lib.hid ((sSlice sTok).kept HB5.out (fun b hb => nrb b (by simp [hb])) hK6)
  have HR6 := Lib.hid hR6
  clear HM5 HZ5 HK5 HP5 HB5 HR5 hK6 hR6
  cases b
  · -- as it is
    have y0 : w5.cell? ⟨w4.heap.size, 0, none⟩ = some (.string nm) := cell_of_row _ _ 0 _ _ _ HM6.out
    have y1 : w5.cell? ⟨w4.heap.size, 1, none⟩ = some (.bool fb) := cell_of_row _ _ 1 _ _ _ HM6.out
    have y2 : w5.cell? ⟨w4.heap.size, 2, none⟩ = some (.slice a2 ps.length c2) := cell_of_row _ _ 2 _ _ _ HM6.out
    have y3 : w5.cell? ⟨w4.heap.size, 3, none⟩ = some (.slice a3 bd.length c3) := cell_of_row _ _ 3 _ _ _ HM6.out
    have z0 : w5.cell? ⟨w.heap.size, 0, none⟩ = some (.string ⟨#[]⟩) := cell_of_row _ _ 0 _ _ _ HZ6.out
    have zf0 : w5.frozen? ⟨w.heap.size, 0, none⟩ = false := frozen_of_row _ _ 0 _ _ HZ6.out
    have z1 : w5.cell? ⟨w.heap.size, 1, none⟩ = some (.bool false) := cell_of_row _ _ 1 _ _ _ HZ6.out
    have zf1 : w5.frozen? ⟨w.heap.size, 1, none⟩ = false := frozen_of_row _ _ 1 _ _ HZ6.out
    have z2 : w5.cell? ⟨w.heap.size, 2, none⟩ = some (.slice none 0 0) := cell_of_row _ _ 2 _ _ _ HZ6.out
    have zf2 : w5.frozen? ⟨w.heap.size, 2, none⟩ = false := frozen_of_row _ _ 2 _ _ HZ6.out
    have z3 : w5.cell? ⟨w.heap.size, 3, none⟩ = some (.slice none 0 0) := cell_of_row _ _ 3 _ _ _ HZ6.out
    have zf3 : w5.frozen? ⟨w.heap.size, 3, none⟩ = false := frozen_of_row _ _ 3 _ _ HZ6.out
    have HS := Lib.hid (set4_mac (w := w) (wP := w5) HZ6.out (show sMacro.R w5 [.string nm, .bool fb, .slice a2 ps.length c2, .slice a3 bd.length c3] ⟨nm, fb, ps, bd⟩ (fp2 ++ fp3) from ⟨_, _, fp2, fp3, rfl, HOK.out.1, HP6.out, HB6.out, rfl⟩) (fun hx => by have := (HLO.out _ hx).1; omega) HR6.out (by omega) HK6.out (Nat.le_refl _))
    have HOKF : Hid (okMac ⟨nm, fb, ps, bd⟩) := ⟨by have := HOK.out.2.1; show nm.size ≤ 1000; omega, by have := HOK.out.2.2.1; show ps.length ≤ 100; omega, by have := HOK.out.2.2.2.1; show bd.length ≤ 100; omega, fun t ht => by rw [HOK.out.2.2.2.2 t ht]; simp⟩
    have HLOF : Hid (∀ b ∈ fp2 ++ fp3, w.heap.size ≤ b) := fun b hb => by have := (HLO.out b hb).1; omega
    clear HLO
    go_wp2
    refine bodyPost_ret (results_cell_row rfl _ _ w.heap.size _ _ _ _ rfl HS.out.1 Try.underlying27 rfl (by kernel_rfl)) rfl ?_
    exact dm_ret HS.out.2.1 HOKF.out HLOF.out (by omega) HS.out.2.2.1 HS.out.2.2.2
  · go_wp2_with fail
    refine (pick rb q _ _ HR6.out (by omega) (by omega) (by omega)).mono ?_
    rintro e w6 ⟨r8, rfl, hr0, hr1, hR7, hK7⟩
    have HM7 := Lib.hid (blkKept HM6.out hK7 (by omega))
    have HZ7 := Lib.hid (blkKept HZ6.out hK7 (by omega))
    have HK7 := Lib.hid (HK6.out.trans hK7)
    have HP7 := Lib.hid ((sSlice sStr).kept HP6.out (fun b hb => nrb b (by simp [hb])) hK7)
    have HB7 := Lib.hid ((sSlice sTok).kept HB6.out (fun b hb => nrb b (by simp [hb])) hK7)
    have HR7 := Lib.hid hR7
    have hs6 : w4.heap.size < w6.heap.size := mlt HM7.out
    have HX0 := Lib.hid (show ¬ (w.heap.size ∈ fp2 ++ fp3) from fun hx => by have := (HLO.out _ hx).1; omega)
    have HX1 := Lib.hid (show ¬ (w4.heap.size ∈ fp2 ++ fp3) from fun hx => by have := (HLO.out _ hx).2; omega)
    clear HM6 HZ6 HK6 HP6 HB6 HR6 hK7 hR7 nrb
    have hr8 : r8 = 0 ∨ r8 = 1 ∨ r8 = 2 ∨ r8 = 3 ∨ r8 = 4 ∨ r8 = 5 ∨ r8 = 6 ∨ r8 = 7 := by omega
    rcases hr8 with rfl | rfl | rfl | rfl | rfl | rfl | rfl | rfl
    · -- case 0
      have hbl := alloc_below' w6 (.cells #[.string ⟨#[]⟩, .string ⟨#[49]⟩, .string ⟨#[100, 101, 102, 105, 110, 101, 100]⟩, .string ⟨#[97, 32, 98]⟩] 9)
      have HRl := Lib.hid (HR7.out.grow hbl)
      go_wp2_with fail
      refine (pick rb (q + 1) _ _ HRl.out (by omega) (by omega) (by omega)).mono ?_
      rintro e w7 ⟨r4, rfl, hr40, hr41, hR8, hK8⟩
      obtain ⟨sn, hsn, hcn⟩ := lit_pick mac_names 7 mac_names_size hr40 (by show r4 < 4; omega) (by omega) hK8
      have HM8 := Lib.hid (blkKept (mbox HM7.out hbl) hK8 (by omega))
      have HZ8 := Lib.hid (blkKept (mbox HZ7.out hbl) hK8 (by omega))
      have HK8 := Lib.hid ((HK7.out.trans (Kept.of_below hbl)).trans hK8)
      have nrb : ∀ b ∈ fp2 ++ fp3, b ∉ [rb] := fun b hb hx => by have := (HLO.out b hb).1; have e : b = rb := (by simpa using hx); omega
      have HP8 := Lib.hid ((sSlice sStr).kept ((sSlice sStr).below HP7.out hbl) (fun b hb => nrb b (by simp [hb])) hK8)
      have HB8 := Lib.hid ((sSlice sTok).kept ((sSlice sTok).below HB7.out hbl) (fun b hb => nrb b (by simp [hb])) hK8)
      have HR8 := Lib.hid hR8
      have oksn : okStr sn := by unfold okStr maxLen; omega
      clear hK8 hR8 hbl HRl
      have y0 : w7.cell? ⟨w4.heap.size, 0, none⟩ = some (.string nm) := cell_of_row _ _ 0 _ _ _ HM8.out
      have y1 : w7.cell? ⟨w4.heap.size, 1, none⟩ = some (.bool fb) := cell_of_row _ _ 1 _ _ _ HM8.out
      have y2 : w7.cell? ⟨w4.heap.size, 2, none⟩ = some (.slice a2 ps.length c2) := cell_of_row _ _ 2 _ _ _ HM8.out
      have y3 : w7.cell? ⟨w4.heap.size, 3, none⟩ = some (.slice a3 bd.length c3) := cell_of_row _ _ 3 _ _ _ HM8.out
      have yf : w7.frozen? ⟨w4.heap.size, 0, none⟩ = false := frozen_of_row _ _ 0 _ _ HM8.out
      have z0 : w7.cell? ⟨w.heap.size, 0, none⟩ = some (.string ⟨#[]⟩) := cell_of_row _ _ 0 _ _ _ HZ8.out
      have zf0 : w7.frozen? ⟨w.heap.size, 0, none⟩ = false := frozen_of_row _ _ 0 _ _ HZ8.out
      have z1 : w7.cell? ⟨w.heap.size, 1, none⟩ = some (.bool false) := cell_of_row _ _ 1 _ _ _ HZ8.out
      have zf1 : w7.frozen? ⟨w.heap.size, 1, none⟩ = false := frozen_of_row _ _ 1 _ _ HZ8.out
      have z2 : w7.cell? ⟨w.heap.size, 2, none⟩ = some (.slice none 0 0) := cell_of_row _ _ 2 _ _ _ HZ8.out
      have zf2 : w7.frozen? ⟨w.heap.size, 2, none⟩ = false := frozen_of_row _ _ 2 _ _ HZ8.out
      have z3 : w7.cell? ⟨w.heap.size, 3, none⟩ = some (.slice none 0 0) := cell_of_row _ _ 3 _ _ _ HZ8.out
      have zf3 : w7.frozen? ⟨w.heap.size, 3, none⟩ = false := frozen_of_row _ _ 3 _ _ HZ8.out
      have HS := Lib.hid (set4_mac (w := w) (wP := w7.setCell ⟨w4.heap.size, 0, none⟩ (.string sn)) (blk_other HZ8.out (by omega : w.heap.size ≠ w4.heap.size) 0 (.string sn)) (sMacro.setB (show sMacro.R w7 [.string sn, .bool fb, .slice a2 ps.length c2, .slice a3 bd.length c3] ⟨sn, fb, ps, bd⟩ (fp2 ++ fp3) from ⟨_, _, fp2, fp3, rfl, oksn, HP8.out, HB8.out, rfl⟩) HX1.out 0 (.string sn)) HX0.out (rdSet HR8.out (by omega) 0 (.string sn)) (by omega) (keptSet HK8.out (by omega) (.string sn) 0) (Nat.le_refl _))
      have HOKF : Hid (okMac ⟨sn, fb, ps, bd⟩) := ⟨by show sn.size ≤ 1000; omega, by have := HOK.out.2.2.1; show ps.length ≤ 100; omega, by have := HOK.out.2.2.2.1; show bd.length ≤ 100; omega, fun t ht => by rw [HOK.out.2.2.2.2 t ht]; simp⟩
      have HLOF : Hid (∀ b ∈ fp2 ++ fp3, w.heap.size ≤ b) := fun b hb => by have := (HLO.out b hb).1; omega
      clear HLO
      go_wp2
      refine bodyPost_ret (results_cell_row rfl _ _ w.heap.size _ _ _ _ rfl HS.out.1 Try.underlying27 rfl (by kernel_rfl)) rfl ?_
      exact dm_ret HS.out.2.1 HOKF.out HLOF.out (by omega) HS.out.2.2.1 HS.out.2.2.2
    · -- case 1
      have hbl := alloc_below' w6 (.cells #[] 9)
      have hlit : Hid ((w6.alloc (.cells #[] 9)).ownsRow w6.heap.size 9 1 (.slice (some ⟨w6.heap.size, 0, none⟩) 0 0) ([] : List ByteArray).length (([] : List ByteArray).map Value.string)) := World.ownsRow_lit (base := w6.heap.size) (e := 9) (size := 1) w6 #[] 0 (Nat.le_refl _) (by simp) rfl
      have HMW := Lib.hid (mbox HM7.out hbl)
      have HZW := Lib.hid (mbox HZ7.out hbl)
      have HRW := Lib.hid (HR7.out.grow hbl)
      have HKW := Lib.hid (HK7.out.trans (Kept.of_below hbl))
      have HPW := Lib.hid ((sSlice sStr).below HP7.out hbl)
      have HBW := Lib.hid ((sSlice sTok).below HB7.out hbl)
      obtain ⟨_, _, -, -, -, -, hsz⟩ := open_strs HPW.out
      have HSZ := Lib.hid hsz
      clear hsz
      have y2 : (w6.alloc (.cells #[] 9)).cell? ⟨w4.heap.size, 2, none⟩ = some (.slice a2 ps.length c2) := cell_of_row _ _ 2 _ _ _ HMW.out
      have hws : (w6.alloc (.cells #[] 9)).heap.size = w6.heap.size + 1 := Array.size_push _
      have HWS := Lib.hid hws
      have hps4 := HOK.out.2.2.1
      clear hbl hws
      have hq1' : q ≤ p + 8 := by omega
      go_wp2_with (first
        | (
          at_builtin
          refine wp_append_strsR rfl (.tmp 48) (.tmp 50) rfl w6.heap.size (.slice (some ⟨w6.heap.size, 0, none⟩) 0 0) (.slice a2 ps.length c2) [] ps fp2 rfl hlit.out rfl HPW.out (by simp; omega) (by rw [HWS.out]; omega) ?_
          intro v8 w8 hE hg
          have hown : ∀ b, (Value.slice (some ⟨w6.heap.size, 0, none⟩) 0 0).ownBlock = some b → w6.heap.size ≤ b := fun b hb => by simp only [Value.ownBlock, Option.some.injEq] at hb; omega
          have hlt6 : w6.heap.size < (w6.alloc (.cells #[] 9)).heap.size := by rw [HWS.out]; omega
          have kb : ∀ b, b < w6.heap.size → w8.heap[b]? = ((w6.alloc (.cells #[] 9))).heap[b]? := fun b hb => hg.block b (by omega) (fun he => by have := hown b he.symm; omega)
          have HM8 := Lib.hid ((kb _ (by omega)).trans HMW.out)
          have HZ8 := Lib.hid ((kb _ (by omega)).trans HZW.out)
          have HR8 := Lib.hid (grownRd HRW.out hg (by omega : rb < w6.heap.size) (fun b hb => hown b hb))
          have HK8 := Lib.hid (grownKept HKW.out hg (fun b hb => by have := hown b hb; omega))
          have HB8 := Lib.hid ((sSlice sTok).frame (fun b hb => kb b (by have := (HLO.out b (by simp [hb])).2; omega)) HBW.out)
          have hs8 : w6.heap.size < w8.heap.size := Nat.lt_of_lt_of_le hlt6 hg.size
          rw [List.nil_append] at hE
          obtain ⟨fp1, R1, -, -⟩ := own_flat (ok := okStr) hE HSZ.out
          obtain ⟨a8, c8, rfl, -⟩ := open_rows R1
          have HE8 := Lib.hid hE
          have hbl2 := alloc_below' w8 (.cells #[.string ⟨#[120]⟩, .string ⟨#[49]⟩, .string ⟨#[]⟩] 9)
          have HR9 := Lib.hid (HR8.out.grow hbl2)
          have HM9 := Lib.hid (mbox HM8.out hbl2)
          have HZ9 := Lib.hid (mbox HZ8.out hbl2)
          have HK9 := Lib.hid (HK8.out.trans (Kept.of_below hbl2))
          have HB9 := Lib.hid ((sSlice sTok).below HB8.out hbl2)
          have HE9 := Lib.hid (HE8.out.alloc (.cells #[.string ⟨#[120]⟩, .string ⟨#[49]⟩, .string ⟨#[]⟩] 9))
          have HS9 : Hid ((w8.alloc (.cells #[.string ⟨#[120]⟩, .string ⟨#[49]⟩, .string ⟨#[]⟩] 9)).heap.size = w8.heap.size + 1) := Array.size_push _
          clear hE hg kb hown y2 hlit R1 HR8 HM8 HZ8 HK8 HB8 HE8 hbl2)
        | (
          go_at_call 59
          refine (pick rb (q + 1) _ _ HR9.out (by omega) (by omega) (by omega)).mono ?_
          rintro e w9 ⟨r9, rfl, hr90, hr91, hR, hK⟩
          obtain ⟨sn, hsn, hcn⟩ := lit_pick mac_pars 1 mac_pars_size hr90 (by show r9 < 3; omega) (by omega) hK
          have nrb : ∀ b ∈ fp2 ++ fp3, b ∉ [rb] := fun b hb hx => by have := (HLO.out b hb).1; have e : b = rb := (by simpa using hx); omega
          have hs9 : w8.heap.size < w9.heap.size := by have := hK.size; have e := HS9.out; omega
          have HMA := Lib.hid (blkKept HM9.out hK (by omega))
          have HZA := Lib.hid (blkKept HZ9.out hK (by omega))
          have HKA := Lib.hid (HK9.out.trans hK)
          have HBA := Lib.hid ((sSlice sTok).kept HB9.out (fun b hb => nrb b (by simp [hb])) hK)
          have HEA := Lib.hid (own_kept HE9.out hK (by omega))
          have HRA := Lib.hid hR
          have oksn : okStr sn := by unfold okStr maxLen; omega
          clear hK hR nrb HR9 HM9 HZ9 HK9 HB9 HE9 HS9)
        | (
          at_builtin
          refine wp_append_one ti27 rfl _ (.string sn) rfl rfl (.tmp 51) (.tmp 57) rfl w6.heap.size (.slice a8 ps.length c8) ps.length (ps.map Value.string) rfl HEA.out rfl (by unfold maxLen; omega) (by omega) (by omega) ?_
          intro v10 w10 hE10 hg10
          have hown : ∀ b, (Value.slice a8 ps.length c8).ownBlock = some b → w6.heap.size ≤ b := fun b hb => (HEA.out.lt b hb).1
          have kb : ∀ b, b < w6.heap.size → w10.heap[b]? = w9.heap[b]? := fun b hb => hg10.block b (by omega) (fun he => by have := hown b he.symm; omega)
          have HMX := Lib.hid ((kb _ (by omega)).trans HMA.out)
          have HZX := Lib.hid ((kb _ (by omega)).trans HZA.out)
          have HRX := Lib.hid (grownRd HRA.out hg10 (by omega : rb < w6.heap.size) (fun b hb => hown b hb))
          have HKX := Lib.hid (grownKept HKA.out hg10 (fun b hb => by have := hown b hb; omega))
          have HBX := Lib.hid ((sSlice sTok).frame (fun b hb => kb b (by have := (HLO.out b (by simp [hb])).2; omega)) HBA.out)
          have hE11 : w10.ownsRow w6.heap.size 9 1 v10 (ps ++ [sn]).length ((ps ++ [sn]).map Value.string) := by simpa using hE10
          obtain ⟨fpP, hRP, hOP, -⟩ := own_flat (ok := okStr) hE11 (fun i hi => (List.mem_append.1 (List.getElem_mem hi)).elim (fun h => by obtain ⟨k, hk, e⟩ := List.getElem_of_mem h; rw [← e]; exact HSZ.out k hk) (fun h => by rw [List.mem_singleton.1 h]; exact oksn))
          have HFB : Hid (∀ b ∈ fpP, w6.heap.size ≤ b) := fun b hb => (hOP.2 b hb).1
          have HRP := Lib.hid hRP
          obtain ⟨av, cv, hv, -⟩ := open_rows hRP
          generalize (ps ++ [sn]).length = nv at hv
          subst hv
          clear hE10 hE11 hg10 kb hRP hOP hown
          have y0 : w10.cell? ⟨w4.heap.size, 0, none⟩ = some (.string nm) := cell_of_row _ _ 0 _ _ _ HMX.out
          have y1 : w10.cell? ⟨w4.heap.size, 1, none⟩ = some (.bool fb) := cell_of_row _ _ 1 _ _ _ HMX.out
          have y2 : w10.cell? ⟨w4.heap.size, 2, none⟩ = some (.slice a2 ps.length c2) := cell_of_row _ _ 2 _ _ _ HMX.out
          have y3 : w10.cell? ⟨w4.heap.size, 3, none⟩ = some (.slice a3 bd.length c3) := cell_of_row _ _ 3 _ _ _ HMX.out
          have yf : w10.frozen? ⟨w4.heap.size, 2, none⟩ = false := frozen_of_row _ _ 2 _ _ HMX.out
          have z0 : w10.cell? ⟨w.heap.size, 0, none⟩ = some (.string ⟨#[]⟩) := cell_of_row _ _ 0 _ _ _ HZX.out
          have zf0 : w10.frozen? ⟨w.heap.size, 0, none⟩ = false := frozen_of_row _ _ 0 _ _ HZX.out
          have z1 : w10.cell? ⟨w.heap.size, 1, none⟩ = some (.bool false) := cell_of_row _ _ 1 _ _ _ HZX.out
          have zf1 : w10.frozen? ⟨w.heap.size, 1, none⟩ = false := frozen_of_row _ _ 1 _ _ HZX.out
          have z2 : w10.cell? ⟨w.heap.size, 2, none⟩ = some (.slice none 0 0) := cell_of_row _ _ 2 _ _ _ HZX.out
          have zf2 : w10.frozen? ⟨w.heap.size, 2, none⟩ = false := frozen_of_row _ _ 2 _ _ HZX.out
          have z3 : w10.cell? ⟨w.heap.size, 3, none⟩ = some (.slice none 0 0) := cell_of_row _ _ 3 _ _ _ HZX.out
          have zf3 : w10.frozen? ⟨w.heap.size, 3, none⟩ = false := frozen_of_row _ _ 3 _ _ HZX.out
          have HS := Lib.hid (set4_mac (w := w) (wP := w10.setCell ⟨w4.heap.size, 2, none⟩ (.slice av nv cv)) (blk_other HZX.out (by omega : w.heap.size ≠ w4.heap.size) 2 (.slice av nv cv)) (sMacro.setB (show sMacro.R w10 [.string nm, .bool fb, .slice av nv cv, .slice a3 bd.length c3] ⟨nm, fb, ps ++ [sn], bd⟩ (fpP ++ fp3) from ⟨_, _, fpP, fp3, rfl, HOK.out.1, HRP.out, HBX.out, rfl⟩) (fun hx => (List.mem_append.1 hx).elim (fun h => by have := HFB.out _ h; omega) (fun h => HX1.out (by simp [h]))) 2 (.slice av nv cv)) (fun hx => (List.mem_append.1 hx).elim (fun h => by have := HFB.out _ h; omega) (fun h => HX0.out (by simp [h]))) (rdSet HRX.out (by omega) 2 (.slice av nv cv)) (by omega) (keptSet HKX.out (by omega) (.slice av nv cv) 2) (Nat.le_refl _))
          have HOKF : Hid (okMac ⟨nm, fb, ps ++ [sn], bd⟩) := ⟨by have := HOK.out.2.1; show nm.size ≤ 1000; omega, by show (ps ++ [sn]).length ≤ 100; simp only [List.length_append, List.length_cons, List.length_nil]; omega, by have := HOK.out.2.2.2.1; show bd.length ≤ 100; omega, fun t ht => by rw [HOK.out.2.2.2.2 t ht]; simp⟩
          have HLOF : Hid (∀ b ∈ fpP ++ fp3, w.heap.size ≤ b) := fun b hb => (List.mem_append.1 hb).elim (fun h => by have := HFB.out _ h; omega) (fun h => by have := (HLO.out b (by simp [h])).1; omega)
          clear HLO))
      refine bodyPost_ret (results_cell_row rfl _ _ w.heap.size _ _ _ _ rfl HS.out.1 Try.underlying27 rfl (by kernel_rfl)) rfl ?_
      exact dm_ret HS.out.2.1 HOKF.out HLOF.out (by omega) HS.out.2.2.1 HS.out.2.2.2
    · -- case 2
      have y0 : w6.cell? ⟨w4.heap.size, 0, none⟩ = some (.string nm) := cell_of_row _ _ 0 _ _ _ HM7.out
      have y1 : w6.cell? ⟨w4.heap.size, 1, none⟩ = some (.bool fb) := cell_of_row _ _ 1 _ _ _ HM7.out
      have y2 : w6.cell? ⟨w4.heap.size, 2, none⟩ = some (.slice a2 ps.length c2) := cell_of_row _ _ 2 _ _ _ HM7.out
      have y3 : w6.cell? ⟨w4.heap.size, 3, none⟩ = some (.slice a3 bd.length c3) := cell_of_row _ _ 3 _ _ _ HM7.out
      have yf : w6.frozen? ⟨w4.heap.size, 1, none⟩ = false := frozen_of_row _ _ 1 _ _ HM7.out
      have z0 : w6.cell? ⟨w.heap.size, 0, none⟩ = some (.string ⟨#[]⟩) := cell_of_row _ _ 0 _ _ _ HZ7.out
      have zf0 : w6.frozen? ⟨w.heap.size, 0, none⟩ = false := frozen_of_row _ _ 0 _ _ HZ7.out
      have z1 : w6.cell? ⟨w.heap.size, 1, none⟩ = some (.bool false) := cell_of_row _ _ 1 _ _ _ HZ7.out
      have zf1 : w6.frozen? ⟨w.heap.size, 1, none⟩ = false := frozen_of_row _ _ 1 _ _ HZ7.out
      have z2 : w6.cell? ⟨w.heap.size, 2, none⟩ = some (.slice none 0 0) := cell_of_row _ _ 2 _ _ _ HZ7.out
      have zf2 : w6.frozen? ⟨w.heap.size, 2, none⟩ = false := frozen_of_row _ _ 2 _ _ HZ7.out
      have z3 : w6.cell? ⟨w.heap.size, 3, none⟩ = some (.slice none 0 0) := cell_of_row _ _ 3 _ _ _ HZ7.out
      have zf3 : w6.frozen? ⟨w.heap.size, 3, none⟩ = false := frozen_of_row _ _ 3 _ _ HZ7.out
      have HS := Lib.hid (set4_mac (w := w) (wP := w6.setCell ⟨w4.heap.size, 1, none⟩ (.bool (!fb))) (blk_other HZ7.out (by omega : w.heap.size ≠ w4.heap.size) 1 (.bool (!fb))) (sMacro.setB (show sMacro.R w6 [.string nm, .bool (!fb), .slice a2 ps.length c2, .slice a3 bd.length c3] ⟨nm, !fb, ps, bd⟩ (fp2 ++ fp3) from ⟨_, _, fp2, fp3, rfl, HOK.out.1, HP7.out, HB7.out, rfl⟩) HX1.out 1 (.bool (!fb))) HX0.out (rdSet HR7.out (by omega) 1 (.bool (!fb))) (by omega) (keptSet HK7.out (by omega) (.bool (!fb)) 1) (Nat.le_refl _))
      have HOKF : Hid (okMac ⟨nm, !fb, ps, bd⟩) := ⟨by have := HOK.out.2.1; show nm.size ≤ 1000; omega, by have := HOK.out.2.2.1; show ps.length ≤ 100; omega, by have := HOK.out.2.2.2.1; show bd.length ≤ 100; omega, fun t ht => by rw [HOK.out.2.2.2.2 t ht]; simp⟩
      have HLOF : Hid (∀ b ∈ fp2 ++ fp3, w.heap.size ≤ b) := fun b hb => by have := (HLO.out b hb).1; omega
      clear HLO
      go_wp2
      refine bodyPost_ret (results_cell_row rfl _ _ w.heap.size _ _ _ _ rfl HS.out.1 Try.underlying27 rfl (by kernel_rfl)) rfl ?_
      exact dm_ret HS.out.2.1 HOKF.out HLOF.out (by omega) HS.out.2.2.1 HS.out.2.2.2
    · -- case 3
      have hbl := alloc_below' w6 (.cells #[.int .i64 4, .string ⟨#[35, 35]⟩, .bool false, .slice none 0 0] 59)
      have hlit : Hid (RowE sTok w6.heap.size 59 (.slice (some ⟨w6.heap.size, 0, none⟩) 1 1) [(⟨[.int .i64 4, .string ⟨#[35, 35]⟩, .bool false, .slice none 0 0], ⟨4, ⟨#[35, 35]⟩, false, []⟩, []⟩ : Elem Tok)] (w6.alloc (.cells #[.int .i64 4, .string ⟨#[35, 35]⟩, .bool false, .slice none 0 0] 59))) := RowE.lit [(⟨[.int .i64 4, .string ⟨#[35, 35]⟩, .bool false, .slice none 0 0], ⟨4, ⟨#[35, 35]⟩, false, []⟩, []⟩ : Elem Tok)] (by intro x hx; obtain rfl := List.mem_singleton.1 hx; rfl) (by intro x hx; obtain rfl := List.mem_singleton.1 hx; exact ⟨_, rfl, ⟨by decide, by decide⟩, by show okStr _; unfold okStr; decide, slice_empty sStr _ _ _ (by simp)⟩) (by intro x hx b hb; obtain rfl := List.mem_singleton.1 hx; simp at hb) (by intro x hx b hb; obtain rfl := List.mem_singleton.1 hx; simp at hb) (Nat.le_refl _) (by decide)
      have HMW := Lib.hid (mbox HM7.out hbl)
      have HZW := Lib.hid (mbox HZ7.out hbl)
      have HRW := Lib.hid (HR7.out.grow hbl)
      have HKW := Lib.hid (HK7.out.trans (Kept.of_below hbl))
      have HPW := Lib.hid ((sSlice sStr).below HP7.out hbl)
      have HBW := Lib.hid ((sSlice sTok).below HB7.out hbl)
      have y3 : (w6.alloc (.cells #[.int .i64 4, .string ⟨#[35, 35]⟩, .bool false, .slice none 0 0] 59)).cell? ⟨w4.heap.size, 3, none⟩ = some (.slice a3 bd.length c3) := cell_of_row _ _ 3 _ _ _ HMW.out
      have hws : (w6.alloc (.cells #[.int .i64 4, .string ⟨#[35, 35]⟩, .bool false, .slice none 0 0] 59)).heap.size = w6.heap.size + 1 := Array.size_push _
      have HWS := Lib.hid hws
      clear hbl hws
      have hq1' : q ≤ p + 9 := by omega
      go_wp2_with (
        at_builtin
        refine wp_append_toksR rfl (.tmp 69) (.tmp 71) rfl w6.heap.size (.slice (some ⟨w6.heap.size, 0, none⟩) 1 1) (.slice a3 bd.length c3) [(⟨[.int .i64 4, .string ⟨#[35, 35]⟩, .bool false, .slice none 0 0], ⟨4, ⟨#[35, 35]⟩, false, []⟩, []⟩ : Elem Tok)] bd fp3 rfl hlit.out rfl HBW.out HOK.out.2.2.2.2 (by have := HOK.out.2.2.2.1; simp; omega) (by rw [HWS.out]; omega) ?_
        intro v8 X w8 hX hXf hE hg
        have hown : ∀ b, (Value.slice (some ⟨w6.heap.size, 0, none⟩) 1 1).ownBlock = some b → w6.heap.size ≤ b := hlit.out.mine
        have hlt6 : w6.heap.size < (w6.alloc (.cells #[.int .i64 4, .string ⟨#[35, 35]⟩, .bool false, .slice none 0 0] 59)).heap.size := by rw [HWS.out]; omega
        have kb : ∀ b, b < w6.heap.size → w8.heap[b]? = ((w6.alloc (.cells #[.int .i64 4, .string ⟨#[35, 35]⟩, .bool false, .slice none 0 0] 59))).heap[b]? := fun b hb => hg.block b (by omega) (fun he => by have := hown b he.symm; omega)
        have HM8 := Lib.hid ((kb _ (by omega)).trans HMW.out)
        have HZ8 := Lib.hid ((kb _ (by omega)).trans HZW.out)
        have HR8 := Lib.hid (grownRd HRW.out hg (by omega : rb < w6.heap.size) (fun b hb => hown b hb))
        have HK8 := Lib.hid (grownKept HKW.out hg (fun b hb => by have := hown b hb; omega))
        have HP8 := Lib.hid ((sSlice sStr).frame (fun b hb => kb b (by have := (HLO.out b (by simp [hb])).2; omega)) HPW.out)
        obtain ⟨fpB, hRB, hOB⟩ := rowE_own hE (fun x hx => (List.mem_append.1 hx).elim (fun h => by obtain rfl := List.mem_singleton.1 h; rfl) (hXf x))
        have HFB : Hid (∀ b ∈ fpB, w6.heap.size ≤ b) := fun b hb => (hOB.2 b hb).1
        obtain ⟨av, cv, hv, -⟩ := hE.val
        generalize ([(⟨[.int .i64 4, .string ⟨#[35, 35]⟩, .bool false, .slice none 0 0], ⟨4, ⟨#[35, 35]⟩, false, []⟩, []⟩ : Elem Tok)] ++ X).length = nv at hv
        subst hv
        have HRB := Lib.hid hRB
        clear hE hg kb hRB hOB hown y3
        have y0 : w8.cell? ⟨w4.heap.size, 0, none⟩ = some (.string nm) := cell_of_row _ _ 0 _ _ _ HM8.out
        have y1 : w8.cell? ⟨w4.heap.size, 1, none⟩ = some (.bool fb) := cell_of_row _ _ 1 _ _ _ HM8.out
        have y2 : w8.cell? ⟨w4.heap.size, 2, none⟩ = some (.slice a2 ps.length c2) := cell_of_row _ _ 2 _ _ _ HM8.out
        have y3 : w8.cell? ⟨w4.heap.size, 3, none⟩ = some (.slice a3 bd.length c3) := cell_of_row _ _ 3 _ _ _ HM8.out
        have yf : w8.frozen? ⟨w4.heap.size, 3, none⟩ = false := frozen_of_row _ _ 3 _ _ HM8.out
        have z0 : w8.cell? ⟨w.heap.size, 0, none⟩ = some (.string ⟨#[]⟩) := cell_of_row _ _ 0 _ _ _ HZ8.out
        have zf0 : w8.frozen? ⟨w.heap.size, 0, none⟩ = false := frozen_of_row _ _ 0 _ _ HZ8.out
        have z1 : w8.cell? ⟨w.heap.size, 1, none⟩ = some (.bool false) := cell_of_row _ _ 1 _ _ _ HZ8.out
        have zf1 : w8.frozen? ⟨w.heap.size, 1, none⟩ = false := frozen_of_row _ _ 1 _ _ HZ8.out
        have z2 : w8.cell? ⟨w.heap.size, 2, none⟩ = some (.slice none 0 0) := cell_of_row _ _ 2 _ _ _ HZ8.out
        have zf2 : w8.frozen? ⟨w.heap.size, 2, none⟩ = false := frozen_of_row _ _ 2 _ _ HZ8.out
        have z3 : w8.cell? ⟨w.heap.size, 3, none⟩ = some (.slice none 0 0) := cell_of_row _ _ 3 _ _ _ HZ8.out
        have zf3 : w8.frozen? ⟨w.heap.size, 3, none⟩ = false := frozen_of_row _ _ 3 _ _ HZ8.out
        have HS := Lib.hid (set4_mac (w := w) (wP := w8.setCell ⟨w4.heap.size, 3, none⟩ (.slice av nv cv)) (blk_other HZ8.out (by omega : w.heap.size ≠ w4.heap.size) 3 (.slice av nv cv)) (sMacro.setB (show sMacro.R w8 [.string nm, .bool fb, .slice a2 ps.length c2, .slice av nv cv] ⟨nm, fb, ps, ([(⟨[.int .i64 4, .string ⟨#[35, 35]⟩, .bool false, .slice none 0 0], ⟨4, ⟨#[35, 35]⟩, false, []⟩, []⟩ : Elem Tok)] ++ X).map (·.d)⟩ (fp2 ++ fpB) from ⟨_, _, fp2, fpB, rfl, HOK.out.1, HP8.out, HRB.out, rfl⟩) (fun hx => (List.mem_append.1 hx).elim (fun h => HX1.out (by simp [h])) (fun h => by have := HFB.out _ h; omega)) 3 (.slice av nv cv)) (fun hx => (List.mem_append.1 hx).elim (fun h => HX0.out (by simp [h])) (fun h => by have := HFB.out _ h; omega)) (rdSet HR8.out (by omega) 3 (.slice av nv cv)) (by omega) (keptSet HK8.out (by omega) (.slice av nv cv) 3) (Nat.le_refl _))
        have HOKF : Hid (okMac ⟨nm, fb, ps, ([(⟨[.int .i64 4, .string ⟨#[35, 35]⟩, .bool false, .slice none 0 0], ⟨4, ⟨#[35, 35]⟩, false, []⟩, []⟩ : Elem Tok)] ++ X).map (·.d)⟩) := ⟨by have := HOK.out.2.1; show nm.size ≤ 1000; omega, by have := HOK.out.2.2.1; show ps.length ≤ 100; omega, by rw [List.map_append, hX]; simp; have := HOK.out.2.2.2.1; omega, fun t ht => by rw [List.map_append, hX] at ht; exact (List.mem_append.1 ht).elim (fun h => by simp at h; rw [h]; decide) (fun h => by rw [HOK.out.2.2.2.2 t h]; simp)⟩
        have HLOF : Hid (∀ b ∈ fp2 ++ fpB, w.heap.size ≤ b) := fun b hb => (List.mem_append.1 hb).elim (fun h => by have := (HLO.out b (by simp [h])).1; omega) (fun h => by have := HFB.out _ h; omega)
        clear HLO)
      refine bodyPost_ret (results_cell_row rfl _ _ w.heap.size _ _ _ _ rfl HS.out.1 Try.underlying27 rfl (by kernel_rfl)) rfl ?_
      exact dm_ret HS.out.2.1 HOKF.out HLOF.out (by omega) HS.out.2.2.1 HS.out.2.2.2
    · -- case 4
      have hbl := alloc_below' w6 (.cells #[] 59)
      have hlit : Hid (RowE sTok w6.heap.size 59 (.slice (some ⟨w6.heap.size, 0, none⟩) 0 0) [] (w6.alloc (.cells #[] 59))) := RowE.lit [] (by simp) (by simp) (by simp) (by simp) (Nat.le_refl _) (by simp)
      have HMW := Lib.hid (mbox HM7.out hbl)
      have HZW := Lib.hid (mbox HZ7.out hbl)
      have HRW := Lib.hid (HR7.out.grow hbl)
      have HKW := Lib.hid (HK7.out.trans (Kept.of_below hbl))
      have HPW := Lib.hid ((sSlice sStr).below HP7.out hbl)
      have HBW := Lib.hid ((sSlice sTok).below HB7.out hbl)
      have y3 : (w6.alloc (.cells #[] 59)).cell? ⟨w4.heap.size, 3, none⟩ = some (.slice a3 bd.length c3) := cell_of_row _ _ 3 _ _ _ HMW.out
      have hws : (w6.alloc (.cells #[] 59)).heap.size = w6.heap.size + 1 := Array.size_push _
      have HWS := Lib.hid hws
      clear hbl hws
      have hq1' : q ≤ p + 9 := by omega
      go_wp2_with (first
        | (
          at_builtin
          refine wp_append_toksR rfl (.tmp 76) (.tmp 78) rfl w6.heap.size (.slice (some ⟨w6.heap.size, 0, none⟩) 0 0) (.slice a3 bd.length c3) [] bd fp3 rfl hlit.out rfl HBW.out HOK.out.2.2.2.2 (by have := HOK.out.2.2.2.1; simp; omega) (by rw [HWS.out]; omega) ?_
          intro v8 X w8 hX hXf hE hg
          have hown : ∀ b, (Value.slice (some ⟨w6.heap.size, 0, none⟩) 0 0).ownBlock = some b → w6.heap.size ≤ b := hlit.out.mine
          have hlt6 : w6.heap.size < (w6.alloc (.cells #[] 59)).heap.size := by rw [HWS.out]; omega
          have kb : ∀ b, b < w6.heap.size → w8.heap[b]? = ((w6.alloc (.cells #[] 59))).heap[b]? := fun b hb => hg.block b (by omega) (fun he => by have := hown b he.symm; omega)
          have HM8 := Lib.hid ((kb _ (by omega)).trans HMW.out)
          have HZ8 := Lib.hid ((kb _ (by omega)).trans HZW.out)
          have HR8 := Lib.hid (grownRd HRW.out hg (by omega : rb < w6.heap.size) (fun b hb => hown b hb))
          have HK8 := Lib.hid (grownKept HKW.out hg (fun b hb => by have := hown b hb; omega))
          have HP8 := Lib.hid ((sSlice sStr).frame (fun b hb => kb b (by have := (HLO.out b (by simp [hb])).2; omega)) HPW.out)
          have hs8 : w6.heap.size < w8.heap.size := Nat.lt_of_lt_of_le hlt6 hg.size
          rw [List.nil_append] at hE
          obtain ⟨a8, c8, hv8, -⟩ := hE.val
          obtain ⟨n8, hn8⟩ : ∃ n, n = X.length := ⟨_, rfl⟩
          rw [← hn8] at hv8
          subst hv8
          have hn8b : n8 ≤ 20 := by have e : X.length = bd.length := (by rw [← hX, List.length_map]); have := HOK.out.2.2.2.1; omega
          have HN8 := Lib.hid hn8
          have HX8 := Lib.hid hX
          have HE8 := Lib.hid hE
          clear hE hg kb hown y3 hn8 hX hXf hlit)
        | (
          at_builtin
          refine wp_append_tokE rfl (.tmp 79) (.tmp 81) rfl w6.heap.size (.slice a8 n8 c8) X rfl HE8.out 4 ⟨#[35]⟩ false none 0 0 [] [] rfl (⟨_, rfl, ⟨by decide, by decide⟩, by show okStr _; unfold okStr; decide, slice_empty sStr _ _ _ (by simp)⟩) (by simp) (by simp) (by rw [← HN8.out]; omega) (by skip; omega) ?_
          intro v10 w10 hE10 hg10
          have hown := HE8.out.mine
          have kb : ∀ b, b < w6.heap.size → w10.heap[b]? = w8.heap[b]? := fun b hb => hg10.block b (by skip; omega) (fun he => by have := hown b he.symm; omega)
          have HMX := Lib.hid ((kb _ (by omega)).trans HM8.out)
          have HZX := Lib.hid ((kb _ (by omega)).trans HZ8.out)
          have HRX := Lib.hid (grownRd HR8.out hg10 (by omega : rb < w6.heap.size) (fun b hb => hown b hb))
          have HKX := Lib.hid (grownKept HK8.out hg10 (fun b hb => by have := hown b hb; omega))
          have HPX := Lib.hid ((sSlice sStr).frame (fun b hb => kb b (by have := (HLO.out b (by simp [hb])).2; omega)) HP8.out)
          obtain ⟨fpB, hRB, hOB⟩ := hE10.read
          have HFB : Hid (∀ b ∈ fpB, w6.heap.size ≤ b) := hOB
          have HRB := Lib.hid hRB
          obtain ⟨av, cv, hv, -⟩ := hE10.val
          generalize (X ++ [(⟨[.int .i64 4, .string ⟨#[35]⟩, .bool false, .slice none 0 0], ⟨4, ⟨#[35]⟩, false, []⟩, []⟩ : Elem Tok)]).length = nv at hv
          subst hv
          clear hE10 hg10 kb hRB hOB hown
          have y0 : w10.cell? ⟨w4.heap.size, 0, none⟩ = some (.string nm) := cell_of_row _ _ 0 _ _ _ HMX.out
          have y1 : w10.cell? ⟨w4.heap.size, 1, none⟩ = some (.bool fb) := cell_of_row _ _ 1 _ _ _ HMX.out
          have y2 : w10.cell? ⟨w4.heap.size, 2, none⟩ = some (.slice a2 ps.length c2) := cell_of_row _ _ 2 _ _ _ HMX.out
          have y3 : w10.cell? ⟨w4.heap.size, 3, none⟩ = some (.slice a3 bd.length c3) := cell_of_row _ _ 3 _ _ _ HMX.out
          have yf : w10.frozen? ⟨w4.heap.size, 3, none⟩ = false := frozen_of_row _ _ 3 _ _ HMX.out
          have z0 : w10.cell? ⟨w.heap.size, 0, none⟩ = some (.string ⟨#[]⟩) := cell_of_row _ _ 0 _ _ _ HZX.out
          have zf0 : w10.frozen? ⟨w.heap.size, 0, none⟩ = false := frozen_of_row _ _ 0 _ _ HZX.out
          have z1 : w10.cell? ⟨w.heap.size, 1, none⟩ = some (.bool false) := cell_of_row _ _ 1 _ _ _ HZX.out
          have zf1 : w10.frozen? ⟨w.heap.size, 1, none⟩ = false := frozen_of_row _ _ 1 _ _ HZX.out
          have z2 : w10.cell? ⟨w.heap.size, 2, none⟩ = some (.slice none 0 0) := cell_of_row _ _ 2 _ _ _ HZX.out
          have zf2 : w10.frozen? ⟨w.heap.size, 2, none⟩ = false := frozen_of_row _ _ 2 _ _ HZX.out
          have z3 : w10.cell? ⟨w.heap.size, 3, none⟩ = some (.slice none 0 0) := cell_of_row _ _ 3 _ _ _ HZX.out
          have zf3 : w10.frozen? ⟨w.heap.size, 3, none⟩ = false := frozen_of_row _ _ 3 _ _ HZX.out
          have HS := Lib.hid (set4_mac (w := w) (wP := w10.setCell ⟨w4.heap.size, 3, none⟩ (.slice av nv cv)) (blk_other HZX.out (by omega : w.heap.size ≠ w4.heap.size) 3 (.slice av nv cv)) (sMacro.setB (show sMacro.R w10 [.string nm, .bool fb, .slice a2 ps.length c2, .slice av nv cv] ⟨nm, fb, ps, (X ++ [(⟨[.int .i64 4, .string ⟨#[35]⟩, .bool false, .slice none 0 0], ⟨4, ⟨#[35]⟩, false, []⟩, []⟩ : Elem Tok)]).map (·.d)⟩ (fp2 ++ fpB) from ⟨_, _, fp2, fpB, rfl, HOK.out.1, HPX.out, HRB.out, rfl⟩) (fun hx => (List.mem_append.1 hx).elim (fun h => HX1.out (by simp [h])) (fun h => by have := HFB.out _ h; omega)) 3 (.slice av nv cv)) (fun hx => (List.mem_append.1 hx).elim (fun h => HX0.out (by simp [h])) (fun h => by have := HFB.out _ h; omega)) (rdSet HRX.out (by omega) 3 (.slice av nv cv)) (by omega) (keptSet HKX.out (by omega) (.slice av nv cv) 3) (Nat.le_refl _))
          have HOKF : Hid (okMac ⟨nm, fb, ps, (X ++ [(⟨[.int .i64 4, .string ⟨#[35]⟩, .bool false, .slice none 0 0], ⟨4, ⟨#[35]⟩, false, []⟩, []⟩ : Elem Tok)]).map (·.d)⟩) := ⟨by have := HOK.out.2.1; show nm.size ≤ 1000; omega, by have := HOK.out.2.2.1; show ps.length ≤ 100; omega, by rw [List.map_append, HX8.out]; simp; have := HOK.out.2.2.2.1; omega, fun t ht => by rw [List.map_append, HX8.out] at ht; exact (List.mem_append.1 ht).elim (fun h => by rw [HOK.out.2.2.2.2 t h]; simp) (fun h => by simp at h; rw [h]; decide)⟩
          have HLOF : Hid (∀ b ∈ fp2 ++ fpB, w.heap.size ≤ b) := fun b hb => (List.mem_append.1 hb).elim (fun h => by have := (HLO.out b (by simp [h])).1; omega) (fun h => by have := HFB.out _ h; omega)
          clear HLO))
      refine bodyPost_ret (results_cell_row rfl _ _ w.heap.size _ _ _ _ rfl HS.out.1 Try.underlying27 rfl (by kernel_rfl)) rfl ?_
      exact dm_ret HS.out.2.1 HOKF.out HLOF.out (by omega) HS.out.2.2.1 HS.out.2.2.2
    · -- case 5
      have hbl := alloc_below' w6 (.cells #[] 59)
      have hlit : Hid (RowE sTok w6.heap.size 59 (.slice (some ⟨w6.heap.size, 0, none⟩) 0 0) [] (w6.alloc (.cells #[] 59))) := RowE.lit [] (by simp) (by simp) (by simp) (by simp) (Nat.le_refl _) (by simp)
      have HMW := Lib.hid (mbox HM7.out hbl)
      have HZW := Lib.hid (mbox HZ7.out hbl)
      have HRW := Lib.hid (HR7.out.grow hbl)
      have HKW := Lib.hid (HK7.out.trans (Kept.of_below hbl))
      have HPW := Lib.hid ((sSlice sStr).below HP7.out hbl)
      have HBW := Lib.hid ((sSlice sTok).below HB7.out hbl)
      have y3 : (w6.alloc (.cells #[] 59)).cell? ⟨w4.heap.size, 3, none⟩ = some (.slice a3 bd.length c3) := cell_of_row _ _ 3 _ _ _ HMW.out
      have hws : (w6.alloc (.cells #[] 59)).heap.size = w6.heap.size + 1 := Array.size_push _
      have HWS := Lib.hid hws
      clear hbl hws
      have hq1' : q ≤ p + 9 := by omega
      go_wp2_with (first
        | (
          at_builtin
          refine wp_append_toksR rfl (.tmp 86) (.tmp 88) rfl w6.heap.size (.slice (some ⟨w6.heap.size, 0, none⟩) 0 0) (.slice a3 bd.length c3) [] bd fp3 rfl hlit.out rfl HBW.out HOK.out.2.2.2.2 (by have := HOK.out.2.2.2.1; simp; omega) (by rw [HWS.out]; omega) ?_
          intro v8 X w8 hX hXf hE hg
          have hown : ∀ b, (Value.slice (some ⟨w6.heap.size, 0, none⟩) 0 0).ownBlock = some b → w6.heap.size ≤ b := hlit.out.mine
          have hlt6 : w6.heap.size < (w6.alloc (.cells #[] 59)).heap.size := by rw [HWS.out]; omega
          have kb : ∀ b, b < w6.heap.size → w8.heap[b]? = ((w6.alloc (.cells #[] 59))).heap[b]? := fun b hb => hg.block b (by omega) (fun he => by have := hown b he.symm; omega)
          have HM8 := Lib.hid ((kb _ (by omega)).trans HMW.out)
          have HZ8 := Lib.hid ((kb _ (by omega)).trans HZW.out)
          have HR8 := Lib.hid (grownRd HRW.out hg (by omega : rb < w6.heap.size) (fun b hb => hown b hb))
          have HK8 := Lib.hid (grownKept HKW.out hg (fun b hb => by have := hown b hb; omega))
          have HP8 := Lib.hid ((sSlice sStr).frame (fun b hb => kb b (by have := (HLO.out b (by simp [hb])).2; omega)) HPW.out)
          have hs8 : w6.heap.size < w8.heap.size := Nat.lt_of_lt_of_le hlt6 hg.size
          rw [List.nil_append] at hE
          obtain ⟨a8, c8, hv8, -⟩ := hE.val
          obtain ⟨n8, hn8⟩ : ∃ n, n = X.length := ⟨_, rfl⟩
          rw [← hn8] at hv8
          subst hv8
          have hn8b : n8 ≤ 20 := by have e : X.length = bd.length := (by rw [← hX, List.length_map]); have := HOK.out.2.2.2.1; omega
          have HN8 := Lib.hid hn8
          have HX8 := Lib.hid hX
          have HE8 := Lib.hid hE
          have hbh := alloc_below' w8 (.cells #[.string ⟨#[97]⟩] 9)
          have hh : (w8.alloc (.cells #[.string ⟨#[97]⟩] 9)).ownsRow w8.heap.size 9 1 (.slice (some ⟨w8.heap.size, 0, none⟩) 1 1) 1 (([⟨#[97]⟩] : List ByteArray).map Value.string) := World.ownsRow_lit (base := w8.heap.size) (e := 9) (size := 1) w8 #[.string ⟨#[97]⟩] 1 (Nat.le_refl _) (by unfold maxLen; omega) rfl
          obtain ⟨fpH, RH, OH, hfpH⟩ := own_flat (ok := okStr) hh (by intro i hi; have e : i = 0 := (by simp at hi; omega); subst e; exact (show okStr (⟨#[97]⟩ : ByteArray) by unfold okStr; decide))
          have HTT : Hid (∀ b ∈ fpH, ∃ cur t fr, (w8.alloc (.cells #[.string ⟨#[97]⟩] 9)).heap[b]? = some (.cells cur t fr) ∧ t ≠ 59) := fun b hb => by
            have e := hfpH b hb
            simp only [Value.ownBlock, Option.some.injEq] at e
            subst e
            exact ⟨_, _, _, heap_alloc_new w8 _, by decide⟩
          have HLH : Hid (∀ b ∈ fpH, w6.heap.size ≤ b) := fun b hb => by have := (OH.2 b hb).1; omega
          have HRH : Hid (sTok.R (w8.alloc (.cells #[.string ⟨#[97]⟩] 9)) [.int .i64 1, .string ⟨#[97]⟩, .bool false, .slice (some ⟨w8.heap.size, 0, none⟩) 1 1] ⟨1, ⟨#[97]⟩, false, [⟨#[97]⟩]⟩ fpH) := ⟨_, rfl, ⟨by decide, by decide⟩, by show okStr _; unfold okStr; decide, RH⟩
          have HW9 : Hid ((w8.alloc (.cells #[.string ⟨#[97]⟩] 9)).heap.size = w8.heap.size + 1) := Array.size_push _
          have HM9 := Lib.hid (mbox HM8.out hbh)
          have HZ9 := Lib.hid (mbox HZ8.out hbh)
          have HR9 := Lib.hid (HR8.out.grow hbh)
          have HK9 := Lib.hid (HK8.out.trans (Kept.of_below hbh))
          have HP9 := Lib.hid ((sSlice sStr).below HP8.out hbh)
          have HE9 := Lib.hid (HE8.out.below hbh)
          clear hbh hh RH OH hfpH HM8 HZ8 HR8 HK8 HP8 HE8
          clear hE hg kb hown y3 hn8 hX hXf hlit)
        | (
          at_builtin
          refine wp_append_tokE rfl (.tmp 89) (.tmp 92) rfl w6.heap.size (.slice a8 n8 c8) X rfl HE9.out 1 ⟨#[97]⟩ false (some ⟨w8.heap.size, 0, none⟩) 1 1 [⟨#[97]⟩] fpH (by rw [HW9.out]; rfl) HRH.out HLH.out HTT.out (by rw [← HN8.out]; omega) (by rw [HW9.out]; omega) ?_
          intro v10 w10 hE10 hg10
          have hown := HE9.out.mine
          have kb : ∀ b, b < w6.heap.size → w10.heap[b]? = (w8.alloc (.cells #[.string ⟨#[97]⟩] 9)).heap[b]? := fun b hb => hg10.block b (by rw [HW9.out]; omega) (fun he => by have := hown b he.symm; omega)
          have HMX := Lib.hid ((kb _ (by omega)).trans HM9.out)
          have HZX := Lib.hid ((kb _ (by omega)).trans HZ9.out)
          have HRX := Lib.hid (grownRd HR9.out hg10 (by omega : rb < w6.heap.size) (fun b hb => hown b hb))
          have HKX := Lib.hid (grownKept HK9.out hg10 (fun b hb => by have := hown b hb; omega))
          have HPX := Lib.hid ((sSlice sStr).frame (fun b hb => kb b (by have := (HLO.out b (by simp [hb])).2; omega)) HP9.out)
          obtain ⟨fpB, hRB, hOB⟩ := hE10.read
          have HFB : Hid (∀ b ∈ fpB, w6.heap.size ≤ b) := hOB
          have HRB := Lib.hid hRB
          obtain ⟨av, cv, hv, -⟩ := hE10.val
          generalize (X ++ [(⟨[.int .i64 1, .string ⟨#[97]⟩, .bool false, .slice (some ⟨w8.heap.size, 0, none⟩) 1 1], ⟨1, ⟨#[97]⟩, false, [⟨#[97]⟩]⟩, fpH⟩ : Elem Tok)]).length = nv at hv
          subst hv
          clear hE10 hg10 kb hRB hOB hown
          have y0 : w10.cell? ⟨w4.heap.size, 0, none⟩ = some (.string nm) := cell_of_row _ _ 0 _ _ _ HMX.out
          have y1 : w10.cell? ⟨w4.heap.size, 1, none⟩ = some (.bool fb) := cell_of_row _ _ 1 _ _ _ HMX.out
          have y2 : w10.cell? ⟨w4.heap.size, 2, none⟩ = some (.slice a2 ps.length c2) := cell_of_row _ _ 2 _ _ _ HMX.out
          have y3 : w10.cell? ⟨w4.heap.size, 3, none⟩ = some (.slice a3 bd.length c3) := cell_of_row _ _ 3 _ _ _ HMX.out
          have yf : w10.frozen? ⟨w4.heap.size, 3, none⟩ = false := frozen_of_row _ _ 3 _ _ HMX.out
          have z0 : w10.cell? ⟨w.heap.size, 0, none⟩ = some (.string ⟨#[]⟩) := cell_of_row _ _ 0 _ _ _ HZX.out
          have zf0 : w10.frozen? ⟨w.heap.size, 0, none⟩ = false := frozen_of_row _ _ 0 _ _ HZX.out
          have z1 : w10.cell? ⟨w.heap.size, 1, none⟩ = some (.bool false) := cell_of_row _ _ 1 _ _ _ HZX.out
          have zf1 : w10.frozen? ⟨w.heap.size, 1, none⟩ = false := frozen_of_row _ _ 1 _ _ HZX.out
          have z2 : w10.cell? ⟨w.heap.size, 2, none⟩ = some (.slice none 0 0) := cell_of_row _ _ 2 _ _ _ HZX.out
          have zf2 : w10.frozen? ⟨w.heap.size, 2, none⟩ = false := frozen_of_row _ _ 2 _ _ HZX.out
          have z3 : w10.cell? ⟨w.heap.size, 3, none⟩ = some (.slice none 0 0) := cell_of_row _ _ 3 _ _ _ HZX.out
          have zf3 : w10.frozen? ⟨w.heap.size, 3, none⟩ = false := frozen_of_row _ _ 3 _ _ HZX.out
          have HS := Lib.hid (set4_mac (w := w) (wP := w10.setCell ⟨w4.heap.size, 3, none⟩ (.slice av nv cv)) (blk_other HZX.out (by omega : w.heap.size ≠ w4.heap.size) 3 (.slice av nv cv)) (sMacro.setB (show sMacro.R w10 [.string nm, .bool fb, .slice a2 ps.length c2, .slice av nv cv] ⟨nm, fb, ps, (X ++ [(⟨[.int .i64 1, .string ⟨#[97]⟩, .bool false, .slice (some ⟨w8.heap.size, 0, none⟩) 1 1], ⟨1, ⟨#[97]⟩, false, [⟨#[97]⟩]⟩, fpH⟩ : Elem Tok)]).map (·.d)⟩ (fp2 ++ fpB) from ⟨_, _, fp2, fpB, rfl, HOK.out.1, HPX.out, HRB.out, rfl⟩) (fun hx => (List.mem_append.1 hx).elim (fun h => HX1.out (by simp [h])) (fun h => by have := HFB.out _ h; omega)) 3 (.slice av nv cv)) (fun hx => (List.mem_append.1 hx).elim (fun h => HX0.out (by simp [h])) (fun h => by have := HFB.out _ h; omega)) (rdSet HRX.out (by omega) 3 (.slice av nv cv)) (by omega) (keptSet HKX.out (by omega) (.slice av nv cv) 3) (Nat.le_refl _))
          have HOKF : Hid (okMac ⟨nm, fb, ps, (X ++ [(⟨[.int .i64 1, .string ⟨#[97]⟩, .bool false, .slice (some ⟨w8.heap.size, 0, none⟩) 1 1], ⟨1, ⟨#[97]⟩, false, [⟨#[97]⟩]⟩, fpH⟩ : Elem Tok)]).map (·.d)⟩) := ⟨by have := HOK.out.2.1; show nm.size ≤ 1000; omega, by have := HOK.out.2.2.1; show ps.length ≤ 100; omega, by rw [List.map_append, HX8.out]; simp; have := HOK.out.2.2.2.1; omega, fun t ht => by rw [List.map_append, HX8.out] at ht; exact (List.mem_append.1 ht).elim (fun h => by rw [HOK.out.2.2.2.2 t h]; simp) (fun h => by simp at h; rw [h]; decide)⟩
          have HLOF : Hid (∀ b ∈ fp2 ++ fpB, w.heap.size ≤ b) := fun b hb => (List.mem_append.1 hb).elim (fun h => by have := (HLO.out b (by simp [h])).1; omega) (fun h => by have := HFB.out _ h; omega)
          clear HLO))
      refine bodyPost_ret (results_cell_row rfl _ _ w.heap.size _ _ _ _ rfl HS.out.1 Try.underlying27 rfl (by kernel_rfl)) rfl ?_
      exact dm_ret HS.out.2.1 HOKF.out HLOF.out (by omega) HS.out.2.2.1 HS.out.2.2.2
    · -- case 6
      have hbl := alloc_below' w6 (.cells #[.int .i64 1, .string ⟨#[97]⟩, .bool true, .slice none 0 0] 59)
      have hlit : RowE sTok w6.heap.size 59 (.slice (some ⟨w6.heap.size, 0, none⟩) 1 1) [(⟨[.int .i64 1, .string ⟨#[97]⟩, .bool true, .slice none 0 0], ⟨1, ⟨#[97]⟩, true, []⟩, []⟩ : Elem Tok)] (w6.alloc (.cells #[.int .i64 1, .string ⟨#[97]⟩, .bool true, .slice none 0 0] 59)) := RowE.lit [(⟨[.int .i64 1, .string ⟨#[97]⟩, .bool true, .slice none 0 0], ⟨1, ⟨#[97]⟩, true, []⟩, []⟩ : Elem Tok)] (by intro x hx; simp only [List.mem_cons, List.not_mem_nil, or_false] at hx; rcases hx with rfl <;> rfl) (by intro x hx; simp only [List.mem_cons, List.not_mem_nil, or_false] at hx; rcases hx with rfl <;> exact ⟨_, rfl, ⟨by decide, by decide⟩, by show okStr _; unfold okStr; decide, slice_empty sStr _ _ _ (by simp)⟩) (by intro x hx b hb; simp only [List.mem_cons, List.not_mem_nil, or_false] at hx; rcases hx with rfl <;> simp at hb) (by intro x hx b hb; simp only [List.mem_cons, List.not_mem_nil, or_false] at hx; rcases hx with rfl <;> simp at hb) (Nat.le_refl _) (by decide)
      obtain ⟨fpB, hRB, hOB⟩ := rowE_own hlit (by intro x hx; simp only [List.mem_cons, List.not_mem_nil, or_false] at hx; rcases hx with rfl <;> rfl)
      have HFB : Hid (∀ b ∈ fpB, w6.heap.size ≤ b) := fun b hb => (hOB.2 b hb).1
      have HRB := Lib.hid hRB
      have HMW := Lib.hid (mbox HM7.out hbl)
      have HZW := Lib.hid (mbox HZ7.out hbl)
      have HRW := Lib.hid (HR7.out.grow hbl)
      have HKW := Lib.hid (HK7.out.trans (Kept.of_below hbl))
      have HPW := Lib.hid ((sSlice sStr).below HP7.out hbl)
      clear hlit hRB hOB hbl
      have x0 : (w6.alloc (.cells #[.int .i64 1, .string ⟨#[97]⟩, .bool true, .slice none 0 0] 59)).cell? ⟨w4.heap.size, 0, none⟩ = some (.string nm) := cell_of_row _ _ 0 _ _ _ HMW.out
      have x1 : (w6.alloc (.cells #[.int .i64 1, .string ⟨#[97]⟩, .bool true, .slice none 0 0] 59)).cell? ⟨w4.heap.size, 1, none⟩ = some (.bool fb) := cell_of_row _ _ 1 _ _ _ HMW.out
      have x2 : (w6.alloc (.cells #[.int .i64 1, .string ⟨#[97]⟩, .bool true, .slice none 0 0] 59)).cell? ⟨w4.heap.size, 2, none⟩ = some (.slice a2 ps.length c2) := cell_of_row _ _ 2 _ _ _ HMW.out
      have x3 : (w6.alloc (.cells #[.int .i64 1, .string ⟨#[97]⟩, .bool true, .slice none 0 0] 59)).cell? ⟨w4.heap.size, 3, none⟩ = some (.slice a3 bd.length c3) := cell_of_row _ _ 3 _ _ _ HMW.out
      have xf : (w6.alloc (.cells #[.int .i64 1, .string ⟨#[97]⟩, .bool true, .slice none 0 0] 59)).frozen? ⟨w4.heap.size, 3, none⟩ = false := frozen_of_row _ _ 3 _ _ HMW.out
      have eW : (w6.alloc (.cells #[.int .i64 1, .string ⟨#[97]⟩, .bool true, .slice none 0 0] 59)).setCell ⟨w4.heap.size, 3, none⟩ (.slice (some ⟨w6.heap.size, 0, none⟩) 1 1) = ((w6.setCell ⟨w4.heap.size, 3, none⟩ (.slice (some ⟨w6.heap.size, 0, none⟩) 1 1)).alloc (.cells #[.int .i64 1, .string ⟨#[97]⟩, .bool true, .slice none 0 0] 59)) := World.setCell_alloc_past _ _ _ _ hs6
      have HMS := Lib.hid (eW ▸ blk_set HMW.out 3 (.slice (some ⟨w6.heap.size, 0, none⟩) 1 1))
      have HZS := Lib.hid (eW ▸ blk_other HZW.out (by omega : w.heap.size ≠ w4.heap.size) 3 (.slice (some ⟨w6.heap.size, 0, none⟩) 1 1))
      have HRS := Lib.hid (eW ▸ rdSet HRW.out (by omega : rb < w4.heap.size) 3 (.slice (some ⟨w6.heap.size, 0, none⟩) 1 1))
      have HKS := Lib.hid (eW ▸ keptSet HKW.out (by omega : w.heap.size ≤ w4.heap.size) (.slice (some ⟨w6.heap.size, 0, none⟩) 1 1) 3)
      have HPS := Lib.hid (eW ▸ (sSlice sStr).setB HPW.out (fun hx => HX1.out (by simp [hx])) 3 (.slice (some ⟨w6.heap.size, 0, none⟩) 1 1))
      have HBS := Lib.hid (eW ▸ (sSlice sTok).setB HRB.out (fun hx => by have := HFB.out _ hx; omega) 3 (.slice (some ⟨w6.heap.size, 0, none⟩) 1 1))
      clear eW HMW HZW HRW HKW HPW HRB
      have y0 : ((w6.setCell ⟨w4.heap.size, 3, none⟩ (.slice (some ⟨w6.heap.size, 0, none⟩) 1 1)).alloc (.cells #[.int .i64 1, .string ⟨#[97]⟩, .bool true, .slice none 0 0] 59)).cell? ⟨w4.heap.size, 0, none⟩ = some (.string nm) := cell_of_row _ _ 0 _ _ _ HMS.out
      have y1 : ((w6.setCell ⟨w4.heap.size, 3, none⟩ (.slice (some ⟨w6.heap.size, 0, none⟩) 1 1)).alloc (.cells #[.int .i64 1, .string ⟨#[97]⟩, .bool true, .slice none 0 0] 59)).cell? ⟨w4.heap.size, 1, none⟩ = some (.bool fb) := cell_of_row _ _ 1 _ _ _ HMS.out
      have y2 : ((w6.setCell ⟨w4.heap.size, 3, none⟩ (.slice (some ⟨w6.heap.size, 0, none⟩) 1 1)).alloc (.cells #[.int .i64 1, .string ⟨#[97]⟩, .bool true, .slice none 0 0] 59)).cell? ⟨w4.heap.size, 2, none⟩ = some (.slice a2 ps.length c2) := cell_of_row _ _ 2 _ _ _ HMS.out
      have y3 : ((w6.setCell ⟨w4.heap.size, 3, none⟩ (.slice (some ⟨w6.heap.size, 0, none⟩) 1 1)).alloc (.cells #[.int .i64 1, .string ⟨#[97]⟩, .bool true, .slice none 0 0] 59)).cell? ⟨w4.heap.size, 3, none⟩ = some (.slice (some ⟨w6.heap.size, 0, none⟩) 1 1) := cell_of_row _ _ 3 _ _ _ HMS.out
      have z0 : ((w6.setCell ⟨w4.heap.size, 3, none⟩ (.slice (some ⟨w6.heap.size, 0, none⟩) 1 1)).alloc (.cells #[.int .i64 1, .string ⟨#[97]⟩, .bool true, .slice none 0 0] 59)).cell? ⟨w.heap.size, 0, none⟩ = some (.string ⟨#[]⟩) := cell_of_row _ _ 0 _ _ _ HZS.out
      have zf0 : ((w6.setCell ⟨w4.heap.size, 3, none⟩ (.slice (some ⟨w6.heap.size, 0, none⟩) 1 1)).alloc (.cells #[.int .i64 1, .string ⟨#[97]⟩, .bool true, .slice none 0 0] 59)).frozen? ⟨w.heap.size, 0, none⟩ = false := frozen_of_row _ _ 0 _ _ HZS.out
      have z1 : ((w6.setCell ⟨w4.heap.size, 3, none⟩ (.slice (some ⟨w6.heap.size, 0, none⟩) 1 1)).alloc (.cells #[.int .i64 1, .string ⟨#[97]⟩, .bool true, .slice none 0 0] 59)).cell? ⟨w.heap.size, 1, none⟩ = some (.bool false) := cell_of_row _ _ 1 _ _ _ HZS.out
      have zf1 : ((w6.setCell ⟨w4.heap.size, 3, none⟩ (.slice (some ⟨w6.heap.size, 0, none⟩) 1 1)).alloc (.cells #[.int .i64 1, .string ⟨#[97]⟩, .bool true, .slice none 0 0] 59)).frozen? ⟨w.heap.size, 1, none⟩ = false := frozen_of_row _ _ 1 _ _ HZS.out
      have z2 : ((w6.setCell ⟨w4.heap.size, 3, none⟩ (.slice (some ⟨w6.heap.size, 0, none⟩) 1 1)).alloc (.cells #[.int .i64 1, .string ⟨#[97]⟩, .bool true, .slice none 0 0] 59)).cell? ⟨w.heap.size, 2, none⟩ = some (.slice none 0 0) := cell_of_row _ _ 2 _ _ _ HZS.out
      have zf2 : ((w6.setCell ⟨w4.heap.size, 3, none⟩ (.slice (some ⟨w6.heap.size, 0, none⟩) 1 1)).alloc (.cells #[.int .i64 1, .string ⟨#[97]⟩, .bool true, .slice none 0 0] 59)).frozen? ⟨w.heap.size, 2, none⟩ = false := frozen_of_row _ _ 2 _ _ HZS.out
      have z3 : ((w6.setCell ⟨w4.heap.size, 3, none⟩ (.slice (some ⟨w6.heap.size, 0, none⟩) 1 1)).alloc (.cells #[.int .i64 1, .string ⟨#[97]⟩, .bool true, .slice none 0 0] 59)).cell? ⟨w.heap.size, 3, none⟩ = some (.slice none 0 0) := cell_of_row _ _ 3 _ _ _ HZS.out
      have zf3 : ((w6.setCell ⟨w4.heap.size, 3, none⟩ (.slice (some ⟨w6.heap.size, 0, none⟩) 1 1)).alloc (.cells #[.int .i64 1, .string ⟨#[97]⟩, .bool true, .slice none 0 0] 59)).frozen? ⟨w.heap.size, 3, none⟩ = false := frozen_of_row _ _ 3 _ _ HZS.out
      have HS := Lib.hid (set4_mac (w := w) (wP := ((w6.setCell ⟨w4.heap.size, 3, none⟩ (.slice (some ⟨w6.heap.size, 0, none⟩) 1 1)).alloc (.cells #[.int .i64 1, .string ⟨#[97]⟩, .bool true, .slice none 0 0] 59))) HZS.out (show sMacro.R ((w6.setCell ⟨w4.heap.size, 3, none⟩ (.slice (some ⟨w6.heap.size, 0, none⟩) 1 1)).alloc (.cells #[.int .i64 1, .string ⟨#[97]⟩, .bool true, .slice none 0 0] 59)) [.string nm, .bool fb, .slice a2 ps.length c2, .slice (some ⟨w6.heap.size, 0, none⟩) 1 1] ⟨nm, fb, ps, ([(⟨[.int .i64 1, .string ⟨#[97]⟩, .bool true, .slice none 0 0], ⟨1, ⟨#[97]⟩, true, []⟩, []⟩ : Elem Tok)]).map (·.d)⟩ (fp2 ++ fpB) from ⟨_, _, fp2, fpB, rfl, HOK.out.1, HPS.out, HBS.out, rfl⟩) (fun hx => (List.mem_append.1 hx).elim (fun h => HX0.out (by simp [h])) (fun h => by have := HFB.out _ h; omega)) HRS.out (by omega) HKS.out (Nat.le_refl _))
      have HOKF : Hid (okMac ⟨nm, fb, ps, ([(⟨[.int .i64 1, .string ⟨#[97]⟩, .bool true, .slice none 0 0], ⟨1, ⟨#[97]⟩, true, []⟩, []⟩ : Elem Tok)]).map (·.d)⟩) := ⟨by have := HOK.out.2.1; show nm.size ≤ 1000; omega, by have := HOK.out.2.2.1; show ps.length ≤ 100; omega, by show (1 : Nat) ≤ 100; omega, fun t ht => by simp only [List.map_cons, List.map_nil, List.mem_cons, List.not_mem_nil, or_false] at ht; rcases ht with rfl <;> decide⟩
      have HLOF : Hid (∀ b ∈ fp2 ++ fpB, w.heap.size ≤ b) := fun b hb => (List.mem_append.1 hb).elim (fun h => by have := (HLO.out b (by simp [h])).1; omega) (fun h => by have := HFB.out _ h; omega)
      clear HLO
      go_wp2
      refine bodyPost_ret (results_cell_row rfl _ _ w.heap.size _ _ _ _ rfl HS.out.1 Try.underlying27 rfl (by kernel_rfl)) rfl ?_
      exact dm_ret HS.out.2.1 HOKF.out HLOF.out (by omega) HS.out.2.2.1 HS.out.2.2.2
    · -- case 7
      have hbl := alloc_below' w6 (.cells #[.int .i64 1, .string ⟨#[97]⟩, .bool false, .slice none 0 0, .int .i64 4, .string ⟨#[35, 35]⟩, .bool false, .slice none 0 0, .int .i64 4, .string ⟨#[35, 35]⟩, .bool false, .slice none 0 0, .int .i64 1, .string ⟨#[98]⟩, .bool false, .slice none 0 0] 59)
      have hlit : RowE sTok w6.heap.size 59 (.slice (some ⟨w6.heap.size, 0, none⟩) 4 4) [(⟨[.int .i64 1, .string ⟨#[97]⟩, .bool false, .slice none 0 0], ⟨1, ⟨#[97]⟩, false, []⟩, []⟩ : Elem Tok), (⟨[.int .i64 4, .string ⟨#[35, 35]⟩, .bool false, .slice none 0 0], ⟨4, ⟨#[35, 35]⟩, false, []⟩, []⟩ : Elem Tok), (⟨[.int .i64 4, .string ⟨#[35, 35]⟩, .bool false, .slice none 0 0], ⟨4, ⟨#[35, 35]⟩, false, []⟩, []⟩ : Elem Tok), (⟨[.int .i64 1, .string ⟨#[98]⟩, .bool false, .slice none 0 0], ⟨1, ⟨#[98]⟩, false, []⟩, []⟩ : Elem Tok)] (w6.alloc (.cells #[.int .i64 1, .string ⟨#[97]⟩, .bool false, .slice none 0 0, .int .i64 4, .string ⟨#[35, 35]⟩, .bool false, .slice none 0 0, .int .i64 4, .string ⟨#[35, 35]⟩, .bool false, .slice none 0 0, .int .i64 1, .string ⟨#[98]⟩, .bool false, .slice none 0 0] 59)) := RowE.lit [(⟨[.int .i64 1, .string ⟨#[97]⟩, .bool false, .slice none 0 0], ⟨1, ⟨#[97]⟩, false, []⟩, []⟩ : Elem Tok), (⟨[.int .i64 4, .string ⟨#[35, 35]⟩, .bool false, .slice none 0 0], ⟨4, ⟨#[35, 35]⟩, false, []⟩, []⟩ : Elem Tok), (⟨[.int .i64 4, .string ⟨#[35, 35]⟩, .bool false, .slice none 0 0], ⟨4, ⟨#[35, 35]⟩, false, []⟩, []⟩ : Elem Tok), (⟨[.int .i64 1, .string ⟨#[98]⟩, .bool false, .slice none 0 0], ⟨1, ⟨#[98]⟩, false, []⟩, []⟩ : Elem Tok)] (by intro x hx; simp only [List.mem_cons, List.not_mem_nil, or_false] at hx; rcases hx with rfl | rfl | rfl | rfl <;> rfl) (by intro x hx; simp only [List.mem_cons, List.not_mem_nil, or_false] at hx; rcases hx with rfl | rfl | rfl | rfl <;> exact ⟨_, rfl, ⟨by decide, by decide⟩, by show okStr _; unfold okStr; decide, slice_empty sStr _ _ _ (by simp)⟩) (by intro x hx b hb; simp only [List.mem_cons, List.not_mem_nil, or_false] at hx; rcases hx with rfl | rfl | rfl | rfl <;> simp at hb) (by intro x hx b hb; simp only [List.mem_cons, List.not_mem_nil, or_false] at hx; rcases hx with rfl | rfl | rfl | rfl <;> simp at hb) (Nat.le_refl _) (by decide)
      obtain ⟨fpB, hRB, hOB⟩ := rowE_own hlit (by intro x hx; simp only [List.mem_cons, List.not_mem_nil, or_false] at hx; rcases hx with rfl | rfl | rfl | rfl <;> rfl)
      have HFB : Hid (∀ b ∈ fpB, w6.heap.size ≤ b) := fun b hb => (hOB.2 b hb).1
      have HRB := Lib.hid hRB
      have HMW := Lib.hid (mbox HM7.out hbl)
      have HZW := Lib.hid (mbox HZ7.out hbl)
      have HRW := Lib.hid (HR7.out.grow hbl)
      have HKW := Lib.hid (HK7.out.trans (Kept.of_below hbl))
      have HPW := Lib.hid ((sSlice sStr).below HP7.out hbl)
      clear hlit hRB hOB hbl
      have x0 : (w6.alloc (.cells #[.int .i64 1, .string ⟨#[97]⟩, .bool false, .slice none 0 0, .int .i64 4, .string ⟨#[35, 35]⟩, .bool false, .slice none 0 0, .int .i64 4, .string ⟨#[35, 35]⟩, .bool false, .slice none 0 0, .int .i64 1, .string ⟨#[98]⟩, .bool false, .slice none 0 0] 59)).cell? ⟨w4.heap.size, 0, none⟩ = some (.string nm) := cell_of_row _ _ 0 _ _ _ HMW.out
      have x1 : (w6.alloc (.cells #[.int .i64 1, .string ⟨#[97]⟩, .bool false, .slice none 0 0, .int .i64 4, .string ⟨#[35, 35]⟩, .bool false, .slice none 0 0, .int .i64 4, .string ⟨#[35, 35]⟩, .bool false, .slice none 0 0, .int .i64 1, .string ⟨#[98]⟩, .bool false, .slice none 0 0] 59)).cell? ⟨w4.heap.size, 1, none⟩ = some (.bool fb) := cell_of_row _ _ 1 _ _ _ HMW.out
      have x2 : (w6.alloc (.cells #[.int .i64 1, .string ⟨#[97]⟩, .bool false, .slice none 0 0, .int .i64 4, .string ⟨#[35, 35]⟩, .bool false, .slice none 0 0, .int .i64 4, .string ⟨#[35, 35]⟩, .bool false, .slice none 0 0, .int .i64 1, .string ⟨#[98]⟩, .bool false, .slice none 0 0] 59)).cell? ⟨w4.heap.size, 2, none⟩ = some (.slice a2 ps.length c2) := cell_of_row _ _ 2 _ _ _ HMW.out
      have x3 : (w6.alloc (.cells #[.int .i64 1, .string ⟨#[97]⟩, .bool false, .slice none 0 0, .int .i64 4, .string ⟨#[35, 35]⟩, .bool false, .slice none 0 0, .int .i64 4, .string ⟨#[35, 35]⟩, .bool false, .slice none 0 0, .int .i64 1, .string ⟨#[98]⟩, .bool false, .slice none 0 0] 59)).cell? ⟨w4.heap.size, 3, none⟩ = some (.slice a3 bd.length c3) := cell_of_row _ _ 3 _ _ _ HMW.out
      have xf : (w6.alloc (.cells #[.int .i64 1, .string ⟨#[97]⟩, .bool false, .slice none 0 0, .int .i64 4, .string ⟨#[35, 35]⟩, .bool false, .slice none 0 0, .int .i64 4, .string ⟨#[35, 35]⟩, .bool false, .slice none 0 0, .int .i64 1, .string ⟨#[98]⟩, .bool false, .slice none 0 0] 59)).frozen? ⟨w4.heap.size, 3, none⟩ = false := frozen_of_row _ _ 3 _ _ HMW.out
      have eW : (w6.alloc (.cells #[.int .i64 1, .string ⟨#[97]⟩, .bool false, .slice none 0 0, .int .i64 4, .string ⟨#[35, 35]⟩, .bool false, .slice none 0 0, .int .i64 4, .string ⟨#[35, 35]⟩, .bool false, .slice none 0 0, .int .i64 1, .string ⟨#[98]⟩, .bool false, .slice none 0 0] 59)).setCell ⟨w4.heap.size, 3, none⟩ (.slice (some ⟨w6.heap.size, 0, none⟩) 4 4) = ((w6.setCell ⟨w4.heap.size, 3, none⟩ (.slice (some ⟨w6.heap.size, 0, none⟩) 4 4)).alloc (.cells #[.int .i64 1, .string ⟨#[97]⟩, .bool false, .slice none 0 0, .int .i64 4, .string ⟨#[35, 35]⟩, .bool false, .slice none 0 0, .int .i64 4, .string ⟨#[35, 35]⟩, .bool false, .slice none 0 0, .int .i64 1, .string ⟨#[98]⟩, .bool false, .slice none 0 0] 59)) := World.setCell_alloc_past _ _ _ _ hs6
      have HMS := Lib.hid (eW ▸ blk_set HMW.out 3 (.slice (some ⟨w6.heap.size, 0, none⟩) 4 4))
      have HZS := Lib.hid (eW ▸ blk_other HZW.out (by omega : w.heap.size ≠ w4.heap.size) 3 (.slice (some ⟨w6.heap.size, 0, none⟩) 4 4))
      have HRS := Lib.hid (eW ▸ rdSet HRW.out (by omega : rb < w4.heap.size) 3 (.slice (some ⟨w6.heap.size, 0, none⟩) 4 4))
      have HKS := Lib.hid (eW ▸ keptSet HKW.out (by omega : w.heap.size ≤ w4.heap.size) (.slice (some ⟨w6.heap.size, 0, none⟩) 4 4) 3)
      have HPS := Lib.hid (eW ▸ (sSlice sStr).setB HPW.out (fun hx => HX1.out (by simp [hx])) 3 (.slice (some ⟨w6.heap.size, 0, none⟩) 4 4))
      have HBS := Lib.hid (eW ▸ (sSlice sTok).setB HRB.out (fun hx => by have := HFB.out _ hx; omega) 3 (.slice (some ⟨w6.heap.size, 0, none⟩) 4 4))
      clear eW HMW HZW HRW HKW HPW HRB
      have y0 : ((w6.setCell ⟨w4.heap.size, 3, none⟩ (.slice (some ⟨w6.heap.size, 0, none⟩) 4 4)).alloc (.cells #[.int .i64 1, .string ⟨#[97]⟩, .bool false, .slice none 0 0, .int .i64 4, .string ⟨#[35, 35]⟩, .bool false, .slice none 0 0, .int .i64 4, .string ⟨#[35, 35]⟩, .bool false, .slice none 0 0, .int .i64 1, .string ⟨#[98]⟩, .bool false, .slice none 0 0] 59)).cell? ⟨w4.heap.size, 0, none⟩ = some (.string nm) := cell_of_row _ _ 0 _ _ _ HMS.out
      have y1 : ((w6.setCell ⟨w4.heap.size, 3, none⟩ (.slice (some ⟨w6.heap.size, 0, none⟩) 4 4)).alloc (.cells #[.int .i64 1, .string ⟨#[97]⟩, .bool false, .slice none 0 0, .int .i64 4, .string ⟨#[35, 35]⟩, .bool false, .slice none 0 0, .int .i64 4, .string ⟨#[35, 35]⟩, .bool false, .slice none 0 0, .int .i64 1, .string ⟨#[98]⟩, .bool false, .slice none 0 0] 59)).cell? ⟨w4.heap.size, 1, none⟩ = some (.bool fb) := cell_of_row _ _ 1 _ _ _ HMS.out
      have y2 : ((w6.setCell ⟨w4.heap.size, 3, none⟩ (.slice (some ⟨w6.heap.size, 0, none⟩) 4 4)).alloc (.cells #[.int .i64 1, .string ⟨#[97]⟩, .bool false, .slice none 0 0, .int .i64 4, .string ⟨#[35, 35]⟩, .bool false, .slice none 0 0, .int .i64 4, .string ⟨#[35, 35]⟩, .bool false, .slice none 0 0, .int .i64 1, .string ⟨#[98]⟩, .bool false, .slice none 0 0] 59)).cell? ⟨w4.heap.size, 2, none⟩ = some (.slice a2 ps.length c2) := cell_of_row _ _ 2 _ _ _ HMS.out
      have y3 : ((w6.setCell ⟨w4.heap.size, 3, none⟩ (.slice (some ⟨w6.heap.size, 0, none⟩) 4 4)).alloc (.cells #[.int .i64 1, .string ⟨#[97]⟩, .bool false, .slice none 0 0, .int .i64 4, .string ⟨#[35, 35]⟩, .bool false, .slice none 0 0, .int .i64 4, .string ⟨#[35, 35]⟩, .bool false, .slice none 0 0, .int .i64 1, .string ⟨#[98]⟩, .bool false, .slice none 0 0] 59)).cell? ⟨w4.heap.size, 3, none⟩ = some (.slice (some ⟨w6.heap.size, 0, none⟩) 4 4) := cell_of_row _ _ 3 _ _ _ HMS.out
      have z0 : ((w6.setCell ⟨w4.heap.size, 3, none⟩ (.slice (some ⟨w6.heap.size, 0, none⟩) 4 4)).alloc (.cells #[.int .i64 1, .string ⟨#[97]⟩, .bool false, .slice none 0 0, .int .i64 4, .string ⟨#[35, 35]⟩, .bool false, .slice none 0 0, .int .i64 4, .string ⟨#[35, 35]⟩, .bool false, .slice none 0 0, .int .i64 1, .string ⟨#[98]⟩, .bool false, .slice none 0 0] 59)).cell? ⟨w.heap.size, 0, none⟩ = some (.string ⟨#[]⟩) := cell_of_row _ _ 0 _ _ _ HZS.out
      have zf0 : ((w6.setCell ⟨w4.heap.size, 3, none⟩ (.slice (some ⟨w6.heap.size, 0, none⟩) 4 4)).alloc (.cells #[.int .i64 1, .string ⟨#[97]⟩, .bool false, .slice none 0 0, .int .i64 4, .string ⟨#[35, 35]⟩, .bool false, .slice none 0 0, .int .i64 4, .string ⟨#[35, 35]⟩, .bool false, .slice none 0 0, .int .i64 1, .string ⟨#[98]⟩, .bool false, .slice none 0 0] 59)).frozen? ⟨w.heap.size, 0, none⟩ = false := frozen_of_row _ _ 0 _ _ HZS.out
      have z1 : ((w6.setCell ⟨w4.heap.size, 3, none⟩ (.slice (some ⟨w6.heap.size, 0, none⟩) 4 4)).alloc (.cells #[.int .i64 1, .string ⟨#[97]⟩, .bool false, .slice none 0 0, .int .i64 4, .string ⟨#[35, 35]⟩, .bool false, .slice none 0 0, .int .i64 4, .string ⟨#[35, 35]⟩, .bool false, .slice none 0 0, .int .i64 1, .string ⟨#[98]⟩, .bool false, .slice none 0 0] 59)).cell? ⟨w.heap.size, 1, none⟩ = some (.bool false) := cell_of_row _ _ 1 _ _ _ HZS.out
      have zf1 : ((w6.setCell ⟨w4.heap.size, 3, none⟩ (.slice (some ⟨w6.heap.size, 0, none⟩) 4 4)).alloc (.cells #[.int .i64 1, .string ⟨#[97]⟩, .bool false, .slice none 0 0, .int .i64 4, .string ⟨#[35, 35]⟩, .bool false, .slice none 0 0, .int .i64 4, .string ⟨#[35, 35]⟩, .bool false, .slice none 0 0, .int .i64 1, .string ⟨#[98]⟩, .bool false, .slice none 0 0] 59)).frozen? ⟨w.heap.size, 1, none⟩ = false := frozen_of_row _ _ 1 _ _ HZS.out
      have z2 : ((w6.setCell ⟨w4.heap.size, 3, none⟩ (.slice (some ⟨w6.heap.size, 0, none⟩) 4 4)).alloc (.cells #[.int .i64 1, .string ⟨#[97]⟩, .bool false, .slice none 0 0, .int .i64 4, .string ⟨#[35, 35]⟩, .bool false, .slice none 0 0, .int .i64 4, .string ⟨#[35, 35]⟩, .bool false, .slice none 0 0, .int .i64 1, .string ⟨#[98]⟩, .bool false, .slice none 0 0] 59)).cell? ⟨w.heap.size, 2, none⟩ = some (.slice none 0 0) := cell_of_row _ _ 2 _ _ _ HZS.out
      have zf2 : ((w6.setCell ⟨w4.heap.size, 3, none⟩ (.slice (some ⟨w6.heap.size, 0, none⟩) 4 4)).alloc (.cells #[.int .i64 1, .string ⟨#[97]⟩, .bool false, .slice none 0 0, .int .i64 4, .string ⟨#[35, 35]⟩, .bool false, .slice none 0 0, .int .i64 4, .string ⟨#[35, 35]⟩, .bool false, .slice none 0 0, .int .i64 1, .string ⟨#[98]⟩, .bool false, .slice none 0 0] 59)).frozen? ⟨w.heap.size, 2, none⟩ = false := frozen_of_row _ _ 2 _ _ HZS.out
      have z3 : ((w6.setCell ⟨w4.heap.size, 3, none⟩ (.slice (some ⟨w6.heap.size, 0, none⟩) 4 4)).alloc (.cells #[.int .i64 1, .string ⟨#[97]⟩, .bool false, .slice none 0 0, .int .i64 4, .string ⟨#[35, 35]⟩, .bool false, .slice none 0 0, .int .i64 4, .string ⟨#[35, 35]⟩, .bool false, .slice none 0 0, .int .i64 1, .string ⟨#[98]⟩, .bool false, .slice none 0 0] 59)).cell? ⟨w.heap.size, 3, none⟩ = some (.slice none 0 0) := cell_of_row _ _ 3 _ _ _ HZS.out
      have zf3 : ((w6.setCell ⟨w4.heap.size, 3, none⟩ (.slice (some ⟨w6.heap.size, 0, none⟩) 4 4)).alloc (.cells #[.int .i64 1, .string ⟨#[97]⟩, .bool false, .slice none 0 0, .int .i64 4, .string ⟨#[35, 35]⟩, .bool false, .slice none 0 0, .int .i64 4, .string ⟨#[35, 35]⟩, .bool false, .slice none 0 0, .int .i64 1, .string ⟨#[98]⟩, .bool false, .slice none 0 0] 59)).frozen? ⟨w.heap.size, 3, none⟩ = false := frozen_of_row _ _ 3 _ _ HZS.out
      have HS := Lib.hid (set4_mac (w := w) (wP := ((w6.setCell ⟨w4.heap.size, 3, none⟩ (.slice (some ⟨w6.heap.size, 0, none⟩) 4 4)).alloc (.cells #[.int .i64 1, .string ⟨#[97]⟩, .bool false, .slice none 0 0, .int .i64 4, .string ⟨#[35, 35]⟩, .bool false, .slice none 0 0, .int .i64 4, .string ⟨#[35, 35]⟩, .bool false, .slice none 0 0, .int .i64 1, .string ⟨#[98]⟩, .bool false, .slice none 0 0] 59))) HZS.out (show sMacro.R ((w6.setCell ⟨w4.heap.size, 3, none⟩ (.slice (some ⟨w6.heap.size, 0, none⟩) 4 4)).alloc (.cells #[.int .i64 1, .string ⟨#[97]⟩, .bool false, .slice none 0 0, .int .i64 4, .string ⟨#[35, 35]⟩, .bool false, .slice none 0 0, .int .i64 4, .string ⟨#[35, 35]⟩, .bool false, .slice none 0 0, .int .i64 1, .string ⟨#[98]⟩, .bool false, .slice none 0 0] 59)) [.string nm, .bool fb, .slice a2 ps.length c2, .slice (some ⟨w6.heap.size, 0, none⟩) 4 4] ⟨nm, fb, ps, ([(⟨[.int .i64 1, .string ⟨#[97]⟩, .bool false, .slice none 0 0], ⟨1, ⟨#[97]⟩, false, []⟩, []⟩ : Elem Tok), (⟨[.int .i64 4, .string ⟨#[35, 35]⟩, .bool false, .slice none 0 0], ⟨4, ⟨#[35, 35]⟩, false, []⟩, []⟩ : Elem Tok), (⟨[.int .i64 4, .string ⟨#[35, 35]⟩, .bool false, .slice none 0 0], ⟨4, ⟨#[35, 35]⟩, false, []⟩, []⟩ : Elem Tok), (⟨[.int .i64 1, .string ⟨#[98]⟩, .bool false, .slice none 0 0], ⟨1, ⟨#[98]⟩, false, []⟩, []⟩ : Elem Tok)]).map (·.d)⟩ (fp2 ++ fpB) from ⟨_, _, fp2, fpB, rfl, HOK.out.1, HPS.out, HBS.out, rfl⟩) (fun hx => (List.mem_append.1 hx).elim (fun h => HX0.out (by simp [h])) (fun h => by have := HFB.out _ h; omega)) HRS.out (by omega) HKS.out (Nat.le_refl _))
      have HOKF : Hid (okMac ⟨nm, fb, ps, ([(⟨[.int .i64 1, .string ⟨#[97]⟩, .bool false, .slice none 0 0], ⟨1, ⟨#[97]⟩, false, []⟩, []⟩ : Elem Tok), (⟨[.int .i64 4, .string ⟨#[35, 35]⟩, .bool false, .slice none 0 0], ⟨4, ⟨#[35, 35]⟩, false, []⟩, []⟩ : Elem Tok), (⟨[.int .i64 4, .string ⟨#[35, 35]⟩, .bool false, .slice none 0 0], ⟨4, ⟨#[35, 35]⟩, false, []⟩, []⟩ : Elem Tok), (⟨[.int .i64 1, .string ⟨#[98]⟩, .bool false, .slice none 0 0], ⟨1, ⟨#[98]⟩, false, []⟩, []⟩ : Elem Tok)]).map (·.d)⟩) := ⟨by have := HOK.out.2.1; show nm.size ≤ 1000; omega, by have := HOK.out.2.2.1; show ps.length ≤ 100; omega, by show (4 : Nat) ≤ 100; omega, fun t ht => by simp only [List.map_cons, List.map_nil, List.mem_cons, List.not_mem_nil, or_false] at ht; rcases ht with rfl | rfl | rfl | rfl <;> decide⟩
      have HLOF : Hid (∀ b ∈ fp2 ++ fpB, w.heap.size ≤ b) := fun b hb => (List.mem_append.1 hb).elim (fun h => by have := (HLO.out b (by simp [h])).1; omega) (fun h => by have := HFB.out _ h; omega)
      clear HLO
      go_wp2
      refine bodyPost_ret (results_cell_row rfl _ _ w.heap.size _ _ _ _ rfl HS.out.1 Try.underlying27 rfl (by kernel_rfl)) rfl ?_
      exact dm_ret HS.out.2.1 HOKF.out HLOF.out (by omega) HS.out.2.2.1 HS.out.2.2.2

end Go.Proofs.Ytdnjpjiepnhhhaa

/- Rows of the call's own whose elements may read memory of others, too: the elements' blocks lie before the row's. Over any program. -/
namespace Go.Proofs.Ytdnjpjiepnhhhaa
open Go.RowKit

structure RowG {α : Type} (S : Shape α) (base : Nat) (e : TypeId) (v : Value) (L : List (Elem α)) (w : World) : Prop where
  row : w.ownsRow base e S.m v L.length (L.flatMap (·.cells))
  len : ∀ x ∈ L, x.cells.length = S.m
  el : ∀ x ∈ L, S.R w x.cells x.d x.fp
  hi : ∀ x ∈ L, ∀ b ∈ x.fp, b < base

section
variable {α : Type} {S : Shape α} {base : Nat} {e : TypeId} {v v' : Value} {L : List (Elem α)} {w w' : World}
theorem RowG.nil (S : Shape α) (base : Nat) (e : TypeId) (w : World) : RowG S base e (.slice none 0 0) [] w := ⟨World.ownsRow_nil _ _ _ _, by simp, by simp, by simp⟩
theorem RowG.ap (h : RowG S base e v L w) : ∀ x ∈ L, ∀ b ∈ x.fp, v.ownBlock ≠ some b := fun x hx b hb hv => by
  have h1 := h.hi x hx b hb
  have h2 := (h.row.lt b hv).1
  omega
/-- An empty literal's row. -/
theorem RowG.lit0 (S : Shape α) (e : TypeId) (w : World) : RowG S w.heap.size e (.slice (some ⟨w.heap.size, 0, none⟩) 0 0) [] (w.alloc (.cells #[] e)) where
  row := World.ownsRow_lit (base := w.heap.size) (e := e) (size := S.m) w #[] 0 (Nat.le_refl _) (by unfold maxLen; omega) (by simp)
  len := by simp
  el := by simp
  hi := by simp
theorem RowG.same (h : RowG S base e v L w) (hv : ∀ g, v.ownBlock = some g → w'.heap[g]? = w.heap[g]?) (hb : ∀ x ∈ L, ∀ b ∈ x.fp, w'.heap[b]? = w.heap[b]?) : RowG S base e v L w' where
  row := ownsRow_same h.row hv
  len := h.len
  el := fun x hx => S.frame (fun b hb' => hb x hx b hb') (h.el x hx)
  hi := h.hi
theorem RowG.below (h : RowG S base e v L w) (hb : Below w.heap.size w w') : RowG S base e v L w' :=
  h.same (fun g hg => hb.block g (h.row.lt g hg).2) (fun x hx b hb' => hb.block b (S.lt (h.el x hx) b hb'))
theorem RowG.kept {K : List Nat} (h : RowG S base e v L w) (hk : Kept K w w') (hv : ∀ g, v.ownBlock = some g → g ∉ K) (hb : ∀ x ∈ L, ∀ b ∈ x.fp, b ∉ K) : RowG S base e v L w' :=
  h.same (fun g hg => hk.block g (h.row.lt g hg).2 (hv g hg)) (fun x hx b hb' => hk.block b (S.lt (h.el x hx) b hb') (hb x hx b hb'))
theorem RowG.val (h : RowG S base e v L w) : ∃ a cap, v = .slice a L.length cap ∧ L.length ≤ cap ∧ cap ≤ maxLen ∧ (0 < L.length → ∃ g, a = some ⟨g, 0, none⟩ ∧ base ≤ g ∧ g < w.heap.size) := by
  rcases h.row.2 with ⟨rfl, h0⟩ | ⟨g, cap, cur, rfl, hb, hg, hn, hc, _⟩
  · exact ⟨none, 0, by rw [h0], by omega, by simp, fun h => by omega⟩
  · exact ⟨_, cap, rfl, hn, hc, fun _ => ⟨g, rfl, hb, (Array.getElem?_eq_some_iff.1 hg).1⟩⟩
theorem RowG.mine (h : RowG S base e v L w) : ∀ b, v.ownBlock = some b → base ≤ b := fun b hb => (h.row.lt b hb).1
theorem RowG.read (h : RowG S base e v L w) : ∃ fp, (sSlice S).R w [v] (L.map (·.d)) fp ∧ (∀ b ∈ fp, v.ownBlock = some b ∨ ∃ x ∈ L, b ∈ x.fp) ∧ (Own w base (L.flatMap (·.fp)) → Own w base fp) := by
  obtain ⟨fp, h1, h2, h3⟩ := slice_of_row h.row fun x hx => ⟨h.len x hx, h.el x hx⟩
  refine ⟨fp, h1, fun b hb => ?_, fun ho => h3 ho fun g hg hm => ?_⟩
  · rcases h2 b hb with h | h
    · exact .inl h
    · obtain ⟨x, hx, hb'⟩ := List.mem_flatMap.1 h
      exact .inr ⟨x, hx, hb'⟩
  · obtain ⟨x, hx, hb'⟩ := List.mem_flatMap.1 hm
    exact h.ap x hx g hb' hg
theorem RowG.len_eq {g n cap : Nat} (h : RowG S base e (.slice (some ⟨g, 0, none⟩) n cap) L w) : L.length = n := by
  rcases h.row.2 with ⟨h', _⟩ | ⟨g', cap', cur, h', _⟩
  · cases h'
  · simp only [Value.slice.injEq] at h'; exact h'.2.1.symm
theorem RowG.frozen {g n cap : Nat} (h : RowG S base e (.slice (some ⟨g, 0, none⟩) n cap) L w) (o : Nat) : w.frozen? ⟨g, o, none⟩ = false := by
  rcases h.row.2 with ⟨h', _⟩ | ⟨g', cap', cur, h', _, hg, _⟩
  · cases h'
  · simp only [Value.slice.injEq, Option.some.injEq, Addr.mk.injEq, and_true] at h'
    obtain ⟨rfl, _⟩ := h'
    exact frozen_of_row w g o cur e hg
/-- An element's cells. -/
theorem RowG.cellAt {g n cap : Nat} (h : RowG S base e (.slice (some ⟨g, 0, none⟩) n cap) L w) {k : Nat} (hk : k < L.length) {j : Nat} (hj : j < S.m) {u : Value} (hu : L[k].cells[j]? = some u) : w.cell? ⟨g, k * S.m + j, none⟩ = some u := by
  have hn : L.length = n := h.len_eq
  subst hn
  rw [h.row.cellAt (k * S.m + j) (by have : (k + 1) * S.m ≤ L.length * S.m := Nat.mul_le_mul_right _ hk; rw [Nat.succ_mul] at this; omega)]
  exact (flatMap_at (f := Elem.cells) h.len hk hj).trans hu
/-- A store into an element. -/
theorem RowG.set {g n cap : Nat} (h : RowG S base e (.slice (some ⟨g, 0, none⟩) n cap) L w) {k : Nat} (hk : k < L.length) {j : Nat} (hj : j < S.m) (u : Value) (x' : Elem α) (hx : x'.cells = L[k].cells.set j u)
    (hR : S.R w x'.cells x'.d x'.fp) (hn : ∀ b ∈ x'.fp, b < base) :
    RowG S base e (.slice (some ⟨g, 0, none⟩) n cap) (L.set k x') (w.setCell ⟨g, k * S.m + j, none⟩ u) := by
  have hblk : ∀ b : Nat, b ≠ g → (w.setCell ⟨g, k * S.m + j, none⟩ u).heap[b]? = w.heap[b]? := fun b hb => Below.heap_setCell _ _ _ _ hb
  have hmem : ∀ x ∈ L.set k x', x = x' ∨ x ∈ L := fun x hx => by
    rcases List.mem_or_eq_of_mem_set hx with h | h
    · exact .inr h
    · exact .inl h
  have hne : ∀ x ∈ L, ∀ b ∈ x.fp, b ≠ g := fun x hx b hb e => h.ap x hx b hb (by rw [e]; rfl)
  refine ⟨?_, fun x hx' => ?_, fun x hx' => ?_, fun x hx' => ?_⟩
  · have hn := h.len_eq
    have hrow := h.row
    rw [hn] at hrow
    have := (hrow.stored (k * S.m + j) u).1
    rw [flatMap_set h.len hk hj u x' hx] at this
    rw [List.length_set, hn]
    exact this
  · rcases hmem x hx' with rfl | hx'
    · rw [hx, List.length_set]; exact h.len _ (List.getElem_mem hk)
    · exact h.len x hx'
  · rcases hmem x hx' with rfl | hx'
    · exact S.frame (fun b hb => hblk b (fun e => by have h1 := hn b hb; have h2 := (h.row.lt g rfl).1; omega)) hR
    · exact S.frame (fun b hb => hblk b (hne x hx' b hb)) (h.el x hx')
  · rcases hmem x hx' with rfl | hx'
    · exact hn
    · exact h.hi x hx'
/-- Elements appended. -/
theorem RowG.appended (h : RowG S base e v L w) {X : List (Elem α)} (hrow : w'.ownsRow base e S.m v' (L ++ X).length ((L ++ X).flatMap (·.cells))) (hg : w.grownBy w' v.ownBlock)
    (hX : ∀ x ∈ X, x.cells.length = S.m ∧ S.R w x.cells x.d x.fp ∧ ∀ b ∈ x.fp, b < base) :
    RowG S base e v' (L ++ X) w' := by
  have hall : ∀ x ∈ L ++ X, x.cells.length = S.m ∧ S.R w x.cells x.d x.fp ∧ ∀ b ∈ x.fp, b < base := fun x hx => by
    rcases List.mem_append.1 hx with hx | hx
    · exact ⟨h.len x hx, h.el x hx, h.hi x hx⟩
    · exact hX x hx
  refine ⟨hrow, fun x hx => (hall x hx).1, fun x hx => ?_, fun x hx => (hall x hx).2.2⟩
  refine S.frame (fun b hb => hg.block b (S.lt (hall x hx).2.1 b hb) fun hv => ?_) (hall x hx).2.1
  have h1 := (hall x hx).2.2 b hb
  have h2 := (h.row.lt b hv.symm).1
  omega
end

/-- The elements of what can be read. -/
theorem elems_of {α : Type} {S : Shape α} {w : World} {u : Value} {M : List α} {fp : List Nat} (H : (sSlice S).R w [u] M fp) :
    ∃ (X : List (Elem α)) (a : Option Addr) (cap : Nat), X.map (·.d) = M ∧ X.length = M.length ∧ u = .slice a M.length cap ∧ M.length ≤ maxLen ∧ (∀ x ∈ X, x.cells.length = S.m ∧ S.R w x.cells x.d x.fp ∧ ∀ b ∈ x.fp, b ∈ fp) ∧
      (0 < M.length → ∃ b off, a = some ⟨b, off, none⟩ ∧ b < w.heap.size ∧ ∀ k, (hk : k < X.length) → ElemAt w b off S.m k X[k].cells) := by
  obtain ⟨a, cap, rfl, hc, hm, hrow⟩ := open_rows H
  by_cases h0 : 0 < M.length
  · obtain ⟨b, off, fps, rfl, hb, hfp, he⟩ := hrow h0
    have key : ∀ k : Fin M.length, ∃ x : Elem α, x.d = M[k.1] ∧ x.fp = fps k.1 ∧ ElemAt w b off S.m k.1 x.cells ∧ S.R w x.cells x.d x.fp := fun k => by
      obtain ⟨es, hE, hR⟩ := he k.1 k.2
      exact ⟨⟨es, M[k.1], fps k.1⟩, rfl, rfl, hE, hR⟩
    let X : List (Elem α) := List.ofFn fun k : Fin M.length => (key k).choose
    have hXl : X.length = M.length := by simp [X]
    have hX : ∀ k, (hk : k < X.length) → ∃ hk' : k < M.length, X[k] = (key ⟨k, hk'⟩).choose := fun k hk => ⟨by omega, by simp [X]⟩
    refine ⟨X, _, cap, ?_, hXl, rfl, by omega, fun x hx => ?_, fun _ => ⟨b, off, rfl, hb, fun k hk => ?_⟩⟩
    · apply List.ext_getElem
      · simp [hXl]
      · intro k h1 h2
        rw [List.getElem_map]
        obtain ⟨hk', e⟩ := hX k (by simpa using h1)
        rw [e]
        exact (key ⟨k, hk'⟩).choose_spec.1
    · obtain ⟨k, hk, rfl⟩ := List.getElem_of_mem hx
      obtain ⟨hk', e⟩ := hX k hk
      obtain ⟨s1, s2, s3, s4⟩ := (key ⟨k, hk'⟩).choose_spec
      rw [e]
      refine ⟨s3.1, s4, fun c hc => ?_⟩
      rw [s2] at hc
      rw [hfp]
      exact List.mem_cons_of_mem _ (List.mem_flatMap.2 ⟨k, List.mem_range.2 hk', hc⟩)
    · obtain ⟨hk', e⟩ := hX k hk
      rw [e]
      exact (key ⟨k, hk'⟩).choose_spec.2.2.1
  · have hM : M = [] := List.length_eq_zero_iff.1 (by omega)
    subst hM
    exact ⟨[], a, cap, rfl, rfl, rfl, by unfold maxLen; simp, by simp, fun h => absurd h (by simp)⟩

/-- append of elements that stand somewhere. -/
theorem wp_append_rowG {α : Type} {S : Shape α} {P : Program} {t e : TypeId} {z : Value} {bytes : Nat} (ti : TI P t e z S.m bytes) (hzs : z.cells.size = S.m) (h0 : 0 < S.m) (w : World) {L X : List (Elem α)} {ops : Array Oper} {rest : List Oper} {o : Oper} {a : Act} {Q : Exit → Act → World → Prop}
    (hg : o.guard = none) (s y : Operand) (ho : o.op = .call { callee := .builtin .append, args := #[s, y], argTypes := #[t, t] })
    (base : Nat) (v : Value) (hs : a.eval s = v) (hown : RowG S base e v L w) (g off m c : Nat) (hy : a.eval y = .slice (some ⟨g, off, none⟩) m c) (hm : X.length = m)
    (hX : ∀ x ∈ X, x.cells.length = S.m ∧ S.R w x.cells x.d x.fp ∧ ∀ b ∈ x.fp, b < base) (h1 : ∀ x ∈ X, ∀ u ∈ x.cells, u.oneCell' = true) (hcell : ∀ j u, (X.flatMap (·.cells))[j]? = some u → w.cell? ⟨g, off + j, none⟩ = some u)
    (h63 : L.length + m ≤ maxLen) (hbytes : (L.length + m) * bytes ≤ 140737488355328) (hbase : base ≤ w.heap.size)
    (h : ∀ v' w', RowG S base e v' (L ++ X) w' → w.grownBy w' v.ownBlock → wpList P ops Q rest (a.put o.dst v') w') : wpList P ops Q (o :: rest) a w := by
  obtain ⟨i, hi, hz0, hz1, hz2⟩ := info_parts ti.2
  subst hm
  refine wpList_append_own _ hg s y t ho base e i z S.m bytes ti.1 hi hz0 hz1 hz2 hzs h0 v L.length _ hs hown.row ⟨g, off, none⟩ X.length c (X.flatMap (·.cells)) hy (flatMap_len (f := Elem.cells) fun x hx => (hX x hx).1) ?_ ?_ h63 hbytes hbase fun v' w' r1 r2 _ => h v' w' ?_ r2
  · intro j u hj
    rw [Addr.add_lit]
    exact hcell j u hj
  · intro u hu
    obtain ⟨x, hx, hu⟩ := List.mem_flatMap.1 hu
    exact h1 x hx u hu
  · refine hown.appended ?_ r2 hX
    rw [List.length_append, List.flatMap_append]
    exact r1
theorem run_append_empty {P : Program} {w : World} (base : Nat) (t ty e : TypeId) (i : TypeInfo) (size c : Nat) (ht : P.underlying t = some (.slice e)) (hi : P.info? e = some i)
    (v : Value) (n : Nat) (xs : List Value) (hown : w.ownsRow base e size v n xs) : (Builtin.append_ #[t, t] ty #[v, .slice none 0 c]).run P w = .ok v w := by
  rcases hown.2 with ⟨rfl, rfl⟩ | ⟨g, cap, cur, rfl, _, _, hnc, _⟩
  · simp [Builtin.append_, run_underlying ht, sizeOf, typeInfo, hi, Builtin.lenOf, Builtin.firstCells]
  · simp [Builtin.append_, run_underlying ht, sizeOf, typeInfo, hi, Builtin.lenOf, Builtin.firstCells, hnc, storeCells]
/-- append(s, row...), the row any that can be read, of blocks before the own row's. -/
theorem wp_append_anyG {α : Type} {S : Shape α} {P : Program} {t e : TypeId} {z : Value} {bytes : Nat} (ti : TI P t e z S.m bytes) (hzs : z.cells.size = S.m) (h0 : 0 < S.m) (hone : ∀ w cs x fp, S.R w cs x fp → ∀ u ∈ cs, u.oneCell' = true) (w : World) {L : List (Elem α)} {ops : Array Oper} {rest : List Oper} {o : Oper} {a : Act} {Q : Exit → Act → World → Prop}
    (hg : o.guard = none) (s y : Operand) (ho : o.op = .call { callee := .builtin .append, args := #[s, y], argTypes := #[t, t] })
    (base : Nat) (v u : Value) (M : List α) (fp : List Nat) (hs : a.eval s = v) (hown : RowG S base e v L w) (hy : a.eval y = u) (HM : (sSlice S).R w [u] M fp) (hfp : ∀ b ∈ fp, b < base)
    (h63 : L.length + M.length ≤ maxLen) (hbytes : (L.length + M.length) * bytes ≤ 140737488355328) (hbase : base ≤ w.heap.size)
    (h : ∀ v' X w', X.map (·.d) = M → (∀ x ∈ X, ∀ b ∈ x.fp, b ∈ fp) → RowG S base e v' (L ++ X) w' → w.grownBy w' v.ownBlock → wpList P ops Q rest (a.put o.dst v') w') : wpList P ops Q (o :: rest) a w := by
  obtain ⟨X, ad, cap, hXM, hXl, rfl, hmm, hX, hat⟩ := elems_of HM
  rw [← hXl] at h63 hbytes
  by_cases hM : 0 < M.length
  · obtain ⟨b, off, rfl, hb, hE⟩ := hat hM
    refine wp_append_rowG ti hzs h0 w (X := X) hg s y ho base v hs hown b off M.length cap hy hXl (fun x hx => ⟨(hX x hx).1, (hX x hx).2.1, fun c hc => hfp c ((hX x hx).2.2 c hc)⟩) (fun x hx => hone _ _ _ _ (hX x hx).2.1) ?_ (by rw [← hXl]; exact h63) (by rw [← hXl]; exact hbytes) hbase fun v' w' r1 r2 => h v' X w' hXM (fun x hx => (hX x hx).2.2) r1 r2
    intro j u hj
    have hjl : j < X.length * S.m := by
      have := (List.getElem?_eq_some_iff.1 hj).1
      rwa [flatMap_len (f := Elem.cells) fun x hx => (hX x hx).1] at this
    have hk : j / S.m < X.length := Nat.div_lt_of_lt_mul (by rw [Nat.mul_comm]; exact hjl)
    have hr : j % S.m < S.m := Nat.mod_lt _ h0
    have hj2 : j / S.m * S.m + j % S.m = j := Nat.div_add_mod' _ _
    rw [← hj2, flatMap_at (f := Elem.cells) (fun x hx => (hX x hx).1) hk hr] at hj
    have := (hE (j / S.m) hk).2 (j % S.m) hr
    rw [Nat.add_assoc, hj2] at this
    rw [this]
    exact hj
  · have hX0 : X = [] := List.length_eq_zero_iff.1 (by omega)
    have hM0 : M.length = 0 := by omega
    subst hX0
    obtain ⟨i, hi, hz0, hz1, hz2⟩ := info_parts ti.2
    have hdone : wpList P ops Q rest (a.put o.dst v) w := h v [] w (by simpa using hXM) (by simp) (by simpa using hown) ⟨rfl, rfl, rfl, Nat.le_refl _, fun _ _ _ => rfl⟩
    rw [hM0] at hy
    cases ad with
    | none =>
      have hrun := run_append_empty (P := P) (w := w) base _ o.type _ i S.m cap ti.1 hi v L.length _ hown.row
      refine wpList_plain hg fun K hK' => ?_
      unfold Oper.wp
      simp [execOp, ho, resolve, invoke, builtin, hs, hy, hrun, Result.andThen]
      exact hK' _ _ hdone
    | some ad =>
      refine wpList_append_own _ hg s y t ho base e i z S.m bytes ti.1 hi hz0 hz1 hz2 hzs h0 v L.length _ hs hown.row ad 0 cap [] hy (by simp) (by simp) (by simp) (by omega) (by simpa using hbytes) hbase fun v' w' r1 r2 _ => h v' [] w' (by simpa using hXM) (by simp) ?_ r2
      exact hown.appended (X := []) (by have h1' := r1; simp only [Nat.add_zero, List.append_nil] at h1' ⊢; exact h1') r2 (by simp)

end Go.Proofs.Ytdnjpjiepnhhhaa

/- Two macros that the law of SameMacro draws. (Made by gen_drawsm.py.) -/
namespace Go.Proofs.Ytdnjpjiepnhhhaa
open Go.RowKit

section
variable {P : Program} {ops : Array Oper} {Q : Exit → Act → World → Prop} {md : Region.Mode} {S : World → Prop}
/-- An operation of a drawn region is taken first; its slot is written out. -/
theorem takeH2 (i d : Nat) {oi : Oper} {v : Value} {fuel : Nat} {listed : Array Bool} {a : Act} {w : World} (hi : ops[i]? = some oi) (hd : oi.dst = some d)
    (hs : Region.noSelect ops = true) (hf : Region.free md ops listed i = true) (hr : (Region.ready md ops listed).contains i = true)
    (hQ : ∀ c a w, Q (.panic c) (a.put (some d) v) w → Q (.panic c) a w) (hw : Region.wanted oi (yielded ops a.tmps) = true) (hS : S w)
    (hy : ∀ w, S w → (execOp a.eval oi).run P w = .ok (.value v) w)
    (h : wpAnyH P md ops Q S fuel (listed.setIfInBounds i true) (a.put (some d) v) w) : wpAnyH P md ops Q S (fuel + 1) listed a w :=
  wpAnyH_take hi hs hf hr (by rw [hd]; exact hQ) (.inl ⟨hw, hy⟩) hS (by rw [hd]; exact h)
end
theorem results_two {P : Program} {fn : Func} {p q : Tmp} {ty : TypeId} (h : fn.results = #[.cell p ty, .cell q ty]) (tmps : Array Value) (w : World) (g1 g2 : Nat) (t1 t2 : TypeId) (cs1 cs2 : Array Value) (fr1 fr2 : Nat × Nat) (d : TypeDesc)
    (hp : tmps.getD p undef = .pointer (some ⟨g1, 0, none⟩)) (hq : tmps.getD q undef = .pointer (some ⟨g2, 0, none⟩)) (hg1 : w.heap[g1]? = some (.cells cs1 t1 fr1)) (hg2 : w.heap[g2]? = some (.cells cs2 t2 fr2))
    (hu : P.underlying ty = some d) (hd : (match d with | .struct _ | .array _ _ => true | _ => false) = true) (hi1 : (P.info? ty).map (·.size) = some cs1.size) (hi2 : (P.info? ty).map (·.size) = some cs2.size) :
    (results fn tmps).run P w = .ok (.tuple #[.agg cs1, .agg cs2]) w := by
  have hp' : tmps[p]?.getD undef = .pointer (some ⟨g1, 0, none⟩) := by simpa using hp
  have hq' : tmps[q]?.getD undef = .pointer (some ⟨g2, 0, none⟩) := by simpa using hq
  simp [results, h, hp', hq', asAddr, run_loadVar_row w g1 t1 ty cs1 fr1 d hg1 hu hd hi1, run_loadVar_row w g2 t2 ty cs2 fr2 d hg2 hu hd hi2]
theorem set4_at {w : World} {g : Nat} {z0 z1 z2 z3 : Value} {ty : TypeId} (h : w.heap[g]? = some (.cells #[z0, z1, z2, z3] ty (0, 0))) (v0 v1 v2 v3 : Value) :
    (set4 w g v0 v1 v2 v3).heap[g]? = some (.cells #[v0, v1, v2, v3] ty (0, 0)) := blk_set (blk_set (blk_set (blk_set h 0 _) 1 _) 2 _) 3 _
theorem set4_far {w : World} {g b : Nat} (h : b ≠ g) (v0 v1 v2 v3 : Value) : (set4 w g v0 v1 v2 v3).heap[b]? = w.heap[b]? := by
  unfold set4
  rw [Below.heap_setCell _ _ _ _ h, Below.heap_setCell _ _ _ _ h, Below.heap_setCell _ _ _ _ h, Below.heap_setCell _ _ _ _ h]
theorem set4_size (w : World) (g : Nat) (v0 v1 v2 v3 : Value) : (set4 w g v0 v1 v2 v3).heap.size = w.heap.size := by
  unfold set4
  simp
theorem set4_below {B : Nat} {w0 w : World} (hB : Below B w0 w) {g : Nat} (hg : B ≤ g) (v0 v1 v2 v3 : Value) : Below B w0 (set4 w g v0 v1 v2 v3) :=
  ((((hB).setCell (p := ⟨g, 0, none⟩) hg v0).setCell (p := ⟨g, 1, none⟩) hg v1).setCell (p := ⟨g, 2, none⟩) hg v2).setCell (p := ⟨g, 3, none⟩) hg v3
theorem set4_R {w : World} {g : Nat} {cs : List Value} {m : DMacro} {fp : List Nat} (h : sMacro.R w cs m fp) (hn : g ∉ fp) (v0 v1 v2 v3 : Value) : sMacro.R (set4 w g v0 v1 v2 v3) cs m fp :=
  sMacro.frame (fun b hb => set4_far (fun e : b = g => hn (by rw [← e]; exact hb)) _ _ _ _) h
/-- Two macros are drawn. -/
def DrawnMM (w : World) (e : Ending) (w' : World) : Prop :=
  ∃ (nm : ByteArray) (f : Bool) (a2 a3 : Option Addr) (n2 c2 n3 c3 : Nat) (ps : List ByteArray) (bd : List Tok) (fp : List Nat) (nm' : ByteArray) (f' : Bool) (a2' a3' : Option Addr) (n2' c2' n3' c3' : Nat) (ps' : List ByteArray) (bd' : List Tok) (fp' : List Nat),
    e = .returned (.tuple #[.agg #[.string nm, .bool f, .slice a2 n2 c2, .slice a3 n3 c3], .agg #[.string nm', .bool f', .slice a2' n2' c2', .slice a3' n3' c3']]) ∧
    sMacro.R w' [.string nm, .bool f, .slice a2 n2 c2, .slice a3 n3 c3] ⟨nm, f, ps, bd⟩ fp ∧ sMacro.R w' [.string nm', .bool f', .slice a2' n2' c2', .slice a3' n3' c3'] ⟨nm', f', ps', bd'⟩ fp' ∧ nm.size ≤ 1000 ∧ Below w.heap.size w w'
/-- Both are stored into the results' cells, in either order. -/
theorem two_ab {w w7 : World} {g2 g3 : Nat} (hz : w7.heap[g2]? = some (.cells #[.string ⟨#[]⟩, .bool false, .slice none 0 0, .slice none 0 0] 27 (0, 0)) ∧ w7.heap[g3]? = some (.cells #[.string ⟨#[]⟩, .bool false, .slice none 0 0, .slice none 0 0] 27 (0, 0))) (hne : g2 ≠ g3) {nm nm' : ByteArray} {f f' : Bool} {s2 s3 s2' s3' : Value} {m m' : DMacro} {fp fp' : List Nat}
    (R : sMacro.R w7 [.string nm, .bool f, s2, s3] m fp) (R' : sMacro.R w7 [.string nm', .bool f', s2', s3'] m' fp') (hn : g2 ∉ fp ∧ g3 ∉ fp ∧ g2 ∉ fp' ∧ g3 ∉ fp') (hB : Below w.heap.size w w7) (hg : w.heap.size ≤ g2 ∧ w.heap.size ≤ g3) :
    (set4 (set4 w7 g2 (.string nm) (.bool f) s2 s3) g3 (.string nm') (.bool f') s2' s3').heap[g2]? = some (.cells #[.string nm, .bool f, s2, s3] 27 (0, 0)) ∧
    (set4 (set4 w7 g2 (.string nm) (.bool f) s2 s3) g3 (.string nm') (.bool f') s2' s3').heap[g3]? = some (.cells #[.string nm', .bool f', s2', s3'] 27 (0, 0)) ∧
    sMacro.R (set4 (set4 w7 g2 (.string nm) (.bool f) s2 s3) g3 (.string nm') (.bool f') s2' s3') [.string nm, .bool f, s2, s3] m fp ∧ sMacro.R (set4 (set4 w7 g2 (.string nm) (.bool f) s2 s3) g3 (.string nm') (.bool f') s2' s3') [.string nm', .bool f', s2', s3'] m' fp' ∧
    Below w.heap.size w (set4 (set4 w7 g2 (.string nm) (.bool f) s2 s3) g3 (.string nm') (.bool f') s2' s3') :=
  ⟨(set4_far hne _ _ _ _).trans (set4_at hz.1 _ _ _ _), set4_at ((set4_far (Ne.symm hne) _ _ _ _).trans hz.2) _ _ _ _, set4_R (set4_R R hn.1 _ _ _ _) hn.2.1 _ _ _ _, set4_R (set4_R R' hn.2.2.1 _ _ _ _) hn.2.2.2 _ _ _ _, set4_below (set4_below hB hg.1 _ _ _ _) hg.2 _ _ _ _⟩
theorem two_ba {w w7 : World} {g2 g3 : Nat} (hz : w7.heap[g2]? = some (.cells #[.string ⟨#[]⟩, .bool false, .slice none 0 0, .slice none 0 0] 27 (0, 0)) ∧ w7.heap[g3]? = some (.cells #[.string ⟨#[]⟩, .bool false, .slice none 0 0, .slice none 0 0] 27 (0, 0))) (hne : g2 ≠ g3) {nm nm' : ByteArray} {f f' : Bool} {s2 s3 s2' s3' : Value} {m m' : DMacro} {fp fp' : List Nat}
    (R : sMacro.R w7 [.string nm, .bool f, s2, s3] m fp) (R' : sMacro.R w7 [.string nm', .bool f', s2', s3'] m' fp') (hn : g2 ∉ fp ∧ g3 ∉ fp ∧ g2 ∉ fp' ∧ g3 ∉ fp') (hB : Below w.heap.size w w7) (hg : w.heap.size ≤ g2 ∧ w.heap.size ≤ g3) :
    (set4 (set4 w7 g3 (.string nm') (.bool f') s2' s3') g2 (.string nm) (.bool f) s2 s3).heap[g2]? = some (.cells #[.string nm, .bool f, s2, s3] 27 (0, 0)) ∧
    (set4 (set4 w7 g3 (.string nm') (.bool f') s2' s3') g2 (.string nm) (.bool f) s2 s3).heap[g3]? = some (.cells #[.string nm', .bool f', s2', s3'] 27 (0, 0)) ∧
    sMacro.R (set4 (set4 w7 g3 (.string nm') (.bool f') s2' s3') g2 (.string nm) (.bool f) s2 s3) [.string nm, .bool f, s2, s3] m fp ∧ sMacro.R (set4 (set4 w7 g3 (.string nm') (.bool f') s2' s3') g2 (.string nm) (.bool f) s2 s3) [.string nm', .bool f', s2', s3'] m' fp' ∧
    Below w.heap.size w (set4 (set4 w7 g3 (.string nm') (.bool f') s2' s3') g2 (.string nm) (.bool f) s2 s3) :=
  ⟨set4_at ((set4_far hne _ _ _ _).trans hz.1) _ _ _ _, (set4_far (Ne.symm hne) _ _ _ _).trans (set4_at hz.2 _ _ _ _), set4_R (set4_R R hn.2.1 _ _ _ _) hn.1 _ _ _ _, set4_R (set4_R R' hn.2.2.2 _ _ _ _) hn.2.2.1 _ _ _ _, set4_below (set4_below hB hg.2 _ _ _ _) hg.1 _ _ _ _⟩
theorem tok_one (w : World) (cs : List Value) (x : Tok) (fp : List Nat) (h : sTok.R w cs x fp) : ∀ u ∈ cs, u.oneCell' = true := by
  obtain ⟨hv, rfl, -, -, K⟩ := h
  obtain ⟨a, c, rfl, -⟩ := open_strs K
  intro u hu
  simp only [List.mem_cons, List.not_mem_nil, or_false] at hu
  rcases hu with rfl | rfl | rfl | rfl <;> rfl

set_option maxHeartbeats 16000000 in
set_option maxRecDepth 100000 in
theorem DrawSameMacro (v : Value) (l : List UInt8) (fp : List Nat) (w : World) (H : (sSlice sByte).R w [v] l fp) :
    Calls Try.prog 31 #[v] w (DrawnMM w) := by
  have HZ := Lib.hid (alloc2_blk w #[.string ⟨#[]⟩, .bool false, .slice none 0 0, .slice none 0 0] #[.string ⟨#[]⟩, .bool false, .slice none 0 0, .slice none 0 0] 27 27)
  have b0 := (alloc_below' w (.cells #[.string ⟨#[]⟩, .bool false, .slice none 0 0, .slice none 0 0] 27)).trans ((alloc_below' (w.alloc (.cells #[.string ⟨#[]⟩, .bool false, .slice none 0 0, .slice none 0 0] 27)) (.cells #[.string ⟨#[]⟩, .bool false, .slice none 0 0, .slice none 0 0] 27)).mono (alloc_below' w (.cells #[.string ⟨#[]⟩, .bool false, .slice none 0 0, .slice none 0 0] 27)).size)
  have h0 := (sSlice sByte).below H b0
  have hsz2 : ((w.alloc (.cells #[.string ⟨#[]⟩, .bool false, .slice none 0 0, .slice none 0 0] 27)).alloc (.cells #[.string ⟨#[]⟩, .bool false, .slice none 0 0, .slice none 0 0] 27)).heap.size = w.heap.size + 2 := by
    show ((w.heap.push _).push _).size = _
    simp
  have HS := Lib.hid hsz2
  clear hsz2
  go_enter Try.func31, Try.ntmps31
  go_wp2_with fail
  refine (l20Open _ l fp _ h0).mono ?_
  rintro e w1 ⟨rb, rfl, hrb, hR, hB⟩
  rw [HS.out] at hrb
  have hB1 := b0.trans (hB.mono b0.size)
  have HZ1 : Hid (w1.heap[w.heap.size]? = some (.cells #[.string ⟨#[]⟩, .bool false, .slice none 0 0, .slice none 0 0] 27 (0, 0)) ∧ w1.heap[w.heap.size + 1]? = some (.cells #[.string ⟨#[]⟩, .bool false, .slice none 0 0, .slice none 0 0] 27 (0, 0))) := ⟨(hB.block _ (by rw [HS.out]; omega)).trans HZ.out.1, (hB.block _ (by rw [HS.out]; omega)).trans HZ.out.2⟩
  have hlt := hR.lt
  clear HZ HS b0 h0 hB
  go_wp2_with fail
  refine (l20Macro rb 0 _ _ hR (by omega) (by omega) (by omega)).mono ?_
  rintro e w2 ⟨nm, f, a2, a3, n2, c2, n3, c3, ps, bd, fpa, q, rfl, hT, hok, hlo, hq, hR2, hK⟩
  have HZ2 : Hid (w2.heap[w.heap.size]? = some (.cells #[.string ⟨#[]⟩, .bool false, .slice none 0 0, .slice none 0 0] 27 (0, 0)) ∧ w2.heap[w.heap.size + 1]? = some (.cells #[.string ⟨#[]⟩, .bool false, .slice none 0 0, .slice none 0 0] 27 (0, 0))) := ⟨blkKept HZ1.out.1 hK (by omega), blkKept HZ1.out.2 hK (by omega)⟩
  have hB2 := kept_below hB1 hK (by omega) hB1.size
  have hw1 := hB1.size
  have hw12 := hK.size
  have HNM : Hid (nm.size ≤ 1000 ∧ bd.length ≤ 100) := ⟨hok.1, hok.2.2.1⟩
  have HLO : Hid (∀ b ∈ fpa, rb < b ∧ b < w2.heap.size) := fun b hb => ⟨by have := hlo b hb; omega, sMacro.lt hT b hb⟩
  clear hok hlo hK HZ1 hB1 hR
  have bx := alloc_below' w2 (.cells #[.string nm, .bool f, .slice a2 n2 c2, .slice a3 n3 c3] 27)
  have HM := Lib.hid (heap_alloc_new w2 (.cells #[.string nm, .bool f, .slice a2 n2 c2, .slice a3 n3 c3] 27))
  have HR3 := Lib.hid (hR2.grow bx)
  have HT3 := Lib.hid (sMacro.below hT bx)
  have HZ3 : Hid ((w2.alloc (.cells #[.string nm, .bool f, .slice a2 n2 c2, .slice a3 n3 c3] 27)).heap[w.heap.size]? = some (.cells #[.string ⟨#[]⟩, .bool false, .slice none 0 0, .slice none 0 0] 27 (0, 0)) ∧ (w2.alloc (.cells #[.string nm, .bool f, .slice a2 n2 c2, .slice a3 n3 c3] 27)).heap[w.heap.size + 1]? = some (.cells #[.string ⟨#[]⟩, .bool false, .slice none 0 0, .slice none 0 0] 27 (0, 0))) := ⟨mbox HZ2.out.1 bx, mbox HZ2.out.2 bx⟩
  have HB3 := Lib.hid (hB2.trans (bx.mono hB2.size))
  have hg5 : rb < w2.heap.size := by omega
  have hx3 : (w2.alloc (.cells #[.string nm, .bool f, .slice a2 n2 c2, .slice a3 n3 c3] 27)).heap.size = w2.heap.size + 1 := Array.size_push _
  have HX3 := Lib.hid hx3
  clear bx HZ2 hB2 hT hR2 hx3
  go_wp2_with fail
  refine (pick rb q _ _ HR3.out (by omega) (by omega) (by omega)).mono ?_
  rintro e w4 ⟨r, rfl, hr0, hr1, hR4, hK4⟩
  have hs4 := hK4.size
  rw [HX3.out] at hs4
  have HM4 := Lib.hid (blkKept HM.out hK4 (by omega))
  have HZ4 : Hid (w4.heap[w.heap.size]? = some (.cells #[.string ⟨#[]⟩, .bool false, .slice none 0 0, .slice none 0 0] 27 (0, 0)) ∧ w4.heap[w.heap.size + 1]? = some (.cells #[.string ⟨#[]⟩, .bool false, .slice none 0 0, .slice none 0 0] 27 (0, 0))) := ⟨blkKept HZ3.out.1 hK4 (by omega), blkKept HZ3.out.2 hK4 (by omega)⟩
  have HT4 := Lib.hid (sMacro.kept HT3.out (fun b hb hx => by have h1 := (HLO.out b hb).1; have h2 : b = rb := (by simpa using hx); omega) hK4)
  have HB4 := Lib.hid (kept_below HB3.out hK4 (by omega) HB3.out.size)
  have HR4 := Lib.hid hR4
  clear HM HZ3 HT3 HB3 HR3 hK4 hR4 HX3
  have y0 : w4.cell? ⟨w2.heap.size, 0, none⟩ = some (.string nm) := cell_of_row _ _ 0 _ _ _ HM4.out
  have y1 : w4.cell? ⟨w2.heap.size, 1, none⟩ = some (.bool f) := cell_of_row _ _ 1 _ _ _ HM4.out
  have y2 : w4.cell? ⟨w2.heap.size, 2, none⟩ = some (.slice a2 n2 c2) := cell_of_row _ _ 2 _ _ _ HM4.out
  have y3 : w4.cell? ⟨w2.heap.size, 3, none⟩ = some (.slice a3 n3 c3) := cell_of_row _ _ 3 _ _ _ HM4.out
  have hne23 : w.heap.size ≠ w.heap.size + 1 := by omega
  by_cases hr : r = 0
  · have hr' : (r == 0) = true := by simp [hr]
    clear hr
    obtain ⟨q2', q3', fa2, fa3, hce, okn, K2, K3, hfa⟩ := HT4.out
    simp only [List.cons.injEq, and_true, true_and] at hce
    obtain ⟨rfl, rfl⟩ := hce
    have hn3 : n3 = bd.length := by obtain ⟨_, _, h, -⟩ := open_rows K3; simp only [Value.slice.injEq] at h; exact h.2.1
    subst hn3
    have hF2 : Hid (∀ b ∈ fa2, rb < b ∧ b < w2.heap.size) := fun b hb => HLO.out b (by rw [hfa]; simp [hb])
    have hF3 : Hid (∀ b ∈ fa3, rb < b ∧ b < w2.heap.size) := fun b hb => HLO.out b (by rw [hfa]; simp [hb])
    have bx := alloc_below' w4 (.cells #[.string nm, .bool f, .slice a2 n2 c2, .slice a3 bd.length c3] 27)
    have HB5 := Lib.hid (heap_alloc_new w4 (.cells #[.string nm, .bool f, .slice a2 n2 c2, .slice a3 bd.length c3] 27))
    have hx5 : (w4.alloc (.cells #[.string nm, .bool f, .slice a2 n2 c2, .slice a3 bd.length c3] 27)).heap.size = w4.heap.size + 1 := Array.size_push _
    have HZ5 : Hid ((w4.alloc (.cells #[.string nm, .bool f, .slice a2 n2 c2, .slice a3 bd.length c3] 27)).heap[w.heap.size]? = some (.cells #[.string ⟨#[]⟩, .bool false, .slice none 0 0, .slice none 0 0] 27 (0, 0)) ∧ (w4.alloc (.cells #[.string nm, .bool f, .slice a2 n2 c2, .slice a3 bd.length c3] 27)).heap[w.heap.size + 1]? = some (.cells #[.string ⟨#[]⟩, .bool false, .slice none 0 0, .slice none 0 0] 27 (0, 0))) := ⟨mbox HZ4.out.1 bx, mbox HZ4.out.2 bx⟩
    have HM5 := Lib.hid (mbox HM4.out bx)
    have HT5 := Lib.hid (sMacro.below HT4.out bx)
    have HK2 := Lib.hid ((sSlice sStr).below K2 bx)
    have HK3 := Lib.hid ((sSlice sTok).below K3 bx)
    have HR5 := Lib.hid (HR4.out.grow bx)
    have HW5 := Lib.hid (HB4.out.trans (bx.mono HB4.out.size))
    have HOKN := Lib.hid okn
    have HX5 := Lib.hid hx5
    have HG5 : Hid (RowG sTok (w4.heap.size + 1) 59 (.slice (some ⟨w4.heap.size + 1, 0, none⟩) 0 0) [] ((w4.alloc (.cells #[.string nm, .bool f, .slice a2 n2 c2, .slice a3 bd.length c3] 27)).alloc (.cells #[] 59))) := by
      have h := RowG.lit0 sTok 59 (w4.alloc (.cells #[.string nm, .bool f, .slice a2 n2 c2, .slice a3 bd.length c3] 27))
      rw [hx5] at h
      exact h
    have HLL : Hid (w4.heap.size + 1 ≤ ((w4.alloc (.cells #[.string nm, .bool f, .slice a2 n2 c2, .slice a3 bd.length c3] 27)).alloc (.cells #[] 59)).heap.size) := by
      have h := (alloc_below' (w4.alloc (.cells #[.string nm, .bool f, .slice a2 n2 c2, .slice a3 bd.length c3] 27)) (.cells #[] 59)).size
      rw [hx5] at h
      exact h
    have y3L : ((w4.alloc (.cells #[.string nm, .bool f, .slice a2 n2 c2, .slice a3 bd.length c3] 27)).alloc (.cells #[] 59)).cell? ⟨w2.heap.size, 3, none⟩ = some (.slice a3 bd.length c3) := cell_of_row _ _ 3 _ _ _ (mbox HM5.out (alloc_below' _ _))
    have bl := alloc_below' (w4.alloc (.cells #[.string nm, .bool f, .slice a2 n2 c2, .slice a3 bd.length c3] 27)) (.cells #[] 59)
    have HK3' := Lib.hid ((sSlice sTok).below HK3.out bl)
    have hnb := HNM.out.2
    clear K2 K3 bx HT4 HZ4 HM4 HB4 HR4 okn hx5 bl hfa
    go_wp2_with (at_builtin; go_loud (refine wp_append_anyG ti_tok rfl (by decide) tok_one _ rfl (.tmp 15) (.tmp 17) rfl (w4.heap.size + 1) (.slice (some ⟨w4.heap.size + 1, 0, none⟩) 0 0) (.slice a3 bd.length c3) bd fa3 rfl HG5.out rfl HK3'.out (fun b hb => by have := (hF3.out b hb).2; omega) (by simp [maxLen]; omega) (by simp; omega) HLL.out ?_; intro v6 X w6 hXd hXf hG hgr; obtain ⟨av, cv, rfl, hcv, hmv, hpv⟩ := hG.val; have HA := Lib.hid (And.intro hG (And.intro hXd (And.intro hXf hgr))); have hb6 : Below (w4.alloc (.cells #[.string nm, .bool f, .slice a2 n2 c2, .slice a3 bd.length c3] 27)).heap.size (w4.alloc (.cells #[.string nm, .bool f, .slice a2 n2 c2, .slice a3 bd.length c3] 27)) w6 := ((Below.refl (w4.alloc (.cells #[.string nm, .bool f, .slice a2 n2 c2, .slice a3 bd.length c3] 27)).heap.size (w4.alloc (.cells #[.string nm, .bool f, .slice a2 n2 c2, .slice a3 bd.length c3] 27))).alloc (Nat.le_refl _) (.cells #[] 59)).grown hgr (alloc_below' _ _).size (fun b hb => by rw [HX5.out]; have e : w4.heap.size + 1 = b := (by simpa [Value.ownBlock] using hb); omega); have HB6 := Lib.hid (mbox HB5.out hb6); have f3 : w6.frozen? ⟨w4.heap.size, 3, none⟩ = false := frozen_of_row _ _ 3 _ _ HB6.out; have f3c := cell_of_row w6 w4.heap.size 3 _ _ _ HB6.out; clear hG hXd hXf hgr))
    rotate_left
    · skip
      have hX5 := HX5.out
      have hs6 := hb6.size
      rw [hX5] at hs6
      have far : ∀ b, b ≠ w4.heap.size → (w6.setCell ⟨w4.heap.size, 3, none⟩ (.slice av X.length cv)).heap[b]? = w6.heap[b]? := fun b hb => Below.heap_setCell _ _ _ _ hb
      have HZ7 : Hid ((w6.setCell ⟨w4.heap.size, 3, none⟩ (.slice av X.length cv)).heap[w.heap.size]? = some (.cells #[.string ⟨#[]⟩, .bool false, .slice none 0 0, .slice none 0 0] 27 (0, 0)) ∧ (w6.setCell ⟨w4.heap.size, 3, none⟩ (.slice av X.length cv)).heap[w.heap.size + 1]? = some (.cells #[.string ⟨#[]⟩, .bool false, .slice none 0 0, .slice none 0 0] 27 (0, 0))) := ⟨(far _ (by omega)).trans (mbox HZ5.out.1 hb6), (far _ (by omega)).trans (mbox HZ5.out.2 hb6)⟩
      have HM7 := Lib.hid ((far w2.heap.size (by omega)).trans (mbox HM5.out hb6))
      have HB7 : Hid ((w6.setCell ⟨w4.heap.size, 3, none⟩ (.slice av X.length cv)).heap[w4.heap.size]? = some (.cells #[.string nm, .bool f, .slice a2 n2 c2, .slice av X.length cv] 27 (0, 0))) := blk_set HB6.out 3 _
      have HT7 : Hid (sMacro.R (w6.setCell ⟨w4.heap.size, 3, none⟩ (.slice av X.length cv)) [.string nm, .bool f, .slice a2 n2 c2, .slice a3 bd.length c3] ⟨nm, f, ps, bd⟩ fpa) := sMacro.frame (fun b hb => far b (by have := (HLO.out b hb).2; omega)) (sMacro.below HT5.out hb6)
      have HK27 : Hid ((sSlice sStr).R (w6.setCell ⟨w4.heap.size, 3, none⟩ (.slice av X.length cv)) [.slice a2 n2 c2] ps fa2) := (sSlice sStr).frame (fun b hb => far b (by have := (hF2.out b hb).2; omega)) ((sSlice sStr).below HK2.out hb6)
      have HR7 := Lib.hid (rdSet (HR5.out.grow hb6) (g := w4.heap.size) (by omega) 3 (.slice av X.length cv))
      have HW7 := Lib.hid ((HW5.out.trans (hb6.mono HW5.out.size)).setCell (p := ⟨w4.heap.size, 3, none⟩) (by show w.heap.size ≤ w4.heap.size; omega) (.slice av X.length cv))
      have HG7 : Hid (RowG sTok (w4.heap.size + 1) 59 (.slice av X.length cv) X (w6.setCell ⟨w4.heap.size, 3, none⟩ (.slice av X.length cv))) := by
        have h1 := HA.out.1
        exact h1.same (fun g hg => far g (by have := h1.mine g hg; omega)) (fun x hx b hb => far b (by have := (hF3.out b (HA.out.2.2.1 x hx b hb)).2; omega))
      have HXF : Hid (∀ x ∈ X, ∀ b ∈ x.fp, b ∈ fa3) := HA.out.2.2.1
      have hs7 : (w6.setCell ⟨w4.heap.size, 3, none⟩ (.slice av X.length cv)).heap.size = w6.heap.size := by simp
      have HS7 := Lib.hid hs7
      clear far hb6 HA HZ5 HM5 HB5 HB6 HT5 HK2 HK3 HK3' HR5 HW5 HG5 HX5 f3 f3c hs7
      clear y0 y1 y2 y3
      generalize (w6.setCell ⟨w4.heap.size, 3, none⟩ (.slice av X.length cv)) = w7 at *
      have hs7 := HS7.out
      clear HS7
      obtain ⟨fpx, RX, hfx, -⟩ := HG7.out.read
      have HX7 := Lib.hid (And.intro RX hfx)
      clear RX hfx
      have hd : Below w7.heap.size w7 w7.drew := belowN (Below.refl _ _) 1
      refine wp_region_noPanic ?_
      refine wp_region_held_drew (S := fun w' => w'.heap[w2.heap.size]? = some (.cells #[.string nm, .bool f, .slice a2 n2 c2, .slice a3 bd.length c3] 27 (0, 0)) ∧ w'.heap[w4.heap.size]? = some (.cells #[.string nm, .bool f, .slice a2 n2 c2, .slice av X.length cv] 27 (0, 0))) (by kernel_rfl) (by exact ⟨HM7.out, HB7.out⟩) (fun hHeld => ?_)
      have HZq := Lib.hid (show w7.drew.heap[w.heap.size]? = _ ∧ w7.drew.heap[w.heap.size + 1]? = _ from HZ7.out)
      have HMq := Lib.hid (show w7.drew.heap[w2.heap.size]? = _ ∧ w7.drew.heap[w4.heap.size]? = _ from ⟨HM7.out, HB7.out⟩)
      have HTq := Lib.hid (sMacro.below HT7.out hd)
      have HUq : Hid (sMacro.R w7.drew [.string nm, .bool f, .slice a2 n2 c2, .slice av X.length cv] ⟨nm, f, ps, X.map (·.d)⟩ (fa2 ++ fpx)) := ⟨_, _, fa2, fpx, rfl, HOKN.out, (sSlice sStr).below HK27.out hd, (sSlice sTok).below HX7.out.1 hd, rfl⟩
      have HNq : Hid (w.heap.size ∉ fpa ∧ w.heap.size + 1 ∉ fpa ∧ w.heap.size ∉ fa2 ++ fpx ∧ w.heap.size + 1 ∉ fa2 ++ fpx) := by
        have k1 : ∀ b ∈ fa2 ++ fpx, rb < b := fun b hb => by
          rcases List.mem_append.1 hb with hb | hb
          · exact (hF2.out b hb).1
          · rcases HX7.out.2 b hb with h | ⟨x, hx, h⟩
            · have := HG7.out.mine b h; omega
            · exact (hF3.out b (HXF.out x hx b h)).1
        exact ⟨fun hx => by have := (HLO.out _ hx).1; omega, fun hx => by have := (HLO.out _ hx).1; omega, fun hx => by have := k1 _ hx; omega, fun hx => by have := k1 _ hx; omega⟩
      have HBq := Lib.hid (HW7.out.trans (hd.mono HW7.out.size))
      clear HZ7 HM7 HB7 HT7 HG7 HK27 HX7 hd
      generalize w7.drew = wq at *
      refine takeH2 0 39 (v := ?_) rfl rfl (by kernel_rfl) (by kernel_rfl) (by kernel_rfl) (fun _ _ _ h => h) (by rfl) (by assumption) ?_ ?_
      rotate_left
      · intro w hSw; obtain ⟨sa, sb⟩ := hSw; have s0 := cell_of_row _ _ 0 _ _ _ sa; have s1 := cell_of_row _ _ 1 _ _ _ sa; have s2 := cell_of_row _ _ 2 _ _ _ sa; have s3 := cell_of_row _ _ 3 _ _ _ sa; go_simp; (first | done | with_reducible rfl)
      try simp only [Act.put, List.setIfInBounds_toArray, List.set_cons_zero, List.set_cons_succ]
      refine takeH2 1 40 (v := ?_) rfl rfl (by kernel_rfl) (by kernel_rfl) (by kernel_rfl) (fun _ _ _ h => h) (by rfl) (by assumption) ?_ ?_
      rotate_left
      · intro w hSw; obtain ⟨sa, sb⟩ := hSw; have s0 := cell_of_row _ _ 0 _ _ _ sb; have s1 := cell_of_row _ _ 1 _ _ _ sb; have s2 := cell_of_row _ _ 2 _ _ _ sb; have s3 := cell_of_row _ _ 3 _ _ _ sb; go_simp; (first | done | with_reducible rfl)
      try simp only [Act.put, List.setIfInBounds_toArray, List.set_cons_zero, List.set_cons_succ]
      have z0 : wq.frozen? ⟨w.heap.size, 0, none⟩ = false := frozen_of_row _ _ 0 _ _ HZq.out.1
      have z1 : wq.frozen? ⟨w.heap.size, 1, none⟩ = false := frozen_of_row _ _ 1 _ _ HZq.out.1
      have z2 : wq.frozen? ⟨w.heap.size, 2, none⟩ = false := frozen_of_row _ _ 2 _ _ HZq.out.1
      have z3 : wq.frozen? ⟨w.heap.size, 3, none⟩ = false := frozen_of_row _ _ 3 _ _ HZq.out.1
      have z0c := cell_of_row wq w.heap.size 0 _ _ _ HZq.out.1
      have z1c := cell_of_row wq w.heap.size 1 _ _ _ HZq.out.1
      have z2c := cell_of_row wq w.heap.size 2 _ _ _ HZq.out.1
      have z3c := cell_of_row wq w.heap.size 3 _ _ _ HZq.out.1
      have x0 : wq.frozen? ⟨(w.heap.size + 1), 0, none⟩ = false := frozen_of_row _ _ 0 _ _ HZq.out.2
      have x1 : wq.frozen? ⟨(w.heap.size + 1), 1, none⟩ = false := frozen_of_row _ _ 1 _ _ HZq.out.2
      have x2 : wq.frozen? ⟨(w.heap.size + 1), 2, none⟩ = false := frozen_of_row _ _ 2 _ _ HZq.out.2
      have x3 : wq.frozen? ⟨(w.heap.size + 1), 3, none⟩ = false := frozen_of_row _ _ 3 _ _ HZq.out.2
      have x0c := cell_of_row wq (w.heap.size + 1) 0 _ _ _ HZq.out.2
      have x1c := cell_of_row wq (w.heap.size + 1) 1 _ _ _ HZq.out.2
      have x2c := cell_of_row wq (w.heap.size + 1) 2 _ _ _ HZq.out.2
      have x3c := cell_of_row wq (w.heap.size + 1) 3 _ _ _ HZq.out.2
      refine wpAnyH_ready (rs := [2]) (by kernel_rfl) (by simp) ?_
      refine AllReadyH.cons rfl (fun K hK => ?_) AllReadyH.nil
      go_simp
      change K _ (set4 wq w.heap.size (.string nm) (.bool f) (.slice a2 n2 c2) (.slice a3 bd.length c3))
      refine hK.out _ _ ⟨(set4_far (by omega) _ _ _ _).trans HMq.out.1, (set4_far (by omega) _ _ _ _).trans HMq.out.2⟩ (fun hHeld => ?_)
      clear hK K
      try simp only [Act.put, List.setIfInBounds_toArray, List.set_cons_zero, List.set_cons_succ]
      have u0 : (set4 wq w.heap.size (.string nm) (.bool f) (.slice a2 n2 c2) (.slice a3 bd.length c3)).frozen? ⟨(w.heap.size + 1), 0, none⟩ = false := frozen_of_row _ _ 0 _ _ ((set4_far (by omega) _ _ _ _).trans HZq.out.2)
      have u1 : (set4 wq w.heap.size (.string nm) (.bool f) (.slice a2 n2 c2) (.slice a3 bd.length c3)).frozen? ⟨(w.heap.size + 1), 1, none⟩ = false := frozen_of_row _ _ 1 _ _ ((set4_far (by omega) _ _ _ _).trans HZq.out.2)
      have u2 : (set4 wq w.heap.size (.string nm) (.bool f) (.slice a2 n2 c2) (.slice a3 bd.length c3)).frozen? ⟨(w.heap.size + 1), 2, none⟩ = false := frozen_of_row _ _ 2 _ _ ((set4_far (by omega) _ _ _ _).trans HZq.out.2)
      have u3 : (set4 wq w.heap.size (.string nm) (.bool f) (.slice a2 n2 c2) (.slice a3 bd.length c3)).frozen? ⟨(w.heap.size + 1), 3, none⟩ = false := frozen_of_row _ _ 3 _ _ ((set4_far (by omega) _ _ _ _).trans HZq.out.2)
      have u0c := cell_of_row (set4 wq w.heap.size (.string nm) (.bool f) (.slice a2 n2 c2) (.slice a3 bd.length c3)) (w.heap.size + 1) 0 _ _ _ ((set4_far (by omega) _ _ _ _).trans HZq.out.2)
      have u1c := cell_of_row (set4 wq w.heap.size (.string nm) (.bool f) (.slice a2 n2 c2) (.slice a3 bd.length c3)) (w.heap.size + 1) 1 _ _ _ ((set4_far (by omega) _ _ _ _).trans HZq.out.2)
      have u2c := cell_of_row (set4 wq w.heap.size (.string nm) (.bool f) (.slice a2 n2 c2) (.slice a3 bd.length c3)) (w.heap.size + 1) 2 _ _ _ ((set4_far (by omega) _ _ _ _).trans HZq.out.2)
      have u3c := cell_of_row (set4 wq w.heap.size (.string nm) (.bool f) (.slice a2 n2 c2) (.slice a3 bd.length c3)) (w.heap.size + 1) 3 _ _ _ ((set4_far (by omega) _ _ _ _).trans HZq.out.2)
      refine wpAnyH_ready (rs := [3]) (by kernel_rfl) (by simp) ?_
      refine AllReadyH.cons rfl (fun K hK => ?_) AllReadyH.nil
      go_simp
      change K _ (set4 (set4 wq w.heap.size (.string nm) (.bool f) (.slice a2 n2 c2) (.slice a3 bd.length c3)) (w.heap.size + 1) (.string nm) (.bool f) (.slice a2 n2 c2) (.slice av X.length cv))
      refine hK.out _ _ ⟨(set4_far (by omega) _ _ _ _).trans ((set4_far (by omega) _ _ _ _).trans HMq.out.1), (set4_far (by omega) _ _ _ _).trans ((set4_far (by omega) _ _ _ _).trans HMq.out.2)⟩ (fun hHeld => ?_)
      clear hK K
      try simp only [Act.put, List.setIfInBounds_toArray, List.set_cons_zero, List.set_cons_succ]
      have HF := Lib.hid (two_ab HZq.out hne23 HTq.out HUq.out HNq.out HBq.out ⟨by omega, by omega⟩)
      refine wpAnyH_done (by kernel_rfl) ?_ _
      refine NoPanic.normal ?_
      clear hHeld
      go_wp2
      refine bodyPost_ret (results_two rfl _ _ w.heap.size (w.heap.size + 1) _ _ _ _ _ _ _ rfl rfl HF.out.1 HF.out.2.1 Try.underlying27 rfl (by kernel_rfl) (by kernel_rfl)) rfl ?_
      exact ⟨_, _, _, _, _, _, _, _, _, _, _, _, _, _, _, _, _, _, _, _, _, _, rfl, HF.out.2.2.1, HF.out.2.2.2.1, HNM.out.1, HF.out.2.2.2.2⟩
    have hlen : 1 < X.length := by omega
    have hX5 := HX5.out
    have hs6 := hb6.size
    rw [hX5] at hs6
    have far : ∀ b, b ≠ w4.heap.size → (w6.setCell ⟨w4.heap.size, 3, none⟩ (.slice av X.length cv)).heap[b]? = w6.heap[b]? := fun b hb => Below.heap_setCell _ _ _ _ hb
    have HZ7 : Hid ((w6.setCell ⟨w4.heap.size, 3, none⟩ (.slice av X.length cv)).heap[w.heap.size]? = some (.cells #[.string ⟨#[]⟩, .bool false, .slice none 0 0, .slice none 0 0] 27 (0, 0)) ∧ (w6.setCell ⟨w4.heap.size, 3, none⟩ (.slice av X.length cv)).heap[w.heap.size + 1]? = some (.cells #[.string ⟨#[]⟩, .bool false, .slice none 0 0, .slice none 0 0] 27 (0, 0))) := ⟨(far _ (by omega)).trans (mbox HZ5.out.1 hb6), (far _ (by omega)).trans (mbox HZ5.out.2 hb6)⟩
    have HM7 := Lib.hid ((far w2.heap.size (by omega)).trans (mbox HM5.out hb6))
    have HB7 : Hid ((w6.setCell ⟨w4.heap.size, 3, none⟩ (.slice av X.length cv)).heap[w4.heap.size]? = some (.cells #[.string nm, .bool f, .slice a2 n2 c2, .slice av X.length cv] 27 (0, 0))) := blk_set HB6.out 3 _
    have HT7 : Hid (sMacro.R (w6.setCell ⟨w4.heap.size, 3, none⟩ (.slice av X.length cv)) [.string nm, .bool f, .slice a2 n2 c2, .slice a3 bd.length c3] ⟨nm, f, ps, bd⟩ fpa) := sMacro.frame (fun b hb => far b (by have := (HLO.out b hb).2; omega)) (sMacro.below HT5.out hb6)
    have HK27 : Hid ((sSlice sStr).R (w6.setCell ⟨w4.heap.size, 3, none⟩ (.slice av X.length cv)) [.slice a2 n2 c2] ps fa2) := (sSlice sStr).frame (fun b hb => far b (by have := (hF2.out b hb).2; omega)) ((sSlice sStr).below HK2.out hb6)
    have HR7 := Lib.hid (rdSet (HR5.out.grow hb6) (g := w4.heap.size) (by omega) 3 (.slice av X.length cv))
    have HW7 := Lib.hid ((HW5.out.trans (hb6.mono HW5.out.size)).setCell (p := ⟨w4.heap.size, 3, none⟩) (by show w.heap.size ≤ w4.heap.size; omega) (.slice av X.length cv))
    have HG7 : Hid (RowG sTok (w4.heap.size + 1) 59 (.slice av X.length cv) X (w6.setCell ⟨w4.heap.size, 3, none⟩ (.slice av X.length cv))) := by
      have h1 := HA.out.1
      exact h1.same (fun g hg => far g (by have := h1.mine g hg; omega)) (fun x hx b hb => far b (by have := (hF3.out b (HA.out.2.2.1 x hx b hb)).2; omega))
    have HXF : Hid (∀ x ∈ X, ∀ b ∈ x.fp, b ∈ fa3) := HA.out.2.2.1
    have hs7 : (w6.setCell ⟨w4.heap.size, 3, none⟩ (.slice av X.length cv)).heap.size = w6.heap.size := by simp
    have HS7 := Lib.hid hs7
    clear far hb6 HA HZ5 HM5 HB5 HB6 HT5 HK2 HK3 HK3' HR5 HW5 HG5 HX5 f3 f3c hs7
    clear y0 y1 y2 y3
    generalize (w6.setCell ⟨w4.heap.size, 3, none⟩ (.slice av X.length cv)) = w7 at *
    have hs7 := HS7.out
    clear HS7
    refine (pick rb (q + 1) _ _ HR7.out (by omega) (by omega) (by omega)).mono ?_
    rintro e w8 ⟨r2, rfl, hr20, hr21, hR8, hK8⟩
    have hs8 := hK8.size
    have HZ8 : Hid (w8.heap[w.heap.size]? = some (.cells #[.string ⟨#[]⟩, .bool false, .slice none 0 0, .slice none 0 0] 27 (0, 0)) ∧ w8.heap[w.heap.size + 1]? = some (.cells #[.string ⟨#[]⟩, .bool false, .slice none 0 0, .slice none 0 0] 27 (0, 0))) := ⟨blkKept HZ7.out.1 hK8 (by omega), blkKept HZ7.out.2 hK8 (by omega)⟩
    have HM8 := Lib.hid (blkKept HM7.out hK8 (by omega))
    have HB8 := Lib.hid (blkKept HB7.out hK8 (by omega))
    have HT8 := Lib.hid (sMacro.kept HT7.out (fun b hb hx => by have h1 := (HLO.out b hb).1; have h2 : b = rb := (by simpa using hx); omega) hK8)
    have HK28 := Lib.hid ((sSlice sStr).kept HK27.out (fun b hb hx => by have h1 := (hF2.out b hb).1; have h2 : b = rb := (by simpa using hx); omega) hK8)
    have HW8 := Lib.hid (kept_below HW7.out hK8 (by omega) HW7.out.size)
    have HG8 := Lib.hid (HG7.out.kept hK8 (fun g hg hx => by have h1 := HG7.out.mine g hg; have h2 : g = rb := (by simpa using hx); omega) (fun x hx b hb hy => by have h1 := (hF3.out b (HXF.out x hx b hb)).1; have h2 : b = rb := (by simpa using hy); omega))
    clear HZ7 HM7 HB7 HT7 HK27 HW7 HG7 HR7 hK8 hR8
    by_cases hr2 : r2 = 0
    rotate_left
    · have hr2' : (r2 == 0) = false := by simp [hr2]
      clear hr2
      go_wp2_with fail
      obtain ⟨fpx, RX, hfx, -⟩ := HG8.out.read
      have HX8 := Lib.hid (And.intro RX hfx)
      clear RX hfx
      have hd : Below w8.heap.size w8 w8.drew := belowN (Below.refl _ _) 1
      refine wp_region_noPanic ?_
      refine wp_region_held_drew (S := fun w' => w'.heap[w2.heap.size]? = some (.cells #[.string nm, .bool f, .slice a2 n2 c2, .slice a3 bd.length c3] 27 (0, 0)) ∧ w'.heap[w4.heap.size]? = some (.cells #[.string nm, .bool f, .slice a2 n2 c2, .slice av X.length cv] 27 (0, 0))) (by kernel_rfl) (by exact ⟨HM8.out, HB8.out⟩) (fun hHeld => ?_)
      have HZq := Lib.hid (show w8.drew.heap[w.heap.size]? = _ ∧ w8.drew.heap[w.heap.size + 1]? = _ from HZ8.out)
      have HMq := Lib.hid (show w8.drew.heap[w2.heap.size]? = _ ∧ w8.drew.heap[w4.heap.size]? = _ from ⟨HM8.out, HB8.out⟩)
      have HTq := Lib.hid (sMacro.below HT8.out hd)
      have HUq : Hid (sMacro.R w8.drew [.string nm, .bool f, .slice a2 n2 c2, .slice av X.length cv] ⟨nm, f, ps, X.map (·.d)⟩ (fa2 ++ fpx)) := ⟨_, _, fa2, fpx, rfl, HOKN.out, (sSlice sStr).below HK28.out hd, (sSlice sTok).below HX8.out.1 hd, rfl⟩
      have HNq : Hid (w.heap.size ∉ fpa ∧ w.heap.size + 1 ∉ fpa ∧ w.heap.size ∉ fa2 ++ fpx ∧ w.heap.size + 1 ∉ fa2 ++ fpx) := by
        have k1 : ∀ b ∈ fa2 ++ fpx, rb < b := fun b hb => by
          rcases List.mem_append.1 hb with hb | hb
          · exact (hF2.out b hb).1
          · rcases HX8.out.2 b hb with h | ⟨x, hx, h⟩
            · have := HG8.out.mine b h; omega
            · exact (hF3.out b (HXF.out x hx b h)).1
        exact ⟨fun hx => by have := (HLO.out _ hx).1; omega, fun hx => by have := (HLO.out _ hx).1; omega, fun hx => by have := k1 _ hx; omega, fun hx => by have := k1 _ hx; omega⟩
      have HBq := Lib.hid (HW8.out.trans (hd.mono HW8.out.size))
      clear HZ8 HM8 HB8 HT8 HG8 HK28 HX8 hd
      generalize w8.drew = wq at *
      refine takeH2 0 39 (v := ?_) rfl rfl (by kernel_rfl) (by kernel_rfl) (by kernel_rfl) (fun _ _ _ h => h) (by rfl) (by assumption) ?_ ?_
      rotate_left
      · intro w hSw; obtain ⟨sa, sb⟩ := hSw; have s0 := cell_of_row _ _ 0 _ _ _ sa; have s1 := cell_of_row _ _ 1 _ _ _ sa; have s2 := cell_of_row _ _ 2 _ _ _ sa; have s3 := cell_of_row _ _ 3 _ _ _ sa; go_simp; (first | done | with_reducible rfl)
      try simp only [Act.put, List.setIfInBounds_toArray, List.set_cons_zero, List.set_cons_succ]
      refine takeH2 1 40 (v := ?_) rfl rfl (by kernel_rfl) (by kernel_rfl) (by kernel_rfl) (fun _ _ _ h => h) (by rfl) (by assumption) ?_ ?_
      rotate_left
      · intro w hSw; obtain ⟨sa, sb⟩ := hSw; have s0 := cell_of_row _ _ 0 _ _ _ sb; have s1 := cell_of_row _ _ 1 _ _ _ sb; have s2 := cell_of_row _ _ 2 _ _ _ sb; have s3 := cell_of_row _ _ 3 _ _ _ sb; go_simp; (first | done | with_reducible rfl)
      try simp only [Act.put, List.setIfInBounds_toArray, List.set_cons_zero, List.set_cons_succ]
      have z0 : wq.frozen? ⟨w.heap.size, 0, none⟩ = false := frozen_of_row _ _ 0 _ _ HZq.out.1
      have z1 : wq.frozen? ⟨w.heap.size, 1, none⟩ = false := frozen_of_row _ _ 1 _ _ HZq.out.1
      have z2 : wq.frozen? ⟨w.heap.size, 2, none⟩ = false := frozen_of_row _ _ 2 _ _ HZq.out.1
      have z3 : wq.frozen? ⟨w.heap.size, 3, none⟩ = false := frozen_of_row _ _ 3 _ _ HZq.out.1
      have z0c := cell_of_row wq w.heap.size 0 _ _ _ HZq.out.1
      have z1c := cell_of_row wq w.heap.size 1 _ _ _ HZq.out.1
      have z2c := cell_of_row wq w.heap.size 2 _ _ _ HZq.out.1
      have z3c := cell_of_row wq w.heap.size 3 _ _ _ HZq.out.1
      have x0 : wq.frozen? ⟨(w.heap.size + 1), 0, none⟩ = false := frozen_of_row _ _ 0 _ _ HZq.out.2
      have x1 : wq.frozen? ⟨(w.heap.size + 1), 1, none⟩ = false := frozen_of_row _ _ 1 _ _ HZq.out.2
      have x2 : wq.frozen? ⟨(w.heap.size + 1), 2, none⟩ = false := frozen_of_row _ _ 2 _ _ HZq.out.2
      have x3 : wq.frozen? ⟨(w.heap.size + 1), 3, none⟩ = false := frozen_of_row _ _ 3 _ _ HZq.out.2
      have x0c := cell_of_row wq (w.heap.size + 1) 0 _ _ _ HZq.out.2
      have x1c := cell_of_row wq (w.heap.size + 1) 1 _ _ _ HZq.out.2
      have x2c := cell_of_row wq (w.heap.size + 1) 2 _ _ _ HZq.out.2
      have x3c := cell_of_row wq (w.heap.size + 1) 3 _ _ _ HZq.out.2
      refine wpAnyH_ready (rs := [2]) (by kernel_rfl) (by simp) ?_
      refine AllReadyH.cons rfl (fun K hK => ?_) AllReadyH.nil
      go_simp
      change K _ (set4 wq w.heap.size (.string nm) (.bool f) (.slice a2 n2 c2) (.slice a3 bd.length c3))
      refine hK.out _ _ ⟨(set4_far (by omega) _ _ _ _).trans HMq.out.1, (set4_far (by omega) _ _ _ _).trans HMq.out.2⟩ (fun hHeld => ?_)
      clear hK K
      try simp only [Act.put, List.setIfInBounds_toArray, List.set_cons_zero, List.set_cons_succ]
      have u0 : (set4 wq w.heap.size (.string nm) (.bool f) (.slice a2 n2 c2) (.slice a3 bd.length c3)).frozen? ⟨(w.heap.size + 1), 0, none⟩ = false := frozen_of_row _ _ 0 _ _ ((set4_far (by omega) _ _ _ _).trans HZq.out.2)
      have u1 : (set4 wq w.heap.size (.string nm) (.bool f) (.slice a2 n2 c2) (.slice a3 bd.length c3)).frozen? ⟨(w.heap.size + 1), 1, none⟩ = false := frozen_of_row _ _ 1 _ _ ((set4_far (by omega) _ _ _ _).trans HZq.out.2)
      have u2 : (set4 wq w.heap.size (.string nm) (.bool f) (.slice a2 n2 c2) (.slice a3 bd.length c3)).frozen? ⟨(w.heap.size + 1), 2, none⟩ = false := frozen_of_row _ _ 2 _ _ ((set4_far (by omega) _ _ _ _).trans HZq.out.2)
      have u3 : (set4 wq w.heap.size (.string nm) (.bool f) (.slice a2 n2 c2) (.slice a3 bd.length c3)).frozen? ⟨(w.heap.size + 1), 3, none⟩ = false := frozen_of_row _ _ 3 _ _ ((set4_far (by omega) _ _ _ _).trans HZq.out.2)
      have u0c := cell_of_row (set4 wq w.heap.size (.string nm) (.bool f) (.slice a2 n2 c2) (.slice a3 bd.length c3)) (w.heap.size + 1) 0 _ _ _ ((set4_far (by omega) _ _ _ _).trans HZq.out.2)
      have u1c := cell_of_row (set4 wq w.heap.size (.string nm) (.bool f) (.slice a2 n2 c2) (.slice a3 bd.length c3)) (w.heap.size + 1) 1 _ _ _ ((set4_far (by omega) _ _ _ _).trans HZq.out.2)
      have u2c := cell_of_row (set4 wq w.heap.size (.string nm) (.bool f) (.slice a2 n2 c2) (.slice a3 bd.length c3)) (w.heap.size + 1) 2 _ _ _ ((set4_far (by omega) _ _ _ _).trans HZq.out.2)
      have u3c := cell_of_row (set4 wq w.heap.size (.string nm) (.bool f) (.slice a2 n2 c2) (.slice a3 bd.length c3)) (w.heap.size + 1) 3 _ _ _ ((set4_far (by omega) _ _ _ _).trans HZq.out.2)
      refine wpAnyH_ready (rs := [3]) (by kernel_rfl) (by simp) ?_
      refine AllReadyH.cons rfl (fun K hK => ?_) AllReadyH.nil
      go_simp
      change K _ (set4 (set4 wq w.heap.size (.string nm) (.bool f) (.slice a2 n2 c2) (.slice a3 bd.length c3)) (w.heap.size + 1) (.string nm) (.bool f) (.slice a2 n2 c2) (.slice av X.length cv))
      refine hK.out _ _ ⟨(set4_far (by omega) _ _ _ _).trans ((set4_far (by omega) _ _ _ _).trans HMq.out.1), (set4_far (by omega) _ _ _ _).trans ((set4_far (by omega) _ _ _ _).trans HMq.out.2)⟩ (fun hHeld => ?_)
      clear hK K
      try simp only [Act.put, List.setIfInBounds_toArray, List.set_cons_zero, List.set_cons_succ]
      have HF := Lib.hid (two_ab HZq.out hne23 HTq.out HUq.out HNq.out HBq.out ⟨by omega, by omega⟩)
      refine wpAnyH_done (by kernel_rfl) ?_ _
      refine NoPanic.normal ?_
      clear hHeld
      go_wp2
      refine bodyPost_ret (results_two rfl _ _ w.heap.size (w.heap.size + 1) _ _ _ _ _ _ _ rfl rfl HF.out.1 HF.out.2.1 Try.underlying27 rfl (by kernel_rfl) (by kernel_rfl)) rfl ?_
      exact ⟨_, _, _, _, _, _, _, _, _, _, _, _, _, _, _, _, _, _, _, _, _, _, rfl, HF.out.2.2.1, HF.out.2.2.2.1, HNM.out.1, HF.out.2.2.2.2⟩
    have hr2' : (r2 == 0) = true := by simp [hr2]
    clear hr2
    obtain ⟨g, rfl, hgb, -⟩ := hpv (by show 0 < X.length; omega)
    have e3 : w8.cell? ⟨w4.heap.size, 3, none⟩ = some (.slice (some ⟨g, 0, none⟩) X.length cv) := cell_of_row _ _ 3 _ _ _ HB8.out
    obtain ⟨hh, hcs, hki, hks, hKh⟩ := HG8.out.el _ (List.getElem_mem hlen)
    have c2 : w8.cell? ⟨g, 6, none⟩ = some (.bool X[1].d.spaced) := HG8.out.cellAt hlen (j := 2) (by decide) (by rw [hcs]; rfl)
    have f2 : w8.frozen? ⟨g, 6, none⟩ = false := HG8.out.frozen 6
    have HCS := Lib.hid (And.intro hcs (And.intro hki (And.intro hks hKh)))
    clear hcs hki hks hKh
    have hx1 : (1 : Int) < (X.length : Int) := by omega
    go_wp2_with fail
    go_still_tail 10, (by kernel_rfl)
    change wpList _ _ _ _ _ w8.drew
    have hd : Below w8.heap.size w8 w8.drew := belowN (Below.refl _ _) 1
    have HZ8d := Lib.hid (show w8.drew.heap[w.heap.size]? = _ ∧ w8.drew.heap[w.heap.size + 1]? = _ from HZ8.out)
    have HM8d := Lib.hid (show w8.drew.heap[w2.heap.size]? = _ from HM8.out)
    have HB8d := Lib.hid (show w8.drew.heap[w4.heap.size]? = _ from HB8.out)
    have HT8d := Lib.hid (sMacro.below HT8.out hd)
    have HK28d := Lib.hid ((sSlice sStr).below HK28.out hd)
    have HW8d := Lib.hid (HW8.out.trans (hd.mono HW8.out.size))
    have HG8d := Lib.hid (HG8.out.below hd)
    have f2d : w8.drew.frozen? ⟨g, 6, none⟩ = false := f2
    have c2d : w8.drew.cell? ⟨g, 6, none⟩ = some (.bool X[1].d.spaced) := c2
    have HCSd : Hid (sTok.R w8.drew [.int .i64 X[1].d.kind, .string X[1].d.text, .bool (!X[1].d.spaced), hh] ⟨X[1].d.kind, X[1].d.text, !X[1].d.spaced, X[1].d.hidden⟩ X[1].fp) := ⟨hh, rfl, HCS.out.2.1, HCS.out.2.2.1, (sSlice sStr).below HCS.out.2.2.2 hd⟩
    clear HZ8 HM8 HB8 HT8 HK28 HW8 HG8 hd c2 f2 e3
    generalize w8.drew = wd at *
    have far : ∀ b, b ≠ g → (wd.setCell ⟨g, 6, none⟩ (.bool (!X[1].d.spaced))).heap[b]? = wd.heap[b]? := fun b hb => Below.heap_setCell _ _ _ _ hb
    have HZ9 : Hid ((wd.setCell ⟨g, 6, none⟩ (.bool (!X[1].d.spaced))).heap[w.heap.size]? = some (.cells #[.string ⟨#[]⟩, .bool false, .slice none 0 0, .slice none 0 0] 27 (0, 0)) ∧ (wd.setCell ⟨g, 6, none⟩ (.bool (!X[1].d.spaced))).heap[w.heap.size + 1]? = some (.cells #[.string ⟨#[]⟩, .bool false, .slice none 0 0, .slice none 0 0] 27 (0, 0))) := ⟨(far _ (by omega)).trans HZ8d.out.1, (far _ (by omega)).trans HZ8d.out.2⟩
    have HM9 := Lib.hid ((far w2.heap.size (by omega)).trans HM8d.out)
    have HB9 := Lib.hid ((far w4.heap.size (by omega)).trans HB8d.out)
    have HT9 : Hid (sMacro.R (wd.setCell ⟨g, 6, none⟩ (.bool (!X[1].d.spaced))) [.string nm, .bool f, .slice a2 n2 c2, .slice a3 bd.length c3] ⟨nm, f, ps, bd⟩ fpa) := sMacro.frame (fun b hb => far b (by have := (HLO.out b hb).2; omega)) HT8d.out
    have HK29 : Hid ((sSlice sStr).R (wd.setCell ⟨g, 6, none⟩ (.bool (!X[1].d.spaced))) [.slice a2 n2 c2] ps fa2) := (sSlice sStr).frame (fun b hb => far b (by have := (hF2.out b hb).2; omega)) HK28d.out
    have HW9 := Lib.hid (HW8d.out.setCell (p := ⟨g, 6, none⟩) (by show w.heap.size ≤ g; omega) (.bool (!X[1].d.spaced)))
    have HG9 : Hid (RowG sTok (w4.heap.size + 1) 59 (.slice (some ⟨g, 0, none⟩) X.length cv) (X.set 1 ⟨[.int .i64 X[1].d.kind, .string X[1].d.text, .bool (!X[1].d.spaced), hh], ⟨X[1].d.kind, X[1].d.text, !X[1].d.spaced, X[1].d.hidden⟩, X[1].fp⟩) (wd.setCell ⟨g, 6, none⟩ (.bool (!X[1].d.spaced)))) := HG8d.out.set hlen (j := 2) (by decide) (.bool (!X[1].d.spaced)) ⟨[.int .i64 X[1].d.kind, .string X[1].d.text, .bool (!X[1].d.spaced), hh], ⟨X[1].d.kind, X[1].d.text, !X[1].d.spaced, X[1].d.hidden⟩, X[1].fp⟩ (by rw [HCS.out.1]; rfl) HCSd.out (fun b hb => HG8d.out.hi X[1] (List.getElem_mem hlen) b hb)
    have HXF9 : Hid (∀ x ∈ X.set 1 ⟨[.int .i64 X[1].d.kind, .string X[1].d.text, .bool (!X[1].d.spaced), hh], ⟨X[1].d.kind, X[1].d.text, !X[1].d.spaced, X[1].d.hidden⟩, X[1].fp⟩, ∀ b ∈ x.fp, b ∈ fa3) := fun x hx b hb => by
      rcases List.mem_or_eq_of_mem_set hx with h | h
      · exact HXF.out x h b hb
      · subst h; exact HXF.out _ (List.getElem_mem hlen) b hb
    clear far HZ8d HM8d HB8d HT8d HK28d HW8d HG8d HCS HCSd hx1
    go_wp2_with fail
    clear f2d c2d
    generalize X.set 1 _ = X9 at *
    generalize (wd.setCell ⟨g, 6, none⟩ (.bool (!X[1].d.spaced))) = w9 at *
    obtain ⟨fpx, RX, hfx, -⟩ := HG9.out.read
    have HX9 := Lib.hid (And.intro RX hfx)
    clear RX hfx
    have hd : Below w9.heap.size w9 w9.drew := belowN (Below.refl _ _) 1
    refine wp_region_noPanic ?_
    refine wp_region_held_drew (S := fun w' => w'.heap[w2.heap.size]? = some (.cells #[.string nm, .bool f, .slice a2 n2 c2, .slice a3 bd.length c3] 27 (0, 0)) ∧ w'.heap[w4.heap.size]? = some (.cells #[.string nm, .bool f, .slice a2 n2 c2, .slice (some ⟨g, 0, none⟩) X.length cv] 27 (0, 0))) (by kernel_rfl) (by exact ⟨HM9.out, HB9.out⟩) (fun hHeld => ?_)
    have HZq := Lib.hid (show w9.drew.heap[w.heap.size]? = _ ∧ w9.drew.heap[w.heap.size + 1]? = _ from HZ9.out)
    have HMq := Lib.hid (show w9.drew.heap[w2.heap.size]? = _ ∧ w9.drew.heap[w4.heap.size]? = _ from ⟨HM9.out, HB9.out⟩)
    have HTq := Lib.hid (sMacro.below HT9.out hd)
    have HUq : Hid (sMacro.R w9.drew [.string nm, .bool f, .slice a2 n2 c2, .slice (some ⟨g, 0, none⟩) X.length cv] ⟨nm, f, ps, X9.map (·.d)⟩ (fa2 ++ fpx)) := ⟨_, _, fa2, fpx, rfl, HOKN.out, (sSlice sStr).below HK29.out hd, (sSlice sTok).below HX9.out.1 hd, rfl⟩
    have HNq : Hid (w.heap.size ∉ fpa ∧ w.heap.size + 1 ∉ fpa ∧ w.heap.size ∉ fa2 ++ fpx ∧ w.heap.size + 1 ∉ fa2 ++ fpx) := by
      have k1 : ∀ b ∈ fa2 ++ fpx, rb < b := fun b hb => by
        rcases List.mem_append.1 hb with hb | hb
        · exact (hF2.out b hb).1
        · rcases HX9.out.2 b hb with h | ⟨x, hx, h⟩
          · have := HG9.out.mine b h; omega
          · exact (hF3.out b (HXF9.out x hx b h)).1
      exact ⟨fun hx => by have := (HLO.out _ hx).1; omega, fun hx => by have := (HLO.out _ hx).1; omega, fun hx => by have := k1 _ hx; omega, fun hx => by have := k1 _ hx; omega⟩
    have HBq := Lib.hid (HW9.out.trans (hd.mono HW9.out.size))
    clear HZ9 HM9 HB9 HT9 HG9 HK29 HX9 hd
    generalize w9.drew = wq at *
    refine takeH2 0 39 (v := ?_) rfl rfl (by kernel_rfl) (by kernel_rfl) (by kernel_rfl) (fun _ _ _ h => h) (by rfl) (by assumption) ?_ ?_
    rotate_left
    · intro w hSw; obtain ⟨sa, sb⟩ := hSw; have s0 := cell_of_row _ _ 0 _ _ _ sa; have s1 := cell_of_row _ _ 1 _ _ _ sa; have s2 := cell_of_row _ _ 2 _ _ _ sa; have s3 := cell_of_row _ _ 3 _ _ _ sa; go_simp; (first | done | with_reducible rfl)
    try simp only [Act.put, List.setIfInBounds_toArray, List.set_cons_zero, List.set_cons_succ]
    refine takeH2 1 40 (v := ?_) rfl rfl (by kernel_rfl) (by kernel_rfl) (by kernel_rfl) (fun _ _ _ h => h) (by rfl) (by assumption) ?_ ?_
    rotate_left
    · intro w hSw; obtain ⟨sa, sb⟩ := hSw; have s0 := cell_of_row _ _ 0 _ _ _ sb; have s1 := cell_of_row _ _ 1 _ _ _ sb; have s2 := cell_of_row _ _ 2 _ _ _ sb; have s3 := cell_of_row _ _ 3 _ _ _ sb; go_simp; (first | done | with_reducible rfl)
    try simp only [Act.put, List.setIfInBounds_toArray, List.set_cons_zero, List.set_cons_succ]
    have z0 : wq.frozen? ⟨w.heap.size, 0, none⟩ = false := frozen_of_row _ _ 0 _ _ HZq.out.1
    have z1 : wq.frozen? ⟨w.heap.size, 1, none⟩ = false := frozen_of_row _ _ 1 _ _ HZq.out.1
    have z2 : wq.frozen? ⟨w.heap.size, 2, none⟩ = false := frozen_of_row _ _ 2 _ _ HZq.out.1
    have z3 : wq.frozen? ⟨w.heap.size, 3, none⟩ = false := frozen_of_row _ _ 3 _ _ HZq.out.1
    have z0c := cell_of_row wq w.heap.size 0 _ _ _ HZq.out.1
    have z1c := cell_of_row wq w.heap.size 1 _ _ _ HZq.out.1
    have z2c := cell_of_row wq w.heap.size 2 _ _ _ HZq.out.1
    have z3c := cell_of_row wq w.heap.size 3 _ _ _ HZq.out.1
    have x0 : wq.frozen? ⟨(w.heap.size + 1), 0, none⟩ = false := frozen_of_row _ _ 0 _ _ HZq.out.2
    have x1 : wq.frozen? ⟨(w.heap.size + 1), 1, none⟩ = false := frozen_of_row _ _ 1 _ _ HZq.out.2
    have x2 : wq.frozen? ⟨(w.heap.size + 1), 2, none⟩ = false := frozen_of_row _ _ 2 _ _ HZq.out.2
    have x3 : wq.frozen? ⟨(w.heap.size + 1), 3, none⟩ = false := frozen_of_row _ _ 3 _ _ HZq.out.2
    have x0c := cell_of_row wq (w.heap.size + 1) 0 _ _ _ HZq.out.2
    have x1c := cell_of_row wq (w.heap.size + 1) 1 _ _ _ HZq.out.2
    have x2c := cell_of_row wq (w.heap.size + 1) 2 _ _ _ HZq.out.2
    have x3c := cell_of_row wq (w.heap.size + 1) 3 _ _ _ HZq.out.2
    refine wpAnyH_ready (rs := [2]) (by kernel_rfl) (by simp) ?_
    refine AllReadyH.cons rfl (fun K hK => ?_) AllReadyH.nil
    go_simp
    change K _ (set4 wq w.heap.size (.string nm) (.bool f) (.slice a2 n2 c2) (.slice a3 bd.length c3))
    refine hK.out _ _ ⟨(set4_far (by omega) _ _ _ _).trans HMq.out.1, (set4_far (by omega) _ _ _ _).trans HMq.out.2⟩ (fun hHeld => ?_)
    clear hK K
    try simp only [Act.put, List.setIfInBounds_toArray, List.set_cons_zero, List.set_cons_succ]
    have u0 : (set4 wq w.heap.size (.string nm) (.bool f) (.slice a2 n2 c2) (.slice a3 bd.length c3)).frozen? ⟨(w.heap.size + 1), 0, none⟩ = false := frozen_of_row _ _ 0 _ _ ((set4_far (by omega) _ _ _ _).trans HZq.out.2)
    have u1 : (set4 wq w.heap.size (.string nm) (.bool f) (.slice a2 n2 c2) (.slice a3 bd.length c3)).frozen? ⟨(w.heap.size + 1), 1, none⟩ = false := frozen_of_row _ _ 1 _ _ ((set4_far (by omega) _ _ _ _).trans HZq.out.2)
    have u2 : (set4 wq w.heap.size (.string nm) (.bool f) (.slice a2 n2 c2) (.slice a3 bd.length c3)).frozen? ⟨(w.heap.size + 1), 2, none⟩ = false := frozen_of_row _ _ 2 _ _ ((set4_far (by omega) _ _ _ _).trans HZq.out.2)
    have u3 : (set4 wq w.heap.size (.string nm) (.bool f) (.slice a2 n2 c2) (.slice a3 bd.length c3)).frozen? ⟨(w.heap.size + 1), 3, none⟩ = false := frozen_of_row _ _ 3 _ _ ((set4_far (by omega) _ _ _ _).trans HZq.out.2)
    have u0c := cell_of_row (set4 wq w.heap.size (.string nm) (.bool f) (.slice a2 n2 c2) (.slice a3 bd.length c3)) (w.heap.size + 1) 0 _ _ _ ((set4_far (by omega) _ _ _ _).trans HZq.out.2)
    have u1c := cell_of_row (set4 wq w.heap.size (.string nm) (.bool f) (.slice a2 n2 c2) (.slice a3 bd.length c3)) (w.heap.size + 1) 1 _ _ _ ((set4_far (by omega) _ _ _ _).trans HZq.out.2)
    have u2c := cell_of_row (set4 wq w.heap.size (.string nm) (.bool f) (.slice a2 n2 c2) (.slice a3 bd.length c3)) (w.heap.size + 1) 2 _ _ _ ((set4_far (by omega) _ _ _ _).trans HZq.out.2)
    have u3c := cell_of_row (set4 wq w.heap.size (.string nm) (.bool f) (.slice a2 n2 c2) (.slice a3 bd.length c3)) (w.heap.size + 1) 3 _ _ _ ((set4_far (by omega) _ _ _ _).trans HZq.out.2)
    refine wpAnyH_ready (rs := [3]) (by kernel_rfl) (by simp) ?_
    refine AllReadyH.cons rfl (fun K hK => ?_) AllReadyH.nil
    go_simp
    change K _ (set4 (set4 wq w.heap.size (.string nm) (.bool f) (.slice a2 n2 c2) (.slice a3 bd.length c3)) (w.heap.size + 1) (.string nm) (.bool f) (.slice a2 n2 c2) (.slice (some ⟨g, 0, none⟩) X.length cv))
    refine hK.out _ _ ⟨(set4_far (by omega) _ _ _ _).trans ((set4_far (by omega) _ _ _ _).trans HMq.out.1), (set4_far (by omega) _ _ _ _).trans ((set4_far (by omega) _ _ _ _).trans HMq.out.2)⟩ (fun hHeld => ?_)
    clear hK K
    try simp only [Act.put, List.setIfInBounds_toArray, List.set_cons_zero, List.set_cons_succ]
    have HF := Lib.hid (two_ab HZq.out hne23 HTq.out HUq.out HNq.out HBq.out ⟨by omega, by omega⟩)
    refine wpAnyH_done (by kernel_rfl) ?_ _
    refine NoPanic.normal ?_
    clear hHeld
    go_wp2
    refine bodyPost_ret (results_two rfl _ _ w.heap.size (w.heap.size + 1) _ _ _ _ _ _ _ rfl rfl HF.out.1 HF.out.2.1 Try.underlying27 rfl (by kernel_rfl) (by kernel_rfl)) rfl ?_
    exact ⟨_, _, _, _, _, _, _, _, _, _, _, _, _, _, _, _, _, _, _, _, _, _, rfl, HF.out.2.2.1, HF.out.2.2.2.1, HNM.out.1, HF.out.2.2.2.2⟩
  · have hr' : (r == 0) = false := by simp [hr]
    clear hr
    go_wp2_with fail
    have hd : Below w4.heap.size w4 w4.drew := belowN (Below.refl _ _) 1
    refine wp_region_noPanic ?_
    refine wp_region_held_drew (S := fun w' => w'.heap[w2.heap.size]? = some (.cells #[.string nm, .bool f, .slice a2 n2 c2, .slice a3 n3 c3] 27 (0, 0))) (by kernel_rfl) (by exact HM4.out) (fun hHeld => ?_)
    have HZ5 := Lib.hid (show w4.drew.heap[w.heap.size]? = _ ∧ w4.drew.heap[w.heap.size + 1]? = _ from HZ4.out)
    have HT5 := Lib.hid (sMacro.below HT4.out hd)
    have HB5 := Lib.hid (HB4.out.trans (hd.mono HB4.out.size))
    have HR5 := Lib.hid (HR4.out.grow hd)
    have hs5 : w2.heap.size + 1 ≤ w4.drew.heap.size := hs4
    clear y0 y1 y2 y3 HM4 HZ4 HT4 HB4 HR4 hd
    generalize w4.drew = w5 at *
    refine takeH2 0 41 (v := ?_) rfl rfl (by kernel_rfl) (by kernel_rfl) (by kernel_rfl) (fun _ _ _ h => h) (by rfl) (by assumption) ?_ ?_
    rotate_left
    · intro w hSw; have s0 := cell_of_row _ _ 0 _ _ _ hSw; have s1 := cell_of_row _ _ 1 _ _ _ hSw; have s2 := cell_of_row _ _ 2 _ _ _ hSw; have s3 := cell_of_row _ _ 3 _ _ _ hSw; go_simp; (first | done | with_reducible rfl)
    try simp only [Act.put, List.setIfInBounds_toArray, List.set_cons_zero, List.set_cons_succ]
    refine takeH2 1 42 (v := ?_) rfl rfl (by kernel_rfl) (by kernel_rfl) (by kernel_rfl) (fun _ _ _ h => h) (by rfl) (by assumption) ?_ ?_
    rotate_left
    · intro w hSw; skip; go_simp; (first | done | with_reducible rfl)
    try simp only [Act.put, List.setIfInBounds_toArray, List.set_cons_zero, List.set_cons_succ]
    refine wpAnyH_ready (rs := [2]) (by kernel_rfl) (by simp) ?_
    refine AllReadyH.cons rfl (fun K hK => ?_) AllReadyH.nil
    · go_simp
      refine (l20Macro rb (q + 1) _ _ HR5.out (by omega) (by omega) (by omega)).mono ?_
      rintro e w6 ⟨nm', f', a2', a3', n2', c2', n3', c3', ps', bd', fpb, q', rfl, hT', -, hlo', -, -, hK'⟩
      have hs6 := hK'.size
      have HZ6 : Hid (w6.heap[w.heap.size]? = some (.cells #[.string ⟨#[]⟩, .bool false, .slice none 0 0, .slice none 0 0] 27 (0, 0)) ∧ w6.heap[w.heap.size + 1]? = some (.cells #[.string ⟨#[]⟩, .bool false, .slice none 0 0, .slice none 0 0] 27 (0, 0))) := ⟨blkKept HZ5.out.1 hK' (by omega), blkKept HZ5.out.2 hK' (by omega)⟩
      have HT6 := Lib.hid (sMacro.kept HT5.out (fun b hb hx => by have h1 := (HLO.out b hb).1; have h2 : b = rb := (by simpa using hx); omega) hK')
      have HB6 := Lib.hid (kept_below HB5.out hK' (by omega) HB5.out.size)
      have HM6 := Lib.hid (blkKept hHeld hK' (by omega))
      have HN6 : Hid (w.heap.size ∉ fpa ∧ w.heap.size + 1 ∉ fpa ∧ w.heap.size ∉ fpb ∧ w.heap.size + 1 ∉ fpb) := ⟨fun hx => by have := (HLO.out _ hx).1; omega, fun hx => by have := (HLO.out _ hx).1; omega, fun hx => by have := hlo' _ hx; omega, fun hx => by have := hlo' _ hx; omega⟩
      refine hK.out _ _ HM6.out (fun hHeld => ?_)
      clear hK K
      try simp only [Act.put, List.setIfInBounds_toArray, List.set_cons_zero, List.set_cons_succ]
      clear hK' hlo' HT5 HB5 HZ5 HR5
      have z0 : w6.frozen? ⟨w.heap.size, 0, none⟩ = false := frozen_of_row _ _ 0 _ _ HZ6.out.1
      have z1 : w6.frozen? ⟨w.heap.size, 1, none⟩ = false := frozen_of_row _ _ 1 _ _ HZ6.out.1
      have z2 : w6.frozen? ⟨w.heap.size, 2, none⟩ = false := frozen_of_row _ _ 2 _ _ HZ6.out.1
      have z3 : w6.frozen? ⟨w.heap.size, 3, none⟩ = false := frozen_of_row _ _ 3 _ _ HZ6.out.1
      have z0c := cell_of_row w6 w.heap.size 0 _ _ _ HZ6.out.1
      have z1c := cell_of_row w6 w.heap.size 1 _ _ _ HZ6.out.1
      have z2c := cell_of_row w6 w.heap.size 2 _ _ _ HZ6.out.1
      have z3c := cell_of_row w6 w.heap.size 3 _ _ _ HZ6.out.1
      have HU6 := Lib.hid hT'
      have x0 : w6.frozen? ⟨(w.heap.size + 1), 0, none⟩ = false := frozen_of_row _ _ 0 _ _ HZ6.out.2
      have x1 : w6.frozen? ⟨(w.heap.size + 1), 1, none⟩ = false := frozen_of_row _ _ 1 _ _ HZ6.out.2
      have x2 : w6.frozen? ⟨(w.heap.size + 1), 2, none⟩ = false := frozen_of_row _ _ 2 _ _ HZ6.out.2
      have x3 : w6.frozen? ⟨(w.heap.size + 1), 3, none⟩ = false := frozen_of_row _ _ 3 _ _ HZ6.out.2
      have x0c := cell_of_row w6 (w.heap.size + 1) 0 _ _ _ HZ6.out.2
      have x1c := cell_of_row w6 (w.heap.size + 1) 1 _ _ _ HZ6.out.2
      have x2c := cell_of_row w6 (w.heap.size + 1) 2 _ _ _ HZ6.out.2
      have x3c := cell_of_row w6 (w.heap.size + 1) 3 _ _ _ HZ6.out.2
      refine wpAnyH_ready (rs := [3]) (by kernel_rfl) (by simp) ?_
      refine AllReadyH.cons rfl (fun K hK => ?_) AllReadyH.nil
      · go_simp
        change K _ (set4 w6 w.heap.size (.string nm) (.bool f) (.slice a2 n2 c2) (.slice a3 n3 c3))
        refine hK.out _ _ ((set4_far (by omega) _ _ _ _).trans HM6.out) (fun hHeld => ?_)
        clear hK K
        try simp only [Act.put, List.setIfInBounds_toArray, List.set_cons_zero, List.set_cons_succ]
        have u0 : (set4 w6 w.heap.size (.string nm) (.bool f) (.slice a2 n2 c2) (.slice a3 n3 c3)).frozen? ⟨(w.heap.size + 1), 0, none⟩ = false := frozen_of_row _ _ 0 _ _ ((set4_far (by omega) _ _ _ _).trans HZ6.out.2)
        have u1 : (set4 w6 w.heap.size (.string nm) (.bool f) (.slice a2 n2 c2) (.slice a3 n3 c3)).frozen? ⟨(w.heap.size + 1), 1, none⟩ = false := frozen_of_row _ _ 1 _ _ ((set4_far (by omega) _ _ _ _).trans HZ6.out.2)
        have u2 : (set4 w6 w.heap.size (.string nm) (.bool f) (.slice a2 n2 c2) (.slice a3 n3 c3)).frozen? ⟨(w.heap.size + 1), 2, none⟩ = false := frozen_of_row _ _ 2 _ _ ((set4_far (by omega) _ _ _ _).trans HZ6.out.2)
        have u3 : (set4 w6 w.heap.size (.string nm) (.bool f) (.slice a2 n2 c2) (.slice a3 n3 c3)).frozen? ⟨(w.heap.size + 1), 3, none⟩ = false := frozen_of_row _ _ 3 _ _ ((set4_far (by omega) _ _ _ _).trans HZ6.out.2)
        have u0c := cell_of_row (set4 w6 w.heap.size (.string nm) (.bool f) (.slice a2 n2 c2) (.slice a3 n3 c3)) (w.heap.size + 1) 0 _ _ _ ((set4_far (by omega) _ _ _ _).trans HZ6.out.2)
        have u1c := cell_of_row (set4 w6 w.heap.size (.string nm) (.bool f) (.slice a2 n2 c2) (.slice a3 n3 c3)) (w.heap.size + 1) 1 _ _ _ ((set4_far (by omega) _ _ _ _).trans HZ6.out.2)
        have u2c := cell_of_row (set4 w6 w.heap.size (.string nm) (.bool f) (.slice a2 n2 c2) (.slice a3 n3 c3)) (w.heap.size + 1) 2 _ _ _ ((set4_far (by omega) _ _ _ _).trans HZ6.out.2)
        have u3c := cell_of_row (set4 w6 w.heap.size (.string nm) (.bool f) (.slice a2 n2 c2) (.slice a3 n3 c3)) (w.heap.size + 1) 3 _ _ _ ((set4_far (by omega) _ _ _ _).trans HZ6.out.2)
        refine wpAnyH_ready (rs := [4]) (by kernel_rfl) (by simp) ?_
        refine AllReadyH.cons rfl (fun K hK => ?_) AllReadyH.nil
        go_simp
        change K _ (set4 (set4 w6 w.heap.size (.string nm) (.bool f) (.slice a2 n2 c2) (.slice a3 n3 c3)) (w.heap.size + 1) (.string nm') (.bool f') (.slice a2' n2' c2') (.slice a3' n3' c3'))
        refine hK.out _ _ ((set4_far (by omega) _ _ _ _).trans ((set4_far (by omega) _ _ _ _).trans HM6.out)) (fun hHeld => ?_)
        clear hK K
        try simp only [Act.put, List.setIfInBounds_toArray, List.set_cons_zero, List.set_cons_succ]
        have HF := Lib.hid (two_ab HZ6.out hne23 HT6.out HU6.out HN6.out HB6.out ⟨by omega, by omega⟩)
        refine wpAnyH_done (by kernel_rfl) ?_ _
        refine NoPanic.normal ?_
        clear hHeld
        go_wp2
        refine bodyPost_ret (results_two rfl _ _ w.heap.size (w.heap.size + 1) _ _ _ _ _ _ _ rfl rfl HF.out.1 HF.out.2.1 Try.underlying27 rfl (by kernel_rfl) (by kernel_rfl)) rfl ?_
        exact ⟨_, _, _, _, _, _, _, _, _, _, _, _, _, _, _, _, _, _, _, _, _, _, rfl, HF.out.2.2.1, HF.out.2.2.2.1, HNM.out.1, HF.out.2.2.2.2⟩

end Go.Proofs.Ytdnjpjiepnhhhaa

/- SameMacro of both. -/
namespace Go.Proofs.Ytdnjpjiepnhhhaa
open Go.RowKit

/-! ### Lists that agree at every place -/
def EqU {α β : Type} (f : α → β) (a b : List α) (k : Nat) : Prop := ∀ j, (h : j < a.length) → (h' : j < b.length) → j < k → f a[j] = f b[j]
section
variable {α β : Type} {f : α → β} {a b : List α} {k : Nat}
theorem EqU.zero (f : α → β) (a b : List α) : EqU f a b 0 := by intro j _ _ h; omega
theorem EqU.succ (h : EqU f a b k) (h1 : k < a.length) (h2 : k < b.length) (e : f a[k] = f b[k]) : EqU f a b (k + 1) := by
  intro j hj hj' hjk
  by_cases e' : j = k
  · subst e'; exact e
  · exact h j hj hj' (by omega)
theorem EqU.yes (h : EqU f a b k) (hl : a.length = b.length) (hk : a.length ≤ k) : a.map f = b.map f := by
  refine List.ext_getElem (by simpa using hl) fun i h1 h2 => ?_
  simp only [List.length_map] at h1 h2
  rw [List.getElem_map, List.getElem_map]
  exact h i h1 h2 (by omega)
theorem eqU_no (h1 : k < a.length) (h2 : k < b.length) (e : f a[k] ≠ f b[k]) : a.map f ≠ b.map f := by
  intro e'
  have := List.getElem_of_eq e' (i := k) (by simpa using h1)
  rw [List.getElem_map, List.getElem_map] at this
  exact e this
end

def spOf (t : Tok) : Bool := t.spaced
def bodySame (a b : List Tok) : Bool := sameTx a b && decide (a.map spOf = b.map spOf)
def sameMac (x y : DMacro) : Bool := decide (x.name = y.name) && decide (x.function = y.function) && decide (x.params = y.params) && bodySame x.body y.body
theorem sameTx_len {a b : List Tok} (h : sameTx a b = true) : a.length = b.length := by
  by_cases e : a.length = b.length
  · exact e
  · rw [same_len e] at h; simp at h
theorem sameMac_name {x y : DMacro} (h : x.name ≠ y.name) : sameMac x y = false := by unfold sameMac; rw [decide_eq_false h]; rfl
theorem sameMac_fun {x y : DMacro} (h : x.function ≠ y.function) : sameMac x y = false := by unfold sameMac; rw [decide_eq_false h, Bool.and_false]; rfl
theorem sameMac_par {x y : DMacro} (h : x.params ≠ y.params) : sameMac x y = false := by unfold sameMac; rw [decide_eq_false h, Bool.and_false]; rfl
theorem sameMac_bod {x y : DMacro} (h : bodySame x.body y.body = false) : sameMac x y = false := by unfold sameMac; rw [h, Bool.and_false]
theorem sameMac_yes {x y : DMacro} (h0 : x.name = y.name) (h1 : x.function = y.function) (h2 : x.params = y.params) (h3 : bodySame x.body y.body = true) : sameMac x y = true := by
  unfold sameMac; rw [h3, decide_eq_true h0, decide_eq_true h1, decide_eq_true h2]; rfl
theorem bodySame_tx {a b : List Tok} (h : sameTx a b = false) : bodySame a b = false := by unfold bodySame; rw [h]; rfl
theorem bodySame_sp {a b : List Tok} (h : a.map spOf ≠ b.map spOf) : bodySame a b = false := by unfold bodySame; rw [decide_eq_false h, Bool.and_false]
theorem bodySame_yes {a b : List Tok} (h : sameTx a b = true) (h2 : a.map spOf = b.map spOf) : bodySame a b = true := by unfold bodySame; rw [h, decide_eq_true h2]; rfl

/-! ### slices.Equal at texts -/
theorem getD_at {l : List ByteArray} {j : Nat} (h : j < l.length) (d : ByteArray) : l.getD j d = l[j] := by simp [List.getD_eq_getElem?_getD, List.getElem?_eq_getElem h]
theorem lib_EqualS (v1 v2 : Value) (l1 l2 : List ByteArray) (fp1 fp2 : List Nat) (w : World) (H1 : (sSlice sStr).R w [v1] l1 fp1) (H2 : (sSlice sStr).R w [v2] l2 fp2) :
    Calls Try.prog 50 #[v1, v2] w (Says (decide (l1 = l2)) w) := by
  obtain ⟨a1, c1, rfl, hc1, hm1, h1, -⟩ := open_strs H1
  obtain ⟨a2, c2, rfl, hc2, hm2, h2, -⟩ := open_strs H2
  unfold maxLen at hm1 hm2
  by_cases hn : l1.length = l2.length
  · by_cases h0 : 0 < l1.length
    · obtain ⟨b1, o1, rfl, -, -, k1⟩ := h1 h0
      obtain ⟨b2, o2, rfl, -, -, k2⟩ := h2 (by omega)
      refine (Try.slices_Equal_string b1 o1 _ c1 b2 o2 _ c2 l1 l2 w (Nat.le_refl _) (Nat.le_refl _) (by omega) (by omega) (fun j hj => by rw [getD_at hj]; exact k1 j hj) (fun j hj => by rw [getD_at hj]; exact k2 j hj)).mono ?_
      rintro e w' ⟨rfl, q, rfl⟩
      refine ⟨?_, belowN (Below.refl _ _) q⟩
      rw [List.take_length, List.take_length]
    · obtain rfl : l1 = [] := List.length_eq_zero_iff.1 (by omega)
      obtain rfl : l2 = [] := List.length_eq_zero_iff.1 (by rw [← hn]; rfl)
      refine (Try.slices_Equal_string_empty a1 a2 c1 0 c2 w (by omega)).mono ?_
      rintro e w' ⟨rfl, rfl⟩
      exact ⟨rfl, Below.refl _ _⟩
  · refine (Try.slices_Equal_string_lens a1 a2 _ c1 _ c2 w hn).mono ?_
    rintro e w' ⟨rfl, rfl⟩
    exact ⟨by rw [decide_eq_false (fun e => hn (by rw [e]))], Below.refl _ _⟩

set_option maxHeartbeats 4000000 in
set_option maxRecDepth 100000 in
theorem impl_sameBody (v1 v2 : Value) (l1 l2 : List Tok) (fp1 fp2 : List Nat) (w : World) (H1 : (sSlice sTok).R w [v1] l1 fp1) (H2 : (sSlice sTok).R w [v2] l2 fp2) :
    Calls Try.prog 51 #[v1, v2] w (Says (bodySame l1 l2) w) := by
  have HS := Lib.hid (impl_SameTexts v1 v2 l1 l2 fp1 fp2 w H1 H2)
  obtain ⟨a1, cap1, rfl, hc1, hm1, hrow1⟩ := open_rows H1
  obtain ⟨a2, cap2, rfl, hc2, hm2, hrow2⟩ := open_rows H2
  unfold maxLen at hm1 hm2
  clear H1 H2
  cases hs : sameTx l1 l2
  · rw [hs] at HS
    have HF := Lib.hid (bodySame_tx hs)
    clear hs
    go_enter Try.func51, Try.ntmps51
    go_wp2_with (go_at_call 27; refine HS.out.mono ?_; rintro e w1 ⟨rfl, hb1⟩)
    go_ret
    exact ⟨ret_bool HF.out.symm, hb1⟩
  · rw [hs] at HS
    have HL := Lib.hid (sameTx_len hs)
    have HY := Lib.hid (bodySame_yes hs)
    clear hs
    go_enter Try.func51, Try.ntmps51
    go_wp2_with (go_at_call 27; refine HS.out.mono ?_; rintro e w1 ⟨rfl, hb1⟩)
    go_loopw [12] (fun i wr => ∃ k : Nat, k ≤ l1.length ∧ i = .int .i64 k ∧ Hid (EqU spOf l1 l2 k) ∧ Below w.heap.size w wr) (fun i _ => l1.length - (intOf i).toNat)
    case atStart => exact ⟨0, by omega, rfl, EqU.zero _ _ _, hb1⟩
    case round =>
      clear hb1
      obtain ⟨k, hk, rfl, hall, hb⟩ := hrel
      by_cases hlt : k < l1.length
      · have hlt2 : k < l2.length := by have := HL.out; omega
        obtain ⟨b1, off1, fps1, rfl, hb1, -, he1⟩ := hrow1 (by omega)
        obtain ⟨b2, off2, fps2, rfl, hb2, -, he2⟩ := hrow2 (by omega)
        obtain ⟨es1, hE1, hR1⟩ := he1 k hlt
        obtain ⟨es2, hE2, hR2⟩ := he2 k hlt2
        clear hrow1 hrow2 he1 he2
        obtain ⟨h1, rfl, _, _, _⟩ := hR1
        obtain ⟨h2, rfl, _, _, _⟩ := hR2
        replace hE1 := hE1.frame (hb.block b1 hb1)
        replace hE2 := hE2.frame (hb.block b2 hb2)
        have c12 : wr.cell? ⟨b1, off1 + k * 4 + 2, none⟩ = some _ := elem_cell (j := 2) hE1 (by decide) rfl
        have c22 : wr.cell? ⟨b2, off2 + k * 4 + 2, none⟩ = some _ := elem_cell (j := 2) hE2 (by decide) rfl
        clear hE1 hE2
        by_cases e1 : l1[k].spaced = l2[k].spaced
        · have q1 : (l1[k].spaced == l2[k].spaced) = true := by simp [e1]
          have hn := Lib.hid (hall.out.succ hlt hlt2 e1)
          clear e1 hall
          go_wp2
          go_quiet (fail)
          go_wp2
          go_roundw
          case rel => exact ⟨k + 1, by omega, by go_num, hn, belowN hb _⟩
          case measure => simp [intOf]; omega
        · have q1 : (l1[k].spaced == l2[k].spaced) = false := by simp [e1]
          have HF := Lib.hid (bodySame_sp (eqU_no (f := spOf) hlt hlt2 e1))
          clear e1 hall
          go_wp2
          go_quiet (fail)
          go_wp2
          go_ret
          exact ⟨ret_bool HF.out.symm, belowN hb _⟩
      · have HF := Lib.hid (HY.out (hall.out.yes HL.out (by omega)))
        clear hall
        go_wp2
        go_ret
        exact ⟨ret_bool HF.out.symm, hb⟩

theorem blk2 {w w' : World} {a b : Nat} {x y : Obj} (h : w.heap[a]? = some x ∧ w.heap[b]? = some y) (hb : Below w.heap.size w w') : w'.heap[a]? = some x ∧ w'.heap[b]? = some y :=
  ⟨(hb.block _ (Array.getElem?_eq_some_iff.1 h.1).1).trans h.1, (hb.block _ (Array.getElem?_eq_some_iff.1 h.2).1).trans h.2⟩

set_option maxHeartbeats 8000000 in
set_option maxRecDepth 100000 in
theorem impl_SameMacro (cs1 cs2 : List Value) (x y : DMacro) (fp1 fp2 : List Nat) (w : World) (H1 : sMacro.R w cs1 x fp1) (H2 : sMacro.R w cs2 y fp2) :
    Calls Try.prog 20 #[.agg cs1.toArray, .agg cs2.toArray] w (Says (sameMac x y) w) := by
  obtain ⟨h2, h3, fpa2, fpa3, rfl, -, K2, K3, rfl⟩ := H1
  obtain ⟨g2, g3, fpb2, fpb3, rfl, -, L2, L3, rfl⟩ := H2
  obtain ⟨a2, ca2, rfl, -⟩ := open_strs K2
  obtain ⟨a3, ca3, rfl, -⟩ := open_rows K3
  obtain ⟨d2, cd2, rfl, -⟩ := open_strs L2
  obtain ⟨d3, cd3, rfl, -⟩ := open_rows L3
  have b0 := alloc_below' w (.cells #[.string x.name, .bool x.function, .slice a2 x.params.length ca2, .slice a3 x.body.length ca3] 27)
  have b1 := b0.trans ((alloc_below' (w.alloc (.cells #[.string x.name, .bool x.function, .slice a2 x.params.length ca2, .slice a3 x.body.length ca3] 27)) (.cells #[.string y.name, .bool y.function, .slice d2 y.params.length cd2, .slice d3 y.body.length cd3] 27)).mono b0.size)
  have HX := Lib.hid (alloc2_blk w #[.string x.name, .bool x.function, .slice a2 x.params.length ca2, .slice a3 x.body.length ca3] #[.string y.name, .bool y.function, .slice d2 y.params.length cd2, .slice d3 y.body.length cd3] 27 27)
  have HP := Lib.hid (fun W (hW : Below w.heap.size w W) => lib_EqualS _ _ x.params y.params _ _ W ((sSlice sStr).below K2 hW) ((sSlice sStr).below L2 hW))
  have HB := Lib.hid (fun W (hW : Below w.heap.size w W) => impl_sameBody _ _ x.body y.body _ _ W ((sSlice sTok).below K3 hW) ((sSlice sTok).below L3 hW))
  clear K2 K3 L2 L3 b0
  by_cases e0 : x.name = y.name
  rotate_left
  · have g0 := bytes_bne e0
    have HF := Lib.hid (sameMac_name e0)
    clear e0
    go_enter Try.func20, Try.ntmps20
    go_wp2
    go_ret
    exact ⟨ret_bool HF.out.symm, b1⟩
  have g0 := bytes_beq e0
  by_cases e1 : x.function = y.function
  rotate_left
  · have g1 : (x.function == y.function) = false := by simp [e1]
    have HF := Lib.hid (sameMac_fun e1)
    clear e0 e1
    go_enter Try.func20, Try.ntmps20
    go_wp2
    go_ret
    exact ⟨ret_bool HF.out.symm, b1⟩
  have g1 : (x.function == y.function) = true := by simp [e1]
  by_cases e2 : x.params = y.params
  rotate_left
  · have HF := Lib.hid (sameMac_par e2)
    rw [decide_eq_false e2] at HP
    clear e0 e1 e2
    go_enter Try.func20, Try.ntmps20
    go_wp2_with fail
    refine (HP.out _ b1).mono ?_
    rintro e w2 ⟨rfl, c2⟩
    go_wp2
    go_ret
    exact ⟨ret_bool HF.out.symm, b1.trans (c2.mono b1.size)⟩
  rw [decide_eq_true e2] at HP
  have HS : Hid (bodySame x.body y.body = sameMac x y) := by
    show _ = _
    cases hs : bodySame x.body y.body
    · exact (sameMac_bod hs).symm
    · exact (sameMac_yes e0 e1 e2 hs).symm
  clear e0 e1 e2
  go_enter Try.func20, Try.ntmps20
  go_wp2_with fail
  refine (HP.out _ b1).mono ?_
  rintro e w2 ⟨rfl, c2⟩
  have d2' := b1.trans (c2.mono b1.size)
  replace HX := Lib.hid (blk2 HX.out c2)
  have qa3 : w2.cell? ⟨w.heap.size, 3, none⟩ = some (.slice a3 x.body.length ca3) := cell_of_row _ _ 3 _ _ _ HX.out.1
  have qb3 : w2.cell? ⟨w.heap.size + 1, 3, none⟩ = some (.slice d3 y.body.length cd3) := cell_of_row _ _ 3 _ _ _ HX.out.2
  clear c2
  go_wp2_with fail
  refine (HB.out _ d2').mono ?_
  rintro e w3 ⟨rfl, c3⟩
  go_wp2
  go_ret
  exact ⟨ret_bool HS.out, d2'.trans (c3.mono d2'.size)⟩

set_option maxHeartbeats 8000000 in
set_option maxRecDepth 100000 in
theorem spec_SameMacro (cs1 cs2 : List Value) (x y : DMacro) (fp1 fp2 : List Nat) (w : World) (H1 : sMacro.R w cs1 x fp1) (H2 : sMacro.R w cs2 y fp2) :
    Calls Try.prog 18 #[.agg cs1.toArray, .agg cs2.toArray] w (Says (sameMac x y) w) := by
  obtain ⟨h2, h3, fpa2, fpa3, rfl, -, K2, K3, rfl⟩ := H1
  obtain ⟨g2, g3, fpb2, fpb3, rfl, -, L2, L3, rfl⟩ := H2
  have HS := Lib.hid (fun W (hW : Below w.heap.size w W) => spec_SameTexts _ _ x.body y.body _ _ W ((sSlice sTok).below K3 hW) ((sSlice sTok).below L3 hW))
  obtain ⟨a2, ca2, rfl, hc2, hm2, hr2, -⟩ := open_strs K2
  obtain ⟨a3, ca3, rfl, hc3, hm3, hr3⟩ := open_rows K3
  obtain ⟨d2, cd2, rfl, hcd2, hmd2, hs2, -⟩ := open_strs L2
  obtain ⟨d3, cd3, rfl, hcd3, hmd3, hs3⟩ := open_rows L3
  unfold maxLen at hm2 hm3 hmd2 hmd3
  have b0 := alloc_below' w (.cells #[.string x.name, .bool x.function, .slice a2 x.params.length ca2, .slice a3 x.body.length ca3] 27)
  have b1 := b0.trans ((alloc_below' (w.alloc (.cells #[.string x.name, .bool x.function, .slice a2 x.params.length ca2, .slice a3 x.body.length ca3] 27)) (.cells #[.string y.name, .bool y.function, .slice d2 y.params.length cd2, .slice d3 y.body.length cd3] 27)).mono b0.size)
  have HX := Lib.hid (alloc2_blk w #[.string x.name, .bool x.function, .slice a2 x.params.length ca2, .slice a3 x.body.length ca3] #[.string y.name, .bool y.function, .slice d2 y.params.length cd2, .slice d3 y.body.length cd3] 27 27)
  clear K2 K3 L2 L3 b0
  by_cases e0 : x.name = y.name
  rotate_left
  · have g0 := bytes_bne e0
    have HF := Lib.hid (sameMac_name e0)
    clear e0
    go_enter Try.func18, Try.ntmps18
    go_wp2
    go_ret
    exact ⟨ret_bool HF.out.symm, b1⟩
  have g0 := bytes_beq e0
  by_cases e1 : x.function = y.function
  rotate_left
  · have g1 : (x.function == y.function) = false := by simp [e1]
    have HF := Lib.hid (sameMac_fun e1)
    clear e0 e1
    go_enter Try.func18, Try.ntmps18
    go_wp2
    go_ret
    exact ⟨ret_bool HF.out.symm, b1⟩
  have g1 : (x.function == y.function) = true := by simp [e1]
  by_cases e2 : x.params.length = y.params.length
  rotate_left
  · have g2 : ((x.params.length : Int) != (y.params.length : Int)) = true := by simp; omega
    have HF := Lib.hid (sameMac_par (fun h => e2 (by rw [h]) : x.params ≠ y.params))
    clear e0 e1 e2
    go_enter Try.func18, Try.ntmps18
    go_wp2
    go_ret
    exact ⟨ret_bool HF.out.symm, b1⟩
  have g2 : ((x.params.length : Int) != (y.params.length : Int)) = false := by simp [e2]
  cases e3 : sameTx x.body y.body
  · rw [e3] at HS
    have HF := Lib.hid (sameMac_bod (bodySame_tx e3))
    clear e0 e1 e2 e3
    go_enter Try.func18, Try.ntmps18
    go_wp2_with fail
    refine (HS.out _ b1).mono ?_
    rintro e w2 ⟨rfl, c2⟩
    go_wp2
    go_ret
    exact ⟨ret_bool HF.out.symm, b1.trans (c2.mono b1.size)⟩
  rw [e3] at HS
  have HL2 := Lib.hid e2
  have HL3 := Lib.hid (sameTx_len e3)
  have HY : Hid (x.params = y.params → x.body.map spOf = y.body.map spOf → sameMac x y = true) := fun h h' => sameMac_yes e0 e1 h (bodySame_yes e3 h')
  clear e0 e1 e2 e3
  go_enter Try.func18, Try.ntmps18
  go_wp2_with fail
  refine (HS.out _ b1).mono ?_
  rintro e w2 ⟨rfl, c2⟩
  have d2' := b1.trans (c2.mono b1.size)
  replace HX := Lib.hid (blk2 HX.out c2)
  clear c2 HS b1 g0 g1 g2
  go_wp2_with fail
  go_loopw [5] (fun i wr => ∃ k : Nat, k ≤ x.params.length ∧ i = .int .i64 k ∧ Hid (EqU id x.params y.params k) ∧ Below w2.heap.size w2 wr) (fun i _ => x.params.length - (intOf i).toNat)
  case atStart => exact ⟨0, by omega, rfl, EqU.zero _ _ _, Below.refl _ _⟩
  case round =>
    obtain ⟨k, hk, rfl, hall, hb⟩ := hrel
    have HXr := Lib.hid (blk2 HX.out hb)
    have qa2 : wr.cell? ⟨w.heap.size, 2, none⟩ = some (.slice a2 x.params.length ca2) := cell_of_row _ _ 2 _ _ _ HXr.out.1
    have qb2 : wr.cell? ⟨w.heap.size + 1, 2, none⟩ = some (.slice d2 y.params.length cd2) := cell_of_row _ _ 2 _ _ _ HXr.out.2
    have d2r := d2'.trans (hb.mono d2'.size)
    by_cases hlt : k < x.params.length
    · have hlt2 : k < y.params.length := by have := HL2.out; omega
      obtain ⟨p1, o1, rfl, hp1, -, he1⟩ := hr2 (by omega)
      obtain ⟨p2, o2, rfl, hp2, -, he2⟩ := hs2 (by omega)
      have c1 : wr.cell? ⟨p1, o1 + k, none⟩ = some (.string x.params[k]) := (World.cell?_of_block (d2r.block p1 hp1)).trans (he1 k hlt)
      have c2 : wr.cell? ⟨p2, o2 + k, none⟩ = some (.string y.params[k]) := (World.cell?_of_block (d2r.block p2 hp2)).trans (he2 k hlt2)
      clear hr2 hs2 he1 he2
      by_cases e : x.params[k] = y.params[k]
      · have q := bytes_beq e
        have hn := Lib.hid (hall.out.succ hlt hlt2 e)
        clear e hall
        go_wp2
        go_quiet (fail)
        go_wp2
        go_roundw
        case rel => exact ⟨k + 1, by omega, by go_num, hn, belowN hb _⟩
        case measure => simp [intOf]; omega
      · have q := bytes_bne e
        have HF := Lib.hid (sameMac_par (fun h => eqU_no (f := id) hlt hlt2 e (by rw [h])))
        clear e hall
        go_wp2
        go_quiet (fail)
        go_wp2
        go_ret
        exact ⟨ret_bool HF.out.symm, belowN d2r _⟩
    · have hpar : x.params.map id = y.params.map id := hall.out.yes HL2.out (by omega)
      rw [List.map_id, List.map_id] at hpar
      replace HY := Lib.hid (HY.out hpar)
      clear hall hpar hr2 hs2
      go_wp2
      go_loopw [6] (fun i w3 => ∃ k : Nat, k ≤ x.body.length ∧ i = .int .i64 k ∧ Hid (EqU spOf x.body y.body k) ∧ Below wr.heap.size wr w3) (fun i _ => x.body.length - (intOf i).toNat)
      case atStart => exact ⟨0, by omega, rfl, EqU.zero _ _ _, Below.refl _ _⟩
      case round =>
        clear qa2 qb2
        obtain ⟨j, hj, rfl, hall, hb2⟩ := hrel
        have HX3 := Lib.hid (blk2 HXr.out hb2)
        have qa3 : wr.cell? ⟨w.heap.size, 3, none⟩ = some (.slice a3 x.body.length ca3) := cell_of_row _ _ 3 _ _ _ HX3.out.1
        have qb3 : wr.cell? ⟨w.heap.size + 1, 3, none⟩ = some (.slice d3 y.body.length cd3) := cell_of_row _ _ 3 _ _ _ HX3.out.2
        have d3r := d2r.trans (hb2.mono d2r.size)
        by_cases hlt : j < x.body.length
        · have hlt2 : j < y.body.length := by have := HL3.out; omega
          obtain ⟨b1, off1, fps1, rfl, hb1, -, he1⟩ := hr3 (by omega)
          obtain ⟨b2, off2, fps2, rfl, hb2', -, he2⟩ := hs3 (by omega)
          obtain ⟨es1, hE1, hR1⟩ := he1 j hlt
          obtain ⟨es2, hE2, hR2⟩ := he2 j hlt2
          clear hr3 hs3 he1 he2
          obtain ⟨h1, rfl, _, _, _⟩ := hR1
          obtain ⟨h2, rfl, _, _, _⟩ := hR2
          replace hE1 := hE1.frame (d3r.block b1 hb1)
          replace hE2 := hE2.frame (d3r.block b2 hb2')
          have c12 : wr.cell? ⟨b1, off1 + j * 4 + 2, none⟩ = some _ := elem_cell (j := 2) hE1 (by decide) rfl
          have c22 : wr.cell? ⟨b2, off2 + j * 4 + 2, none⟩ = some _ := elem_cell (j := 2) hE2 (by decide) rfl
          clear hE1 hE2
          by_cases e : x.body[j].spaced = y.body[j].spaced
          · have q1 : (x.body[j].spaced == y.body[j].spaced) = true := by simp [e]
            have hn := Lib.hid (hall.out.succ hlt hlt2 e)
            clear e hall
            go_wp2
            go_quiet (fail)
            go_wp2
            go_roundw
            case rel => exact ⟨j + 1, by omega, by go_num, hn, belowN hb2 _⟩
            case measure => simp [intOf]; omega
          · have q1 : (x.body[j].spaced == y.body[j].spaced) = false := by simp [e]
            have HF := Lib.hid (sameMac_bod (bodySame_sp (eqU_no (f := spOf) hlt hlt2 e)))
            clear e hall
            go_wp2
            go_quiet (fail)
            go_wp2
            go_ret
            exact ⟨ret_bool HF.out.symm, belowN d3r _⟩
        · have HF := Lib.hid (HY.out (hall.out.yes HL3.out (by omega)))
          clear hall
          go_wp2
          go_ret
          exact ⟨ret_bool HF.out.symm, d3r⟩

end Go.Proofs.Ytdnjpjiepnhhhaa

/- The law's fixed answer. -/
namespace Go.Proofs.Ytdnjpjiepnhhhaa
open Go.RowKit

theorem small_ok {s : ByteArray} (h : s.size ≤ 1000000) : s.size ≤ maxLen := by unfold maxLen; omega
theorem line_ab (w : World) : Calls Try.prog 57 #[.string ⟨#[97, 32, 98]⟩] w fun e w' => e = .returned (.bool true) ∧ w = w' := by
  have := impl_LineValid ⟨#[97, 32, 98]⟩ w (small_ok (by decide))
  rwa [show lineOk ⟨#[97, 32, 98]⟩ = true from by decide] at this
theorem line_nl (w : World) : Calls Try.prog 57 #[.string ⟨#[10]⟩] w fun e w' => e = .returned (.bool false) ∧ w = w' := by
  have := impl_LineValid ⟨#[10]⟩ w (small_ok (by decide))
  rwa [show lineOk ⟨#[10]⟩ = false from by decide] at this
theorem alive (w : World) : Calls Try.prog 24 #[] w fun e w' => e = .returned (.bool true) ∧ w = w' := by
  go_enter Try.func24, Try.ntmps24
  go_wp2_with fail
  refine (line_ab _).mono ?_
  rintro e w' ⟨rfl, rfl⟩
  go_wp2_with fail
  refine (line_nl _).mono ?_
  rintro e w' ⟨rfl, rfl⟩
  go_wp2
  go_ret
  exact ⟨rfl, rfl⟩

end Go.Proofs.Ytdnjpjiepnhhhaa
