/- Texts that the proof of V stands on, in one file. -/
import Derived.Test.YthbojipdhgidlabZPUndefine11
import Derived.Shelf.Spec.SlicesInsertGrow
import Derived.Test.YthbojipdhgidlabZPUndefine9
import Derived.Test.YthbojipdhgidlabZPUndefine8
import Derived.Deep.RegionHeld3
import Derived.Test.YthbojipdhgidlabZPUndefine10
set_option linter.unusedVariables false
set_option linter.unusedSimpArgs false
/- slices.Insert of one macro, into a row of the call's own. -/
namespace Go.Proofs.Ythbojipdhgidlab
open Go.RowKit Go.Lib

/-- copy(d, s) of elements of several cells, in terms of cells alone. -/
theorem run_copy_rows {P : Program} (w : World) (dT sT ty elem : TypeId) (size n : Nat) (b o dLen dCap : Nat) (a : Addr) (sLen sCap : Nat) (cs : List Value)
    (hu : P.underlying dT = some (.slice elem)) (hs : (P.info? elem).map (·.size) = some size) (hn : Nat.min sLen dLen = n) (hl : cs.length = n * size)
    (hsrc : ∀ j v, cs[j]? = some v → w.cell? (a.add j) = some v) (hc : ∀ j, j < cs.length → (w.cell? ⟨b, o + j, none⟩).isSome = true) (hf : ∀ j, j < cs.length → w.frozen? ⟨b, o + j, none⟩ = false) (h1 : ∀ v ∈ cs, v.oneCell' = true) :
    (Builtin.copy_ #[dT, sT] ty #[.slice (some ⟨b, o, none⟩) dLen dCap, .slice (some a) sLen sCap]).run P w = .ok (goInt n) (w.setCells b o cs) := by
  have hld := run_loadCells_list (P := P) w a cs hsrc
  have hst := run_storeCells_cells (P := P) b o cs 0 w (by simpa using hc) (by simpa using hf) h1
  rw [hl] at hld
  cases hq : P.info? elem with
  | none => simp [hq] at hs
  | some i =>
    have hi : i.size = size := by simpa [hq] using hs
    simp [Builtin.copy_, run_underlying hu, Builtin.lenOf, Builtin.firstCells, sizeOf, typeInfo, hq, hi, hn, hld, hst]
def insAt {α : Type} (l : List α) (k : Nat) (x : α) : List α := l.take k ++ x :: l.drop k
theorem insAt_mem {α : Type} {l : List α} {k : Nat} {x y : α} (h : y ∈ insAt l k x) : y = x ∨ y ∈ l := by
  unfold insAt at h
  rcases List.mem_append.1 h with h | h
  · exact .inr (List.mem_of_mem_take h)
  · rcases List.mem_cons.1 h with h | h
    · exact .inl h
    · exact .inr (List.mem_of_mem_drop h)
theorem insAt_len {α : Type} {l : List α} {k : Nat} (x : α) : (insAt l k x).length = l.length + 1 := by
  unfold insAt
  rw [List.length_append, List.length_cons, List.length_take, List.length_drop]; omega
theorem insAt_cells {L : List (Elem DMacro)} {k : Nat} {x : Elem DMacro} : (insAt L k x).flatMap (·.cells) = (L.take k).flatMap (·.cells) ++ (x.cells ++ (L.drop k).flatMap (·.cells)) := by
  unfold insAt; rw [List.flatMap_append, List.flatMap_cons]
/-- The row with an element put in. -/
theorem ins_E {base : Nat} {v v' : Value} {L : List (Elem DMacro)} {x : Elem DMacro} {k : Nat} {w w' : World} (H : RowE sMacro base 35 v L w) (hl : x.cells.length = 4) (hR : sMacro.R w x.cells x.d x.fp) (hlo : ∀ b ∈ x.fp, base ≤ b) (hty : ∀ b ∈ x.fp, ∃ cur t fr, w.heap[b]? = some (.cells cur t fr) ∧ t ≠ 35)
    (hg : w.grownBy w' v.ownBlock) (hrow : w'.ownsRow base 35 4 v' (L.length + 1) ((insAt L k x).flatMap (·.cells))) : RowE sMacro base 35 v' (insAt L k x) w' := by
  have hne : ∀ b : Nat, (∃ cur t fr, w.heap[b]? = some (.cells cur t fr) ∧ t ≠ 35) → w'.heap[b]? = w.heap[b]? := by
    rintro b ⟨cur, t, fr, h1, h2⟩
    refine hg.block b (Array.getElem?_eq_some_iff.1 h1).1 fun hv => ?_
    rcases H.row.2 with ⟨h', _⟩ | ⟨g', cap', cur', h', _, hg', _⟩
    · rw [h'] at hv; simp [Value.ownBlock] at hv
    · rw [h'] at hv
      simp only [Value.ownBlock, Option.some.injEq] at hv
      subst hv
      rw [h1] at hg'
      simp only [Option.some.injEq, Obj.cells.injEq] at hg'
      exact h2 hg'.2.1
  refine ⟨by rw [insAt_len]; exact hrow, fun y hy => ?_, fun y hy => ?_, fun y hy => ?_, fun y hy b hb => ?_⟩ <;> rcases insAt_mem hy with rfl | hy
  · exact hl
  · exact H.len y hy
  · exact sMacro.frame (fun b hb => hne b (hty b hb)) hR
  · exact sMacro.frame (fun b hb => hne b (H.ty y hy b hb)) (H.el y hy)
  · exact hlo
  · exact H.lo y hy
  · obtain ⟨cur, t, fr, h1, h2⟩ := hty b hb
    exact ⟨cur, t, fr, (hne b ⟨cur, t, fr, h1, h2⟩).trans h1, h2⟩
  · obtain ⟨cur, t, fr, h1, h2⟩ := H.ty y hy b hb
    exact ⟨cur, t, fr, (hne b ⟨cur, t, fr, h1, h2⟩).trans h1, h2⟩
/-- A spare place of a row, seen as an element of it. -/
theorem row_wider {base e g n cap size : Nat} {xs : List Value} {w : World} (h : w.ownsRow base e size (.slice (some ⟨g, 0, none⟩) n cap) n xs) (hn : n + 1 ≤ cap) :
    ∃ Z, Z.length = size ∧ w.ownsRow base e size (.slice (some ⟨g, 0, none⟩) (n + 1) cap) (n + 1) (xs ++ Z) := by
  rcases h.2 with ⟨h', _⟩ | ⟨g', cap', cur, h', q2, q3, q4, q5, q6, q7⟩
  · cases h'
  · simp only [Value.slice.injEq, Option.some.injEq, Addr.mk.injEq, and_true, true_and] at h'
    obtain ⟨rfl, rfl⟩ := h'
    have hsz : (n + 1) * size ≤ cap * size := Nat.mul_le_mul_right _ hn
    have hsn : (n + 1) * size = n * size + size := Nat.succ_mul _ _
    refine ⟨(cur.toList.drop (n * size)).take size, ?_, ?_, .inr ⟨g, cap, cur, rfl, q2, q3, hn, q5, q6, ?_⟩⟩
    · rw [List.length_take, List.length_drop, Array.length_toList, q6]; omega
    · rw [List.length_append, h.1, List.length_take, List.length_drop, Array.length_toList, q6]; omega
    · rw [hsn, List.take_add, q7]
theorem setFrom_two {A D X Z : List Value} (hz : Z.length = X.length) (hy : (A ++ D ++ Z).length = A.length + X.length + D.length) : setFrom (setFrom (A ++ D ++ Z) (A.length + X.length) D) A.length X = A ++ (X ++ D) := by
  have h1 : A ++ D ++ Z = A ++ ((D ++ Z).take X.length ++ (D ++ Z).drop X.length) := by rw [List.take_append_drop, List.append_assoc]
  have ht : ((D ++ Z).take X.length).length = X.length := by rw [List.length_take, List.length_append]; omega
  have hd : ((D ++ Z).drop X.length).length = D.length := by rw [List.length_drop, List.length_append]; omega
  have h2 : A ++ D ++ Z = (A ++ (D ++ Z).take X.length) ++ ((D ++ Z).drop X.length ++ []) := by rw [h1, List.append_nil, List.append_assoc]
  have h3 : (A ++ (D ++ Z).take X.length).length = A.length + X.length := by rw [List.length_append, ht]
  rw [h2, ← h3, setFrom_app _ _ _ _ hd, List.append_nil, List.append_assoc]
  exact setFrom_app X A _ D ht
theorem setFrom_fwd {A X D Z1 Z2 : List Value} (h1 : Z1.length = X.length) (h2 : Z2.length = D.length) : setFrom (setFrom (A ++ (Z1 ++ Z2)) A.length X) (A.length + X.length) D = A ++ (X ++ D) := by
  rw [setFrom_app X A Z1 Z2 h1, ← List.append_assoc, ← List.length_append]
  have := setFrom_app D (A ++ X) Z2 [] h2
  rw [List.append_nil, List.append_nil] at this
  rw [this, List.append_assoc]

theorem heap_setCells (b : Nat) : ∀ (vs : List Value) (o : Nat) (w w' : World), w.heap = w'.heap → (w.setCells b o vs).heap = (w'.setCells b o vs).heap
  | [], _, _, _, h => h
  | v :: r, o, w, w', h => heap_setCells b r (o + 1) _ _ (by show (w.setCell _ _).heap = (w'.setCell _ _).heap; simp [World.setCell, h])
/-- slices.Insert at the end. -/
def InsPost (base k : Nat) (v : Value) (L : List (Elem DMacro)) (x : Elem DMacro) (w : World) (e : Ending) (w' : World) : Prop :=
  ∃ v', e = .returned v' ∧ RowE sMacro base 35 v' (insAt L k x) w' ∧ w.grownBy w' v.ownBlock
set_option maxHeartbeats 4000000 in
set_option maxRecDepth 100000 in
theorem lib_Insert_end (base vb : Nat) (a : Option Addr) (c : Nat) (L : List (Elem DMacro)) (x : Elem DMacro) (w : World) (hn : L.length ≤ 1000000) (H : RowE sMacro base 35 (.slice a L.length c) L w)
    (hl : x.cells.length = 4) (hx1 : ∀ u ∈ x.cells, u.oneCell' = true) (hR : sMacro.R w x.cells x.d x.fp) (hlo : ∀ b ∈ x.fp, base ≤ b) (hty : ∀ b ∈ x.fp, ∃ cur t fr, w.heap[b]? = some (.cells cur t fr) ∧ t ≠ 35)
    (hvb : w.heap[vb]? = some (.cells x.cells.toArray 35 (0, 0))) (hbase : base ≤ w.heap.size) :
    Calls Try.prog 38 #[.slice a L.length c, .int .i64 L.length, .slice (some ⟨vb, 0, none⟩) 1 1] w (InsPost base L.length (.slice a L.length c) L x w) := by
  have HH := Lib.hid H
  have HV := Lib.hid hvb
  have HX := Lib.hid (And.intro hR (And.intro hlo hty))
  have e : insAt L L.length x = L ++ [x] := by unfold insAt; rw [List.take_length, List.drop_length]
  have HE := Lib.hid e
  obtain ⟨a', c', hv, hnc, hcm, -⟩ := H.val
  simp only [Value.slice.injEq, true_and] at hv
  obtain ⟨rfl, rfl⟩ := hv
  unfold maxLen at hcm
  clear H hvb e hR hlo hty
  go_enter Try.func38, Try.ntmps38
  have key : ∀ (ops : Array Oper) (rest : List Oper) (o : Oper) (q : Act) (Q : Exit → Act → World → Prop), o.guard = none → o.op = .call { callee := .builtin .append, args := #[.tmp 23, .tmp 24], argTypes := #[23, 23] } → q.eval (.tmp 23) = .slice a L.length c → q.eval (.tmp 24) = .slice (some ⟨vb, 0, none⟩) 1 1 →
      (∀ v' w', InsPost base L.length (.slice a L.length c) L x w (.returned v') w' → wpList Try.prog ops Q rest (q.put o.dst v') w') → wpList Try.prog ops Q (o :: rest) q w := by
    intro ops rest o q Q h1 h2 h3 h4 h5
    refine wp_append_rowE (S := sMacro) ti_mac rfl (by decide) _ (X := [x]) h1 (.tmp 23) (.tmp 24) h2 base (.slice a L.length c) h3 HH.out vb 1 1 h4 rfl (fun y hy => by obtain rfl := List.mem_singleton.1 hy; exact hl) (fun y hy => by obtain rfl := List.mem_singleton.1 hy; exact hx1) ?_ (fun y hy => by obtain rfl := List.mem_singleton.1 hy; exact HX.out.1) (fun y hy => by obtain rfl := List.mem_singleton.1 hy; exact HX.out.2.1) (fun y hy => by obtain rfl := List.mem_singleton.1 hy; exact HX.out.2.2) (by unfold maxLen; omega) (by omega) hbase ?_
    · intro j u hj
      rw [cell_of_row _ _ _ _ _ _ HV.out]
      simpa using hj
    · intro v' w' r1 r2
      exact h5 v' w' ⟨v', rfl, by rw [HE.out]; exact r1, r2⟩
  have HKEY := Lib.hid key
  clear key
  cases a with
  | none =>
    go_wp2_with (at_builtin; refine HKEY.out _ _ _ _ _ rfl rfl rfl rfl ?_; intro v' w' hP)
    go_ret
    exact hP
  | some ad =>
    obtain ⟨ab, ao, asp⟩ := ad
    go_wp2_with (at_builtin; refine HKEY.out _ _ _ _ _ rfl rfl rfl rfl ?_; intro v' w' hP)
    all_goals (go_ret; exact hP)

/-- What stands in a row, cell by cell. -/
theorem row_facts {base g n c : Nat} {xs : List Value} {w : World} (h : w.ownsRow base 35 4 (.slice (some ⟨g, 0, none⟩) n c) n xs) :
    ∃ cur : Array Value, w.heap[g]? = some (.cells cur 35 (0, 0)) ∧ base ≤ g ∧ n ≤ c ∧ c ≤ maxLen ∧ cur.size = c * 4 ∧ cur.toList.take (n * 4) = xs := by
  rcases h.2 with ⟨h', _⟩ | ⟨g', cap', cur, h', q2, q3, q4, q5, q6, q7⟩
  · cases h'
  · simp only [Value.slice.injEq, Option.some.injEq, Addr.mk.injEq, and_true, true_and] at h'
    obtain ⟨rfl, rfl⟩ := h'
    exact ⟨cur, q3, q2, q4, q5, q6, q7⟩

set_option maxHeartbeats 8000000 in
set_option maxRecDepth 100000 in
theorem lib_Insert_shift (base g vb c k : Nat) (L : List (Elem DMacro)) (x : Elem DMacro) (w : World) (hn : L.length ≤ 1000000) (hk : k < L.length) (hroom : L.length + 1 ≤ c) (H : RowE sMacro base 35 (.slice (some ⟨g, 0, none⟩) L.length c) L w)
    (hl : x.cells.length = 4) (hx1 : ∀ u ∈ x.cells, u.oneCell' = true) (hR : sMacro.R w x.cells x.d x.fp) (hlo : ∀ b ∈ x.fp, base ≤ b) (hty : ∀ b ∈ x.fp, ∃ cur t fr, w.heap[b]? = some (.cells cur t fr) ∧ t ≠ 35)
    (hvb : w.heap[vb]? = some (.cells x.cells.toArray 35 (0, 0))) (hne : vb ≠ g) :
    Calls Try.prog 38 #[.slice (some ⟨g, 0, none⟩) L.length c, .int .i64 k, .slice (some ⟨vb, 0, none⟩) 1 1] w (InsPost base k (.slice (some ⟨g, 0, none⟩) L.length c) L x w) := by
  obtain ⟨n, hLn⟩ : ∃ n, n = L.length := ⟨_, rfl⟩
  obtain ⟨cur, hblk, hbg, hnc, hcm, hcs, htake⟩ := row_facts H.row
  unfold maxLen at hcm
  have h4 : ∀ y ∈ L, y.cells.length = 4 := H.len
  have hone : ∀ u ∈ L.flatMap (·.cells), u.oneCell' = true := fun u hu => by
    obtain ⟨y, hy, hu⟩ := List.mem_flatMap.1 hu
    exact mac_one _ _ _ _ (H.el y hy) u hu
  obtain ⟨A, hA⟩ : ∃ A, A = (L.take k).flatMap (·.cells) := ⟨_, rfl⟩
  obtain ⟨D, hD⟩ : ∃ D, D = (L.drop k).flatMap (·.cells) := ⟨_, rfl⟩
  have hAl : A.length = k * 4 := by rw [hA, flatMap_len (f := Elem.cells) (m := 4) (fun y hy => h4 y (List.mem_of_mem_take hy)), List.length_take]; congr 1; omega
  have hDl : D.length = (n - k) * 4 := by rw [hD, flatMap_len (f := Elem.cells) (m := 4) (fun y hy => h4 y (List.mem_of_mem_drop hy)), List.length_drop, hLn]
  have hsplit : L.flatMap (·.cells) = A ++ D := by rw [hA, hD, ← List.flatMap_append, List.take_append_drop]
  have hcellD : ∀ j u, D[j]? = some u → w.cell? ⟨g, k * 4 + j, none⟩ = some u := fun j u hj => by
    have hjl : j < D.length := (List.getElem?_eq_some_iff.1 hj).1
    rw [H.row.cellAt (k * 4 + j) (by show k * 4 + j < L.length * 4; omega), hsplit, List.getElem?_append_right (by omega), hAl, Nat.add_sub_cancel_left]
    exact hj
  have hsome : ∀ j, j < c * 4 → (w.cell? ⟨g, j, none⟩).isSome = true := fun j hj => by
    rw [cell_of_row w g j _ _ _ hblk, Array.getElem?_eq_getElem (show j < cur.size by omega)]; rfl
  have hfz : ∀ j, w.frozen? ⟨g, j, none⟩ = false := fun j => frozen_of_row w g j _ _ hblk
  have hvs : ∀ j u, x.cells[j]? = some u → w.cell? ⟨vb, j, none⟩ = some u := fun j u hj => by rw [cell_of_row w vb j _ _ _ hvb]; simpa using hj
  obtain ⟨i0, hi0, hz0, hz1, hz2⟩ := info_parts ti_mac.2
  have hsz : (Try.prog.info? 35).map (·.size) = some 4 := by rw [hi0]; simp [hz1]
  have hov : ∀ lb cb, (callFunc 71 #[.slice (some ⟨vb, 0, none⟩) 1 1, .slice (some ⟨g, (k + 1) * 4, none⟩) lb cb]).run Try.prog w = .ok (.value (.bool false)) w := fun lb cb => by
    rw [run_callFunc_extern Try.func71 (by kernel_rfl) (by kernel_rfl) (by kernel_rfl) (e := Extern.SlicesOverlaps.overlaps #[23, 23] #[4]) (by kernel_rfl),
      Lib.run_overlaps_apart w 23 4 35 ti_mac.1 4 (fun W => by simp [Go.sizeOf, typeInfo, hi0, hz1]) ⟨vb, 0, none⟩ ⟨g, (k + 1) * 4, none⟩ 1 1 lb cb hne 35 35 4 (c * 4) (by simp [World.shape?, hvb, hl]) (by simp [World.shape?, hblk, hcs]) (by omega) (frozen_of_row w vb 0 _ _ hvb) (frozen_of_row w vb 4 _ _ hvb)]
    rfl
  obtain ⟨W1, hW1⟩ : ∃ W1, W1 = w.drew.setCells g ((k + 1) * 4) D := ⟨_, rfl⟩
  have hcp1 : ∀ ty dc sc, (Builtin.copy_ #[23, 23] ty #[.slice (some ⟨g, (k + 1) * 4, none⟩) (n - k) dc, .slice (some ⟨g, k * 4, none⟩) (n + 1 - k) sc]).run Try.prog w.drew = .ok (goInt ((n - k : Nat) : Int)) W1 := fun ty dc sc => by
    rw [hW1]
    exact run_copy_rows w.drew _ _ ty 35 4 (n - k) g ((k + 1) * 4) (n - k) dc ⟨g, k * 4, none⟩ (n + 1 - k) sc D ti_mac.1 hsz (by simp only [Nat.min_def]; split <;> omega) hDl
      (fun j v hj => by rw [Addr.add_lit]; exact hcellD j v hj) (fun j hj => hsome _ (by rw [hDl] at hj; omega)) (fun j hj => hfz _) (fun u hu => hone u (by rw [hsplit]; exact List.mem_append_right _ hu))
  have hs1 : ∀ j, j < c * 4 → (W1.cell? ⟨g, j, none⟩).isSome = true := fun j hj => by
    rw [hW1]
    exact isSome_setCells g D ((k + 1) * 4) w.drew (fun t ht => hsome ((k + 1) * 4 + t) (by rw [hDl] at ht; omega)) j (hsome j hj)
  have hcp2 : ∀ (W : World), (∀ y, W.cell? y = W1.cell? y) → (∀ y, W.frozen? y = W1.frozen? y) → ∀ ty dc, (Builtin.copy_ #[23, 23] ty #[.slice (some ⟨g, k * 4, none⟩) (n + 1 - k) dc, .slice (some ⟨vb, 0, none⟩) 1 1]).run Try.prog W = .ok (goInt 1) (W.setCells g (k * 4) x.cells) := fun W hWc hWf ty dc =>
    run_copy_rows W _ _ ty 35 4 1 g (k * 4) (n + 1 - k) dc ⟨vb, 0, none⟩ 1 1 x.cells ti_mac.1 hsz (by simp only [Nat.min_def]; split <;> omega) (by omega)
      (fun j v hj => by
        rw [Addr.add_lit, Nat.zero_add, hWc, hW1, World.cell?_setCells_out g _ _ _ _ (fun h _ => absurd h hne)]
        exact hvs j v hj)
      (fun j hj => by rw [hWc]; exact hs1 _ (by rw [hl] at hj; omega)) (fun j hj => by rw [hWf, hW1, World.frozen?_setCells]; exact hfz _) hx1
  have HF : Hid (InsPost base k (.slice (some ⟨g, 0, none⟩) L.length c) L x w (.returned (.slice (some ⟨g, 0, none⟩) (n + 1) c)) (W1.setCells g (k * 4) x.cells)) := by
    have hg1 : w.grownBy (W1.setCells g (k * 4) x.cells) (some g) := by
      have hK : Kept [g] w (W1.setCells g (k * 4) x.cells) := by
        rw [hW1, ← putAll_eq, ← putAll_eq]
        exact ((Kept.of_below (belowN (Below.refl _ _) 1)).trans (putAll_kept _ _ _)).trans (putAll_kept _ _ _)
      exact ⟨hK.os, hK.tape, hK.output, hK.size, fun b hb hn => hK.block b hb (by simp; intro e; exact hn (by rw [e]))⟩
    refine ⟨_, rfl, ins_E H hl hR hlo hty hg1 ?_, hg1⟩
    have hrow0 := H.row
    rw [← hLn] at hrow0
    obtain ⟨Z, hZ, hrowZ⟩ := row_wider hrow0 (by omega)
    have r1 := putAll_row D w.drew (L.flatMap (·.cells) ++ Z) ((k + 1) * 4) hrowZ
    have r2 := putAll_row x.cells _ _ (k * 4) r1
    rw [putAll_eq, putAll_eq, ← hW1, hsplit] at r2
    have e : setFrom (setFrom (A ++ D ++ Z) ((k + 1) * 4) D) (k * 4) x.cells = A ++ (x.cells ++ D) := by
      have := setFrom_two (A := A) (D := D) (X := x.cells) (Z := Z) (by rw [hl]; exact hZ) (by rw [List.length_append, List.length_append, hl]; have : Z.length = 4 := hZ; omega)
      rw [hAl, hl, show k * 4 + 4 = (k + 1) * 4 by omega] at this
      exact this
    rw [e] at r2
    rw [insAt_cells, ← hA, ← hD, ← hLn]
    exact r2
  have mixed : Try.prog.follows .mixedOrders = true := by kernel_rfl
  rw [← hLn] at HF ⊢
  have hz1' : ¬ ((k : Int) = (n : Int)) := by omega
  have hw1 : IntKind.i64.wrap ((k : Int) + 1) = (k : Int) + 1 := IntWalk.i64_in _ (by omega)
  have hw2 : IntKind.i64.wrap ((n : Int) + 1) = (n : Int) + 1 := IntWalk.i64_in _ (by omega)
  have hb1 : (0 : Int) ≤ (k : Int) + 1 := by omega
  have hb0 : (0 : Int) ≤ (n : Int) + 1 := by omega
  have hkn : k ≤ n := by omega
  have htn : ((k : Int) + 1).toNat = k + 1 := by omega
  have htn2 : ((n : Int) + 1).toNat = n + 1 := by omega
  have hb2 : ¬ (c = k + 1) := by omega
  have hb3 : (k : Int) ≤ (n : Int) + 1 := by omega
  have hb4 : ¬ (c = k) := by omega
  have hb5 : ¬ ((c : Int) < (n : Int) + 1) := by omega
  have hb6 : (n : Int) + 1 ≤ (c : Int) := by omega
  have hb7 : (k : Int) + 1 ≤ (n : Int) + 1 := by omega
  have hb8 : (k : Int) ≤ (n : Int) := by omega
  have hb9 : (k : Int) ≤ (c : Int) := by omega
  clear hcellD hsome hvs hs1 hsplit hAl hDl hA hD hone h4 H hblk hcs htake hR hlo hty hvb hfz hLn hk hroom hn hnc
  go_enter Try.func38, Try.ntmps38
  go_wp2_with (simp only [hov])
  go_region_law_o (refine step_copy_runI rfl _ _ 23 23 rfl _ _ (by simp [Act.eval, Act.put]) (by simp [Act.eval, Act.put]) (hcp1 _ _ _) ?_)
  go_wp2_with (at_builtin; refine wpList_copy_runI _ rfl _ _ 23 23 rfl _ _ rfl rfl (hcp2 _ (fun _ => rfl) (fun _ => rfl) _ _) ?_)
  go_ret
  rw [hW1] at HF
  exact HF.out

set_option maxHeartbeats 8000000 in
set_option maxRecDepth 100000 in
theorem lib_Insert_grow (base g vb c k : Nat) (L : List (Elem DMacro)) (x : Elem DMacro) (w : World) (hn : L.length ≤ 1000000) (hk : k < L.length) (hroom : c < L.length + 1) (H : RowE sMacro base 35 (.slice (some ⟨g, 0, none⟩) L.length c) L w)
    (hl : x.cells.length = 4) (hx1 : ∀ u ∈ x.cells, u.oneCell' = true) (hR : sMacro.R w x.cells x.d x.fp) (hlo : ∀ b ∈ x.fp, base ≤ b) (hty : ∀ b ∈ x.fp, ∃ cur t fr, w.heap[b]? = some (.cells cur t fr) ∧ t ≠ 35)
    (hvb : w.heap[vb]? = some (.cells x.cells.toArray 35 (0, 0))) (hbase : base ≤ w.heap.size) :
    Calls Try.prog 38 #[.slice (some ⟨g, 0, none⟩) L.length c, .int .i64 k, .slice (some ⟨vb, 0, none⟩) 1 1] w (InsPost base k (.slice (some ⟨g, 0, none⟩) L.length c) L x w) := by
  obtain ⟨n, hLn⟩ : ∃ n, n = L.length := ⟨_, rfl⟩
  obtain ⟨cur, hblk, hbg, hnc, hcm, hcs, htake⟩ := row_facts H.row
  unfold maxLen at hcm
  have h4 : ∀ y ∈ L, y.cells.length = 4 := H.len
  have hone : ∀ u ∈ L.flatMap (·.cells), u.oneCell' = true := fun u hu => by
    obtain ⟨y, hy, hu⟩ := List.mem_flatMap.1 hu
    exact mac_one _ _ _ _ (H.el y hy) u hu
  obtain ⟨A, hA⟩ : ∃ A, A = (L.take k).flatMap (·.cells) := ⟨_, rfl⟩
  obtain ⟨D, hD⟩ : ∃ D, D = (L.drop k).flatMap (·.cells) := ⟨_, rfl⟩
  have hAl : A.length = k * 4 := by rw [hA, flatMap_len (f := Elem.cells) (m := 4) (fun y hy => h4 y (List.mem_of_mem_take hy)), List.length_take]; congr 1; omega
  have hDl : D.length = (n - k) * 4 := by rw [hD, flatMap_len (f := Elem.cells) (m := 4) (fun y hy => h4 y (List.mem_of_mem_drop hy)), List.length_drop, hLn]
  have hsplit : L.flatMap (·.cells) = A ++ D := by rw [hA, hD, ← List.flatMap_append, List.take_append_drop]
  have hgl : g < w.heap.size := (Array.getElem?_eq_some_iff.1 hblk).1
  have hvl : vb < w.heap.size := (Array.getElem?_eq_some_iff.1 hvb).1
  have hcellA : ∀ j u, A[j]? = some u → w.cell? ⟨g, j, none⟩ = some u := fun j u hj => by
    have hjl : j < A.length := (List.getElem?_eq_some_iff.1 hj).1
    rw [H.row.cellAt j (by show j < L.length * 4; omega), hsplit, List.getElem?_append_left hjl]
    exact hj
  have hcellD : ∀ j u, D[j]? = some u → w.cell? ⟨g, k * 4 + j, none⟩ = some u := fun j u hj => by
    have hjl : j < D.length := (List.getElem?_eq_some_iff.1 hj).1
    rw [H.row.cellAt (k * 4 + j) (by show k * 4 + j < L.length * 4; omega), hsplit, List.getElem?_append_right (by omega), hAl, Nat.add_sub_cancel_left]
    exact hj
  have hvs : ∀ j u, x.cells[j]? = some u → w.cell? ⟨vb, j, none⟩ = some u := fun j u hj => by rw [cell_of_row w vb j _ _ _ hvb]; simpa using hj
  obtain ⟨i0, hi0, hz0, hz1, hz2⟩ := info_parts ti_mac.2
  have hsz : (Try.prog.info? 35).map (·.size) = some 4 := by rw [hi0]; simp [hz1]
  have hold : (Builtin.firstCells i0.size k (.slice (some ⟨g, 0, none⟩) k c)).run Try.prog w.drew = .ok A.toArray w.drew := by
    have hld := run_loadCells_list (P := Try.prog) w.drew ⟨g, 0, none⟩ A (fun j u hj => by rw [Addr.add_lit, Nat.zero_add]; exact hcellA j u hj)
    rw [hAl] at hld
    simp [Builtin.firstCells, hz1, hld]
  have hkk : (n : Int) + 1 - (k : Int) = ((n + 1 - k : Nat) : Int) := by omega
  have hik : k + (n + 1 - k) = n + 1 := by omega
  obtain ⟨G, hG⟩ : ∃ G, G = grownCap w (n + 1) c 35 := ⟨_, rfl⟩
  obtain ⟨ROW, hROW⟩ : ∃ ROW : Array Value, ROW = A.toArray ++ Builtin.zeroCells (Value.agg #[.string ⟨#[]⟩, .bool false, .slice none 0 0, .slice none 0 0]).cells (n + 1 - k) ++ Builtin.zeroCells (Value.agg #[.string ⟨#[]⟩, .bool false, .slice none 0 0, .slice none 0 0]).cells (G - (n + 1)) := ⟨_, rfl⟩
  have hrz : ∀ ty, (Builtin.append_ #[23, 3] ty #[.slice (some ⟨g, 0, none⟩) k c, .int .i64 ((n : Int) + 1 - (k : Int))]).run Try.prog w = .ok (.slice (some ⟨w.heap.size, 0, none⟩) (n + 1) G) (w.drew.alloc (.cells ROW 35)) := fun ty => by
    have h := Lib.run_append_grow_zeros w 23 3 ty 35 i0 _ .i64 .i64 ti_mac.1 Try.underlying3 hi0 hz0 (some ⟨g, 0, none⟩) k c A hold (n + 1 - k) (by omega) (by rw [hz1]; omega) (by omega) (by omega) (by rw [hz2]; omega) (by rw [hz2, hik]; exact growslice_fits (by omega) (by omega))
    rw [hik] at h
    rw [hkk, hROW, hG]
    exact h
  have hGn : n + 1 ≤ G := by rw [hG]; exact grownCap_ge w _ _ _
  have hGm : G ≤ maxLen := by
    have := grownCap_le_maxLen w (n + 1) c 35 (by unfold maxLen; omega)
    rwa [← hG] at this
  have hzc : ∀ m, (Builtin.zeroCells (Value.agg #[.string ⟨#[]⟩, .bool false, .slice none 0 0, .slice none 0 0]).cells m).size = m * 4 := fun m => by simp [Builtin.zeroCells, Value.cells, Nat.mul_comm]
  have hRs : ROW.size = G * 4 := by rw [hROW, Array.size_append, Array.size_append, hzc, hzc, List.size_toArray, hAl]; omega
  obtain ⟨W1, hW1⟩ : ∃ W1, W1 = w.drew.alloc (.cells ROW 35) := ⟨_, rfl⟩
  have hN : ∀ j, j < G * 4 → (W1.cell? ⟨w.heap.size, j, none⟩).isSome = true := fun j hj => by
    rw [hW1, World.cell?_alloc_at (w := w.drew) ROW _ w.heap.size j rfl, Array.getElem?_eq_getElem (by omega)]; rfl
  have hNf : ∀ j, W1.frozen? ⟨w.heap.size, j, none⟩ = false := fun j => by rw [hW1]; exact World.frozen?_alloc_at (w := w.drew) ROW _ w.heap.size j rfl
  have hOb : ∀ j u, w.cell? ⟨g, j, none⟩ = some u → W1.cell? ⟨g, j, none⟩ = some u := fun j v h => by rw [hW1, World.cell?_alloc_past (w := w.drew) _ g j hgl]; exact h
  have hOv : ∀ j u, w.cell? ⟨vb, j, none⟩ = some u → W1.cell? ⟨vb, j, none⟩ = some u := fun j v h => by rw [hW1, World.cell?_alloc_past (w := w.drew) _ vb j hvl]; exact h
  have hbN : g ≠ w.heap.size := by omega
  have hcpA : ∀ (W : World), (∀ y, W.cell? y = W1.cell? y) → (∀ y, W.frozen? y = W1.frozen? y) → ∀ ty dc, (Builtin.copy_ #[23, 23] ty #[.slice (some ⟨w.heap.size, k * 4, none⟩) (n + 1 - k) dc, .slice (some ⟨vb, 0, none⟩) 1 1]).run Try.prog W = .ok (goInt 1) (W.setCells w.heap.size (k * 4) x.cells) := fun W hWc hWf ty dc =>
    run_copy_rows W _ _ ty 35 4 1 w.heap.size (k * 4) (n + 1 - k) dc ⟨vb, 0, none⟩ 1 1 x.cells ti_mac.1 hsz (by simp only [Nat.min_def]; split <;> omega) (by omega)
      (fun j v hj => by rw [Addr.add_lit, Nat.zero_add, hWc]; exact hOv _ v (hvs j v hj))
      (fun j hj => by rw [hWc]; exact hN _ (by rw [hl] at hj; omega)) (fun j hj => by rw [hWf]; exact hNf _) hx1
  have hcpB : ∀ (W : World), (∀ y, W.cell? y = (W1.setCells w.heap.size (k * 4) x.cells).cell? y) → (∀ y, W.frozen? y = (W1.setCells w.heap.size (k * 4) x.cells).frozen? y) → ∀ ty dc sc, (Builtin.copy_ #[23, 23] ty #[.slice (some ⟨w.heap.size, (k + 1) * 4, none⟩) (n - k) dc, .slice (some ⟨g, k * 4, none⟩) (n - k) sc]).run Try.prog W = .ok (goInt ((n - k : Nat) : Int)) (W.setCells w.heap.size ((k + 1) * 4) D) := fun W hWc hWf ty dc sc =>
    run_copy_rows W _ _ ty 35 4 (n - k) w.heap.size ((k + 1) * 4) (n - k) dc ⟨g, k * 4, none⟩ (n - k) sc D ti_mac.1 hsz (by simp [Nat.min_def]) hDl
      (fun j v hj => by
        rw [Addr.add_lit, hWc, World.cell?_setCells_out _ _ _ _ _ (fun h _ => absurd h hbN)]
        exact hOb _ v (hcellD j v hj))
      (fun j hj => by rw [hWc]; exact isSome_setCells w.heap.size x.cells (k * 4) W1 (fun t ht => hN _ (by rw [hl] at ht; omega)) _ (hN _ (by rw [hDl] at hj; omega)))
      (fun j hj => by rw [hWf, World.frozen?_setCells]; exact hNf _) (fun u hu => hone u (by rw [hsplit]; exact List.mem_append_right _ hu))
  have HF : ∀ WF : World, Kept [w.heap.size] w WF → WF.heap = ((W1.setCells w.heap.size (k * 4) x.cells).setCells w.heap.size ((k + 1) * 4) D).heap → InsPost base k (.slice (some ⟨g, 0, none⟩) L.length c) L x w (.returned (.slice (some ⟨w.heap.size, 0, none⟩) (n + 1) G)) WF := by
    intro WF hK e4
    have hblkF : ∀ b, b < w.heap.size → WF.heap[b]? = w.heap[b]? := fun b hb => hK.block b hb (by simp; omega)
    have hg1 : w.grownBy WF (Value.ownBlock (.slice (some ⟨g, 0, none⟩) L.length c)) := ⟨hK.os, hK.tape, hK.output, hK.size, fun b hb _ => hblkF b hb⟩
    refine ⟨_, rfl, ins_E H hl hR hlo hty hg1 ?_, hg1⟩
    have hcur : W1.heap[w.heap.size]? = some (.cells ROW 35 (0, 0)) := by rw [hW1]; show (w.heap.push _)[_]? = _; simp
    have hrow1 : W1.ownsRow base 35 4 (.slice (some ⟨w.heap.size, 0, none⟩) (n + 1) G) (n + 1) (A ++ ((ROW.toList.drop (k * 4)).take ((n + 1 - k) * 4))) := by
      refine ⟨?_, .inr ⟨w.heap.size, G, ROW, rfl, hbase, hcur, hGn, hGm, hRs, ?_⟩⟩
      · rw [List.length_append, hAl, List.length_take, List.length_drop, Array.length_toList, hRs]; omega
      · have ht : ROW.toList.take (k * 4) = A := by
          rw [hROW, Array.append_assoc, Array.toList_append, ← hAl, List.take_append_of_le_length (by simp)]
          simp
        rw [show (n + 1) * 4 = k * 4 + (n + 1 - k) * 4 by omega, List.take_add, ht]
    have r1 := putAll_row x.cells W1 _ (k * 4) hrow1
    have r2 := putAll_row D _ _ ((k + 1) * 4) r1
    rw [putAll_eq, putAll_eq] at r2
    have hZl : ((ROW.toList.drop (k * 4)).take ((n + 1 - k) * 4)).length = 4 + (n - k) * 4 := by rw [List.length_take, List.length_drop, Array.length_toList, hRs]; omega
    have e : setFrom (setFrom (A ++ ((ROW.toList.drop (k * 4)).take ((n + 1 - k) * 4))) (k * 4) x.cells) ((k + 1) * 4) D = A ++ (x.cells ++ D) := by
      have h1 := List.take_append_drop 4 ((ROW.toList.drop (k * 4)).take ((n + 1 - k) * 4))
      rw [← h1]
      have := setFrom_fwd (A := A) (X := x.cells) (D := D) (Z1 := ((ROW.toList.drop (k * 4)).take ((n + 1 - k) * 4)).take 4) (Z2 := ((ROW.toList.drop (k * 4)).take ((n + 1 - k) * 4)).drop 4) (by rw [List.length_take, hZl, hl]; omega) (by rw [List.length_drop, hZl, hDl]; omega)
      rw [hAl, hl, show k * 4 + 4 = (k + 1) * 4 by omega] at this
      exact this
    rw [e] at r2
    rw [insAt_cells, ← hA, ← hD, ← hLn]
    refine ownsRow_same r2 fun b _ => by rw [e4]
  have HFF := Lib.hid HF
  clear HF
  have mixed : Try.prog.follows .mixedOrders = true := by kernel_rfl
  rw [← hLn] at HFF ⊢
  have hz1' : ¬ ((k : Int) = (n : Int)) := by omega
  have hw1 : IntKind.i64.wrap ((k : Int) + 1) = (k : Int) + 1 := IntWalk.i64_in _ (by omega)
  have hw2 : IntKind.i64.wrap ((n : Int) + 1) = (n : Int) + 1 := IntWalk.i64_in _ (by omega)
  have hw3 : IntKind.i64.wrap ((n : Int) + 1 - (k : Int)) = (n : Int) + 1 - (k : Int) := IntWalk.i64_in _ (by omega)
  have hb1 : (0 : Int) ≤ (k : Int) + 1 := by omega
  have hkn : k ≤ n := by omega
  have htn : ((k : Int) + 1).toNat = k + 1 := by omega
  have hb3 : (k : Int) ≤ (n : Int) := by omega
  have hb5 : (c : Int) < (n : Int) + 1 := by omega
  have hb7 : (k : Int) + 1 ≤ (n : Int) + 1 := by omega
  have hb8 : (k : Int) ≤ (n : Int) + 1 := by omega
  have hb9 : (k : Int) ≤ (c : Int) := by omega
  have hGi : ¬ (G = k) := by omega
  have hGim : ¬ (G = k + 1) := by omega
  have hci : ¬ (c = k) := by omega
  have hb10 : k ≤ c := by omega
  subst hW1
  have hE1 : ∀ y, ((w.alloc (.cells ROW 35)).drew).cell? y = (w.drew.alloc (.cells ROW 35)).cell? y := fun y => rfl
  have hE2 : ∀ y, ((w.alloc (.cells ROW 35)).drew).frozen? y = (w.drew.alloc (.cells ROW 35)).frozen? y := fun y => rfl
  have hF1 : ∀ y, (((w.alloc (.cells ROW 35)).drew.setCells w.heap.size (k * 4) x.cells).drew).cell? y = ((w.drew.alloc (.cells ROW 35)).setCells w.heap.size (k * 4) x.cells).cell? y := fun y => rfl
  have hF2 : ∀ y, (((w.alloc (.cells ROW 35)).drew.setCells w.heap.size (k * 4) x.cells).drew).frozen? y = ((w.drew.alloc (.cells ROW 35)).setCells w.heap.size (k * 4) x.cells).frozen? y := fun y => rfl
  clear hcellA hcellD hvs hsplit hAl hDl hA hD hone h4 H hblk hcs htake hR hlo hty hvb hLn hk hroom hn hnc hold hkk hik hG hROW hN hNf hOb hOv hRs hzc
  go_enter Try.func38, Try.ntmps38
  go_wp2_with (first
    | (at_builtin; refine Lib.wpList_append_run _ rfl _ _ _ _ rfl _ _ rfl rfl _ _ (hrz _) ?_)
    | (at_builtin; refine wpList_copy_runI _ rfl _ _ 23 23 rfl _ _ rfl rfl (hcpA _ hE1 hE2 _ _) ?_))
  go_region_law_o (refine step_copy_runI rfl _ _ 23 23 rfl (.slice (some ⟨w.heap.size, (k + 1) * 4, none⟩) (n - k) (G - (k + 1))) (.slice (some ⟨g, k * 4, none⟩) (n - k) (c - k)) (by simp [Act.eval, Act.put]) (by simp [Act.eval, Act.put]) (hcpB _ hF1 hF2 3 (G - (k + 1)) (c - k)) ?_)
  go_wp2
  go_ret
  refine HFF.out _ ?_ (heap_setCells _ _ _ _ _ ?_)
  · rw [← putAll_eq, ← putAll_eq]
    have h0 : Below w.heap.size w (w.alloc (.cells ROW 35)) := (Below.refl w.heap.size w).alloc (Nat.le_refl _) _
    exact (((Kept.of_below (belowN h0 1)).trans (putAll_kept _ _ _)).drewN 1).trans (putAll_kept _ _ _)
  · exact heap_setCells _ _ _ _ _ rfl

end Go.Proofs.Ythbojipdhgidlab

/- Define of the program. -/
namespace Go.Proofs.Ythbojipdhgidlab
open Go.RowKit

/-- slices.Insert of one macro, wherever. -/
theorem lib_Insert (base vb : Nat) (a : Option Addr) (c k : Nat) (L : List (Elem DMacro)) (x : Elem DMacro) (w : World) (hn : L.length ≤ 1000000) (hk : k ≤ L.length) (H : RowE sMacro base 35 (.slice a L.length c) L w)
    (hl : x.cells.length = 4) (hx1 : ∀ u ∈ x.cells, u.oneCell' = true) (hR : sMacro.R w x.cells x.d x.fp) (hlo : ∀ b ∈ x.fp, base ≤ b) (hty : ∀ b ∈ x.fp, ∃ cur t fr, w.heap[b]? = some (.cells cur t fr) ∧ t ≠ 35)
    (hvb : w.heap[vb]? = some (.cells x.cells.toArray 35 (0, 0))) (hne : ∀ g, a = some ⟨g, 0, none⟩ → vb ≠ g) (hbase : base ≤ w.heap.size) :
    Calls Try.prog 38 #[.slice a L.length c, .int .i64 k, .slice (some ⟨vb, 0, none⟩) 1 1] w (InsPost base k (.slice a L.length c) L x w) := by
  by_cases h : k = L.length
  · subst h
    exact lib_Insert_end base vb a c L x w hn H hl hx1 hR hlo hty hvb hbase
  · obtain ⟨a', c', hv, hc, hm, hp⟩ := H.val
    simp only [Value.slice.injEq, true_and] at hv
    obtain ⟨rfl, rfl⟩ := hv
    obtain ⟨g, rfl, -⟩ := hp (by omega)
    by_cases hr : L.length + 1 ≤ c
    · exact lib_Insert_shift base g vb c k L x w hn (by omega) hr H hl hx1 hR hlo hty hvb (hne g rfl)
    · exact lib_Insert_grow base g vb c k L x w hn (by omega) (by omega) H hl hx1 hR hlo hty hvb hbase
theorem own_ins {w w' : World} {lo k : Nat} {L : List (Elem DMacro)} {x : Elem DMacro} {r : Option Nat} (h1 : Own w lo (L.flatMap (·.fp))) (h2 : Own w lo x.fp) (hd : ∀ b ∈ L.flatMap (·.fp), b ∉ x.fp) (hg : w.grownBy w' r) (hr : ∀ b, b ∈ L.flatMap (·.fp) ∨ b ∈ x.fp → some b ≠ r) : Own w' lo ((insAt L k x).flatMap (·.fp)) := by
  have e : (insAt L k x).flatMap (·.fp) = (L.take k).flatMap (·.fp) ++ (x.fp ++ (L.drop k).flatMap (·.fp)) := by unfold insAt; rw [List.flatMap_append, List.flatMap_cons]
  have e2 : L.flatMap (·.fp) = (L.take k).flatMap (·.fp) ++ (L.drop k).flatMap (·.fp) := by rw [← List.flatMap_append, List.take_append_drop]
  rw [e]
  rw [e2] at h1 hd hr
  obtain ⟨o1, o2, o3⟩ := Own.split h1
  have hO : Own w lo ((L.take k).flatMap (·.fp) ++ (x.fp ++ (L.drop k).flatMap (·.fp))) := by
    refine o1.app (h2.app o2 fun b hb hx => hd b (List.mem_append_right _ hx) hb) fun b hb hx => ?_
    rcases List.mem_append.1 hx with hx | hx
    · exact hd b (List.mem_append_left _ hb) hx
    · exact o3 b hb hx
  refine own_grown hO hg fun b hb => hr b ?_
  rcases List.mem_append.1 hb with hb | hb
  · exact .inl (List.mem_append_left _ hb)
  · rcases List.mem_append.1 hb with hb | hb
    · exact .inr hb
    · exact .inl (List.mem_append_right _ hb)
theorem insAt_map {L : List (Elem DMacro)} {k : Nat} {x : Elem DMacro} : (insAt L k x).map (·.d) = putAt (L.map (·.d)) x.d k := by
  unfold insAt putAt
  rw [List.map_append, List.map_cons, List.map_take, List.map_drop, List.append_assoc]; rfl
/-- What Define of the program returns. -/
def MineDef (r : List DMacro × Bool) (w : World) (e : Ending) (w' : World) : Prop :=
  ∃ (v : Value) (L : List (Elem DMacro)), e = .returned (.tuple #[v, .bool r.2]) ∧ RowE sMacro w.heap.size 35 v L w' ∧ L.map (·.d) = r.1 ∧ Own w' w.heap.size (L.flatMap (·.fp)) ∧ Below w.heap.size w w'

set_option maxHeartbeats 16000000 in
set_option maxRecDepth 100000 in
theorem impl_Define (v : Value) (l : List DMacro) (fp : List Nat) (cs : List Value) (m : DMacro) (fpm : List Nat) (w : World) (hl : l.length ≤ 1048576) (hx : ∀ k, (hk : k < l.length) → MacSm l[k]) (hm : MacSm m) (H : (sSlice sMacro).R w [v] l fp) (Hm : sMacro.R w cs m fpm) :
    Calls Try.prog 14 #[v, .agg cs.toArray] w (MineDef (defM l m) w) := by
  have HT := Lib.hid (fun W (hW : Below w.heap.size w W) => impl_TableValid v l fp W ((sSlice sMacro).below H hW))
  have HC := Lib.hid (fun W (hW : Below w.heap.size w W) => impl_copyTable v l fp W (by omega) hx ((sSlice sMacro).below H hW))
  have HV := Lib.hid (fun W (hW : Below w.heap.size w W) => impl_MacroValid cs m fpm W (sMacro.below Hm hW))
  have HCM := Lib.hid (fun W (hW : Below w.heap.size w W) => impl_copyMacro cs m fpm W hm.1 hm.2.1 (sMacro.below Hm hW))
  have HSM := Lib.hid (fun W (hW : Below w.heap.size w W) cs' y fp' (hR : sMacro.R W cs' y fp') => impl_SameMacro cs' cs y m fp' fpm W hR (sMacro.below Hm hW))
  obtain ⟨h2', h3', q2, q3, rfl, hok, K2, K3, -⟩ := Hm
  obtain ⟨b2, d2, rfl, -⟩ := open_strs K2
  obtain ⟨b3, d3, rfl, -⟩ := open_rows K3
  clear K2 K3 H hx hm hok
  have b0 := alloc_below' w (.cells #[.string m.name, .bool m.function, .slice b2 m.params.length d2, .slice b3 m.body.length d3] 35)
  have HX0 := Lib.hid (heap_alloc_new w (.cells #[.string m.name, .bool m.function, .slice b2 m.params.length d2, .slice b3 m.body.length d3] 35))
  by_cases ht : tabOk l = true
  rotate_left
  · have HF : Hid (defM l m = ([], false)) := by show _ = _; unfold defM; rw [if_neg ht]
    have HT0 := Lib.hid (HT.out _ b0)
    rw [Bool.eq_false_iff.2 ht] at HT0
    clear ht HT HC HV HCM HSM
    go_enter Try.func14, Try.ntmps14
    go_wp2_with fail
    refine HT0.out.mono ?_
    rintro e w2 ⟨rfl, hb⟩
    go_wp2
    go_ret2
    exact ⟨_, [], by rw [HF.out]; rfl, RowE.nil _ _ _ _, by rw [HF.out]; rfl, (show Own w2 w.heap.size [] from Own.nil _ _), b0.trans (hb.mono b0.size)⟩
  have HT0 := Lib.hid (HT.out _ b0)
  rw [ht] at HT0
  rw [tab_cp ht] at HC
  have HTK := Lib.hid ht
  have hl10 := (tabOk_at ht).1
  clear ht HT
  go_enter Try.func14, Try.ntmps14
  go_wp2_with fail
  refine HT0.out.mono ?_
  rintro e w2 ⟨rfl, hb2'⟩
  have hb2 := b0.trans (hb2'.mono b0.size)
  have HX2 := Lib.hid ((hb2'.block _ (Array.getElem?_eq_some_iff.1 HX0.out).1).trans HX0.out)
  clear hb2' b0 HX0 HT0
  go_wp2_with fail
  refine (HC.out _ hb2).mono ?_
  rintro e w3 ⟨v3, L, rfl, hE, hD, hO, hb3'⟩
  have hb3 := hb2.trans (hb3'.mono hb2.size)
  have HX3 := Lib.hid ((hb3'.block _ (Array.getElem?_eq_some_iff.1 HX2.out).1).trans HX2.out)
  have HLl : Hid (L.length = l.length) := by show _ = _; rw [← hD, List.length_map]
  have HD := Lib.hid hD
  have HE3 := Lib.hid (hE.lower hb2.size)
  have HO3 := Lib.hid (hO.lower hb2.size)
  clear hE hD hO hb3' HX2 HC
  have x0 : w3.cell? ⟨w.heap.size, 0, none⟩ = some (.string m.name) := cell_of_row _ _ 0 _ _ _ HX3.out
  have x1 : w3.cell? ⟨w.heap.size, 1, none⟩ = some (.bool m.function) := cell_of_row _ _ 1 _ _ _ HX3.out
  have x2 : w3.cell? ⟨w.heap.size, 2, none⟩ = some (.slice b2 m.params.length d2) := cell_of_row _ _ 2 _ _ _ HX3.out
  have x3 : w3.cell? ⟨w.heap.size, 3, none⟩ = some (.slice b3 m.body.length d3) := cell_of_row _ _ 3 _ _ _ HX3.out
  have HVV := Lib.hid (HV.out _ hb3)
  clear HV
  by_cases hmk : macOk m = true
  rotate_left
  · have HF : Hid (defM l m = (l, false)) := by show _ = _; unfold defM; rw [if_pos HTK.out, if_neg hmk]
    rw [Bool.eq_false_iff.2 hmk] at HVV
    clear hmk HCM HSM
    go_wp2_with fail
    refine HVV.out.mono ?_
    rintro e w4 ⟨rfl, hb4⟩
    have HE4 := Lib.hid (HE3.out.below hb4)
    have HO4 := Lib.hid (HO3.out.grow hb4)
    have hB4 := hb3.trans (hb4.mono hb3.size)
    clear x0 x1 x2 x3
    go_wp2
    go_ret2
    exact ⟨_, L, by rw [HF.out]; rfl, HE4.out, by rw [HF.out]; exact HD.out, HO4.out, hB4⟩
  rw [hmk] at HVV
  have HMK := Lib.hid hmk
  clear hmk
  go_wp2_with fail
  refine HVV.out.mono ?_
  rintro e w4 ⟨rfl, hb4⟩
  have HE4 := Lib.hid (HE3.out.below hb4)
  have HO4 := Lib.hid (HO3.out.grow hb4)
  have hB4 := hb3.trans (hb4.mono hb3.size)
  have HX4 := Lib.hid ((hb4.block _ (Array.getElem?_eq_some_iff.1 HX3.out).1).trans HX3.out)
  have y0 : w4.cell? ⟨w.heap.size, 0, none⟩ = some (.string m.name) := cell_of_row _ _ 0 _ _ _ HX4.out
  obtain ⟨f4, r4, -⟩ := HE4.out.read
  rw [HD.out] at r4
  have HPL := Lib.hid (impl_placeOf v3 l m.name f4 w4 HTK.out r4)
  obtain ⟨a3, c3, rfl, hc3, hm3, hp3⟩ := HE4.out.val
  unfold maxLen at hm3
  clear r4 x0 x1 x2 x3 HVV HE3 HO3 hb4 HX3 hb3
  go_wp2_with fail
  refine HPL.out.mono ?_
  rintro e w5 ⟨rfl, hb5⟩
  have HE5 := Lib.hid (HE4.out.below hb5)
  have HO5 := Lib.hid (HO4.out.grow hb5)
  have hB5 := hB4.trans (hb5.mono hB4.size)
  have HX5 := Lib.hid ((hb5.block _ (Array.getElem?_eq_some_iff.1 HX4.out).1).trans HX4.out)
  have x0 : w5.cell? ⟨w.heap.size, 0, none⟩ = some (.string m.name) := cell_of_row _ _ 0 _ _ _ HX5.out
  have x1 : w5.cell? ⟨w.heap.size, 1, none⟩ = some (.bool m.function) := cell_of_row _ _ 1 _ _ _ HX5.out
  have x2 : w5.cell? ⟨w.heap.size, 2, none⟩ = some (.slice b2 m.params.length d2) := cell_of_row _ _ 2 _ _ _ HX5.out
  have x3 : w5.cell? ⟨w.heap.size, 3, none⟩ = some (.slice b3 m.body.length d3) := cell_of_row _ _ 3 _ _ _ HX5.out
  have hgs : w.heap.size < w5.heap.size := (Array.getElem?_eq_some_iff.1 HX5.out).1
  clear HE4 HO4 HX4 y0 HPL hb5
  cases hi : isIn l m.name
  rotate_left
  · -- there is one with this name
    have hlow := isIn_lt hi
    have hnL : lowAt l m.name < L.length := by rw [HLl.out]; exact hlow
    have HF : Hid (defM l m = (l, sameMac l[lowAt l m.name] m)) := by show _ = _; unfold defM; rw [if_pos HTK.out, if_pos HMK.out, if_pos hi, dif_pos hlow]
    have hdl : L[lowAt l m.name].d = l[lowAt l m.name] := by
      have : (L.map (·.d))[lowAt l m.name]'(by rw [List.length_map]; exact hnL) = L[lowAt l m.name].d := List.getElem_map _
      rw [← this]
      simp only [HD.out]
    have hRL := HE5.out.el _ (List.getElem_mem hnL)
    rw [hdl] at hRL
    obtain ⟨g, rfl, hgb, -⟩ := hp3 (by omega)
    have HCELL := Lib.hid (fun j u (hj : j < 4) (hu : L[lowAt l m.name].cells[j]? = some u) => HE5.out.cellAt hnL (j := j) hj hu)
    have hRd := sMacro.below hRL (belowN (Below.refl w5.heap.size w5) 1)
    obtain ⟨e2, e3, r2, r3, hcs, -, K2, K3, -⟩ := hRL
    rw [hcs] at HCELL hRd
    obtain ⟨f2, g2, rfl, -⟩ := open_strs K2
    obtain ⟨f3, g3, rfl, -⟩ := open_rows K3
    generalize hq : l[lowAt l m.name] = q at *
    have c0 := HCELL.out 0 _ (by decide) rfl
    have c1 := HCELL.out 1 _ (by decide) rfl
    have c2 := HCELL.out 2 _ (by decide) rfl
    have c3' := HCELL.out 3 _ (by decide) rfl
    have HS5 := Lib.hid (HSM.out (w5.drewN 1) (hB5.trans ((belowN (Below.refl w5.heap.size w5) 1).mono hB5.size)) _ q _ hRd)
    have hg5 : g < w5.heap.size := (HE5.out.row.lt g rfl).2
    have hm4 : sMacro.m = 4 := rfl
    rw [hm4] at c0 c1 c2 c3'
    have hnl : ((lowAt l m.name : Nat) : Int) < (L.length : Int) := by omega
    clear hdl hcs K2 K3 hq HCELL hRd hlow hi HCM HSM hp3
    generalize lowAt l m.name = n at *
    go_wp2_with fail
    go_region_held3 (fun w' => w'.cell? ⟨g, n * 4, none⟩ = some (.string q.name) ∧ w'.cell? ⟨g, n * 4 + 1, none⟩ = some (.bool q.function) ∧ w'.cell? ⟨g, n * 4 + 2, none⟩ = some (.slice f2 q.params.length g2) ∧ w'.cell? ⟨g, n * 4 + 3, none⟩ = some (.slice f3 q.body.length g3) ∧ w'.cell? ⟨w.heap.size, 0, none⟩ = some (.string m.name) ∧ w'.cell? ⟨w.heap.size, 1, none⟩ = some (.bool m.function) ∧ w'.cell? ⟨w.heap.size, 2, none⟩ = some (.slice b2 m.params.length d2) ∧ w'.cell? ⟨w.heap.size, 3, none⟩ = some (.slice b3 m.body.length d3))
      (first | exact ⟨c0, c1, c2, c3', x0, x1, x2, x3⟩ | exact ⟨(b30.cell (by show g < w5.heap.size; exact hg5)).trans c0, (b30.cell (by show g < w5.heap.size; exact hg5)).trans c1, (b30.cell (by show g < w5.heap.size; exact hg5)).trans c2, (b30.cell (by show g < w5.heap.size; exact hg5)).trans c3', (b30.cell (by show w.heap.size < w5.heap.size; exact hgs)).trans x0, (b30.cell (by show w.heap.size < w5.heap.size; exact hgs)).trans x1, (b30.cell (by show w.heap.size < w5.heap.size; exact hgs)).trans x2, (b30.cell (by show w.heap.size < w5.heap.size; exact hgs)).trans x3⟩)
      (first | (go_at_call 37; refine HS5.out.mono ?_; rintro e w6 ⟨rfl, b30⟩))
    have HE6 := Lib.hid (HE5.out.below ((belowN (Below.refl w5.heap.size w5) 1).trans b30))
    have HO6 := Lib.hid (HO5.out.grow ((belowN (Below.refl w5.heap.size w5) 1).trans b30))
    have hB6 := hB5.trans (((belowN (Below.refl w5.heap.size w5) 1).trans b30).mono hB5.size)
    clear c0 c1 c2 c3' x0 x1 x2 x3 b30 HS5
    go_wp2
    go_ret2
    exact ⟨_, L, by rw [HF.out]; rfl, HE6.out, by rw [HF.out]; exact HD.out, HO6.out, hB6⟩
  · by_cases h10 : l.length = 10
    · have HF : Hid (defM l m = (l, false)) := by show _ = _; unfold defM; rw [if_pos HTK.out, if_pos HMK.out, hi, if_neg (by simp), if_pos h10]
      have e0 : ((L.length : Int) == 10) = true := by rw [HLl.out, h10]; rfl
      clear h10 hi HCM HSM hp3
      go_wp2
      go_ret2
      exact ⟨_, L, by rw [HF.out]; rfl, HE5.out, by rw [HF.out]; exact HD.out, HO5.out, hB5⟩
    · have HF : Hid (defM l m = (putAt l m (lowAt l m.name), true)) := by show _ = _; unfold defM; rw [if_pos HTK.out, if_pos HMK.out, hi, if_neg (by simp), if_neg h10]
      have e0 : ((L.length : Int) == 10) = false := by rw [HLl.out]; simp; omega
      have hnl : lowAt l m.name ≤ L.length := by rw [HLl.out]; exact lowFrom_le l m.name 0 (by omega)
      have HCC := Lib.hid (HCM.out _ hB5)
      clear h10 hi HCM HSM
      generalize lowAt l m.name = n at *
      go_wp2_with fail
      refine HCC.out.mono ?_
      rintro e w6 ⟨p2, p3, s2, s3, fp6, rfl, hR6, hO6, hN6, hb6⟩
      rw [cpMac_ok HMK.out] at hR6
      have bl := alloc_below' w6 (.cells #[.string m.name, .bool m.function, .slice p2 m.params.length s2, .slice p3 m.body.length s3] 35)
      have HL7 := Lib.hid (heap_alloc_new w6 (.cells #[.string m.name, .bool m.function, .slice p2 m.params.length s2, .slice p3 m.body.length s3] 35))
      have hb67 := hb6.trans (bl.mono hb6.size)
      have hE7 := HE5.out.below hb67
      have hO7 := HO5.out.grow hb67
      have hX7 := hO6.grow bl
      have hN7 := hN6.below bl
      have hB7 := hB5.trans (hb67.mono hB5.size)
      have hs6 := hb6.size
      have hs7 := hb67.size
      have hap : ∀ b ∈ L.flatMap (·.fp), b ∉ fp6 := fun b hb hx => by
        have h1 := HO5.out.lt b hb
        have h2 := (hO6.2 b hx).1
        omega
      have hINS := lib_Insert w.heap.size w6.heap.size a3 c3 n L ⟨[.string m.name, .bool m.function, .slice p2 m.params.length s2, .slice p3 m.body.length s3], m, fp6⟩ _ (by rw [HLl.out]; omega) hnl hE7 rfl (by simp [Value.oneCell']) (sMacro.below hR6 bl) (fun b hb => by have := (hO6.2 b hb).1; omega) hN7 HL7.out (fun g hg => by
        have := (HE5.out.row.lt g (by rw [hg]; rfl)).2
        omega) (by omega)
      have HINS := Lib.hid hINS
      have HALL := Lib.hid (And.intro hE7 (And.intro hO7 (And.intro (hX7.lower (by omega : w.heap.size ≤ w5.heap.size)) hN7)))
      have HAP := Lib.hid hap
      clear hINS hE7 hO7 hX7 hN7 hap hR6 hO6 hN6 hb67 bl HE5 HO5 HX5 x0 x1 x2 x3
      go_wp2_with fail
      refine HINS.out.mono ?_
      rintro e w8 ⟨v8, rfl, hE8, hg8⟩
      have HE8 := Lib.hid hE8
      have HO8 : Hid (Own w8 w.heap.size ((insAt L n (⟨[.string m.name, .bool m.function, .slice p2 m.params.length s2, .slice p3 m.body.length s3], m, fp6⟩ : Elem DMacro)).flatMap (·.fp))) := own_ins HALL.out.2.1 HALL.out.2.2.1 HAP.out hg8 (fun b hb e => by
        rcases hb with hb | hb
        · obtain ⟨y, hy, hb'⟩ := List.mem_flatMap.1 hb
          exact HALL.out.1.ap hy hb' e.symm
        · obtain ⟨cur, t, fr, z1, z2⟩ := HALL.out.2.2.2 b hb
          rcases HALL.out.1.row.2 with ⟨h0, _⟩ | ⟨g, capg, curg, q1, q2, q3, -⟩
          · rw [h0] at e; simp [Value.ownBlock] at e
          · rw [q1] at e
            simp only [Value.ownBlock, Option.some.injEq] at e
            subst e
            rw [z1] at q3
            simp only [Option.some.injEq, Obj.cells.injEq] at q3
            exact z2 q3.2.1)
      have hB8 := hB7.grown hg8 hB7.size HALL.out.1.mine
      have HDD : Hid ((insAt L n (⟨[.string m.name, .bool m.function, .slice p2 m.params.length s2, .slice p3 m.body.length s3], m, fp6⟩ : Elem DMacro)).map (·.d) = putAt l m n) := by show _ = _; rw [insAt_map, HD.out]
      clear hE8 hg8
      go_wp2
      go_ret2
      exact ⟨_, _, by rw [HF.out]; rfl, HE8.out, by rw [HF.out]; exact HDD.out, HO8.out, hB8⟩

end Go.Proofs.Ythbojipdhgidlab

/- The program's reading of parameters. -/
namespace Go.Proofs.Ythbojipdhgidlab
open Go.RowKit

theorem cl_ways (l : List Tok) (k : Nat) : idxCl l k = -1 ∨ ∃ e : Nat, idxCl l k = (e : Int) ∧ k ≤ e ∧ e < l.length := by
  induction k using idxCl.induct (l := l) with
  | case1 k h hc => exact .inr ⟨k, cl_hit h hc, Nat.le_refl _, h⟩
  | case2 k h hc ih =>
    rw [cl_miss h (by simpa using hc)]
    rcases ih with h1 | ⟨e, h1, h2, h3⟩
    · exact .inl h1
    · exact .inr ⟨e, h1, by omega, h3⟩
  | case3 k h => exact .inl (cl_end (by omega))
/-- The texts at even places, of the first k. -/
def evs (ins : List Tok) : Nat → List ByteArray
  | 0 => []
  | k + 1 => if h : k < ins.length then (if k % 2 = 0 then evs ins k ++ [ins[k].text] else evs ins k) else evs ins k
/-- Whether those at odd places, of the first k, are commas. -/
def coms (ins : List Tok) : Nat → Bool
  | 0 => true
  | k + 1 => coms ins k && (if h : k < ins.length then (k % 2 == 0 || ins[k].text.toList == [44]) else true)
def insOf (l : List Tok) (e : Nat) : List Tok := (l.take e).drop 1
/-- What the program reads: the parameters, and the place behind them, or -1. -/
def rpRes (l : List Tok) : List ByteArray × Int :=
  if idxCl l 0 < 0 then ([], -1) else
    (if 0 < (insOf l (idxCl l 0).toNat).length ∧ (insOf l (idxCl l 0).toNat).length % 2 = 0 then ([], -1) else
      (if coms (insOf l (idxCl l 0).toNat) (insOf l (idxCl l 0).toNat).length = true then (evs (insOf l (idxCl l 0).toNat) (insOf l (idxCl l 0).toNat).length, idxCl l 0 + 1) else ([], -1)))
theorem evs_even {ins : List Tok} {k : Nat} (h : k < ins.length) (h2 : k % 2 = 0) : evs ins (k + 1) = evs ins k ++ [ins[k].text] := by rw [evs, dif_pos h, if_pos h2]
theorem evs_odd {ins : List Tok} {k : Nat} (h2 : ¬ k % 2 = 0) : evs ins (k + 1) = evs ins k := by rw [evs]; split <;> simp [h2]
theorem evs_len (ins : List Tok) : ∀ k, (evs ins k).length ≤ k
  | 0 => Nat.le_refl _
  | k + 1 => by
    have := evs_len ins k
    rw [evs]
    split
    · split
      · rw [List.length_append]; simp; omega
      · omega
    · omega
theorem coms_even {ins : List Tok} {k : Nat} (h2 : k % 2 = 0) : coms ins (k + 1) = coms ins k := by rw [coms]; split <;> simp [h2]
theorem coms_odd {ins : List Tok} {k : Nat} (h : k < ins.length) (h2 : ¬ k % 2 = 0) : coms ins (k + 1) = (coms ins k && ins[k].text.toList == [44]) := by
  rw [coms, dif_pos h]
  have : (k % 2 == 0) = false := by simp [h2]
  rw [this, Bool.false_or]
theorem coms_no {ins : List Tok} {k : Nat} (h : coms ins k = false) : ∀ j, k ≤ j → coms ins j = false := by
  intro j hj
  induction j with
  | zero => have : k = 0 := by omega
            subst this; exact h
  | succ j ih =>
    by_cases e : k = j + 1
    · subst e; exact h
    · rw [coms, ih (by omega), Bool.false_and]
theorem ins_len {l : List Tok} {e : Nat} (h : e < l.length) : (insOf l e).length = e - 1 := by unfold insOf; simp; omega
theorem ins_get {l : List Tok} {e k : Nat} (h : e < l.length) (hk : k < (insOf l e).length) : (insOf l e)[k] = l[k + 1]'(by have := ins_len h; omega) := by
  unfold insOf
  simp [Nat.add_comm]

/-- What is read, as a contract. -/
def RP (l : List Tok) (w : World) (e : Ending) (w' : World) : Prop := ∃ v' fp', e = .returned (.tuple #[v', .int .i64 (rpRes l).2]) ∧ (sSlice sStr).R w' [v'] (rpRes l).1 fp' ∧ Own w' w.heap.size fp' ∧ Below w.heap.size w w'
theorem rp_none {l : List Tok} {w w' : World} (h : rpRes l = ([], -1)) (hb : Below w.heap.size w w') : RP l w (.returned (.tuple #[.slice none 0 0, .int .i64 (-1)])) w' :=
  ⟨.slice none 0 0, [], by rw [h], by rw [h]; exact slice_empty sStr w' none 0 (by simp), Own.nil _ _, hb⟩

end Go.Proofs.Ythbojipdhgidlab

/- What the program reads as parameters is what the model reads, up to macros that are not valid: no program. -/
namespace Go.Proofs.Ythbojipdhgidlab
open Go.RowKit

theorem kind_head {t : Tok} (h : tokOk t = true) {c : UInt8} {l : List UInt8} (e : t.text = ⟨(c :: l).toArray⟩) : t.kind = cutKind c := by
  obtain ⟨h0, hk⟩ := (tokOk_facts h).1
  obtain ⟨k, x, s, hd⟩ := t
  obtain rfl : x = ⟨(c :: l).toArray⟩ := e
  exact hk
theorem kind_name {t : Tok} (h : tokOk t = true) (h1 : oneTok t.text 1 = true) : t.kind = 1 := by
  obtain ⟨h0, k1⟩ := (tokOk_facts h).1
  obtain ⟨_, k2⟩ := (tokOk_facts (nameT_ok h1)).1
  exact k1.trans k2.symm
theorem close_kind {t : Tok} (h : tokOk t = true) (e : t.text = closeB) : t.kind = 4 := kind_head (c := 41) (l := []) h e
theorem name_no_close {t : Tok} (h : tokOk t = true) (hk : t.kind = 1) : t.text ≠ closeB := fun e => by
  have := close_kind h e
  omega
theorem com_no_close : commaB ≠ closeB := by decide
theorem op_no_close : openB ≠ closeB := by decide
theorem txt_eq {x : ByteArray} {l : List UInt8} (h : (x.toList == l) = true) : x = ⟨l.toArray⟩ := by rw [txt_dec] at h; exact of_decide_eq_true h

theorem pat_reads {l : List Tok} (hT : ∀ k, (hk : k < l.length) → tokOk l[k] = true) (k : Nat) : ∀ ps b, parsAt l k = some (ps, b) → k % 2 = 0 → 2 ≤ k →
    k + 2 ≤ b ∧ b ≤ l.length ∧ b % 2 = 0 ∧ (∀ j, (hj : j < l.length) → k ≤ j → j + 1 < b → l[j].text ≠ closeB) ∧ (∀ h : b - 1 < l.length, l[b - 1].text = closeB) ∧
    (∀ ins : List Tok, ins.length = b - 3 → (∀ j, (hj : j < ins.length) → ∃ h : j + 2 < l.length, ins[j] = l[j + 2]) → coms ins (k - 2) = true → coms ins (b - 3) = true ∧ evs ins (b - 3) = evs ins (k - 2) ++ ps) := by
  induction k using parsAt.induct (l := l) with
  | case1 k h h1 h2 =>
    intro ps b hp hk hk2
    rw [pa_close h h1 h2, Option.some.injEq, Prod.mk.injEq] at hp
    obtain ⟨rfl, rfl⟩ := hp
    refine ⟨by omega, by omega, by omega, fun j hj hkj hjb => ?_, fun _ => ?_, fun ins hl hi hc => ?_⟩
    · obtain rfl : j = k := by omega
      exact name_no_close (hT _ _) h1
    · exact h2
    · have hk3 : k - 2 < ins.length := by omega
      have e1 : k + 2 - 3 = k - 2 + 1 := by omega
      obtain ⟨g, e2⟩ := hi (k - 2) hk3
      have e3 : ins[k - 2].text = l[k].text := by rw [e2]; congr 2; omega
      rw [e1, coms_even (by omega), evs_even hk3 (by omega), e3]
      exact ⟨hc, rfl⟩
  | case2 k h h1 h2 h3 ih =>
    intro ps b hp hk hk2
    rw [pa_comma h h1 h2 h3, Option.map_eq_some_iff] at hp
    obtain ⟨⟨q, b'⟩, hq, he⟩ := hp
    rw [Prod.mk.injEq] at he
    obtain ⟨rfl, rfl⟩ := he
    obtain ⟨g1, g2, g3, g4, g5, g6⟩ := ih q b' hq (by omega) (by omega)
    refine ⟨by omega, g2, g3, fun j hj hkj hjb => ?_, g5, fun ins hl hi hc => ?_⟩
    · by_cases e : j = k
      · subst e; exact name_no_close (hT _ _) h1
      · by_cases e' : j = k + 1
        · subst e'; exact h2
        · exact g4 j hj (by omega) hjb
    · have hk3 : k - 2 < ins.length := by omega
      have hk4 : k - 2 + 1 < ins.length := by omega
      have e1 : k + 2 - 2 = k - 2 + 1 + 1 := by omega
      obtain ⟨ga, e2⟩ := hi (k - 2) hk3
      have e3 : ins[k - 2].text = l[k].text := by rw [e2]; congr 2; omega
      obtain ⟨gb, e4⟩ := hi (k - 2 + 1) hk4
      have e5 : ins[k - 2 + 1].text = l[k + 1].text := by rw [e4]; congr 2; omega
      have hc2 : coms ins (k + 2 - 2) = true := by
        rw [e1, coms_odd hk4 (by omega), coms_even (by omega), hc, e5, txt_t (l := [44]) h3]; rfl
      obtain ⟨f1, f2⟩ := g6 ins hl hi hc2
      refine ⟨f1, ?_⟩
      rw [f2, e1, evs_odd (by omega), evs_even hk3 (by omega), e3, List.append_assoc]
      rfl
  | case3 k h h1 h2 h3 => intro ps b hp; rw [pa_other h h1 h2 h3] at hp; cases hp
  | case4 k h h1 => intro ps b hp; rw [pa_kind h h1] at hp; cases hp
  | case5 k h => intro ps b hp; rw [pa_end h] at hp; cases hp

theorem cl_first {L : List Tok} {e : Nat} (he : e < L.length) (h1 : ∀ j, (hj : j < L.length) → j < e → (L[j].text.toList == [41]) = false) (h2 : (L[e].text.toList == [41]) = true) : ∀ d k, k + d = e → idxCl L k = e := by
  intro d
  induction d with
  | zero => intro k hk; obtain rfl : k = e := by omega
            exact cl_hit he h2
  | succ d ih => intro k hk; rw [cl_miss (by omega) (h1 k (by omega) (by omega))]; exact ih (k + 1) (by omega)
theorem cl_is {l : List Tok} (k : Nat) : ∀ e : Nat, idxCl l k = (e : Int) → ∃ h : e < l.length, k ≤ e ∧ (l[e].text.toList == [41]) = true ∧ ∀ j, (hj : j < l.length) → k ≤ j → j < e → (l[j].text.toList == [41]) = false := by
  induction k using idxCl.induct (l := l) with
  | case1 k h hc =>
    intro e he
    rw [cl_hit h hc] at he
    obtain rfl : k = e := by omega
    exact ⟨h, Nat.le_refl _, hc, fun j _ _ _ => by omega⟩
  | case2 k h hc ih =>
    intro e he
    rw [cl_miss h (by simpa using hc)] at he
    obtain ⟨g1, g2, g3, g4⟩ := ih e he
    refine ⟨g1, by omega, g3, fun j hj hkj hje => ?_⟩
    by_cases e' : j = k
    · subst e'; simpa using hc
    · exact g4 j hj (by omega) hje
  | case3 k h => intro e he; rw [cl_end (by omega)] at he; omega

/-- What is read as parameters of the model is read so by the program. -/
theorem rp_some {l : List Tok} (hT : ∀ k, (hk : k < l.length) → tokOk l[k] = true) (ho : opens2 l = true) {ps : List ByteArray} {b : Nat} (h : parsOf l = some (ps, b)) : rpRes (l.drop 1) = (ps, (b : Int) - 1) ∧ 3 ≤ b ∧ b ≤ l.length := by
  have h1 : 1 < l.length := by
    by_cases h1 : 1 < l.length
    · exact h1
    · rw [op_short h1] at ho; simp at ho
  have hop : l[1].text = openB := by
    by_cases e : l[1].text = openB
    · exact e
    · rw [op_other h1 e] at ho; simp at ho
  have hg : ∀ j, (hj : j < (l.drop 1).length) → ∃ h : j + 1 < l.length, (l.drop 1)[j] = l[j + 1] := fun j hj => by
    rw [List.length_drop] at hj
    exact ⟨by omega, by simp [Nat.add_comm]⟩
  have hlen : (l.drop 1).length = l.length - 1 := List.length_drop
  unfold parsOf at h
  split at h
  · rename_i h2
    split at h
    · rename_i h3
      rw [Option.some.injEq, Prod.mk.injEq] at h
      obtain ⟨rfl, rfl⟩ := h
      have hc : idxCl (l.drop 1) 0 = (1 : Nat) := by
        refine cl_first (by omega) (fun j hj hje => ?_) ?_ 1 0 rfl
        · obtain rfl : j = 0 := by omega
          obtain ⟨_, e⟩ := hg 0 hj
          rw [e]
          exact txt_f (l := [41]) (by rw [hop]; exact op_no_close)
        · obtain ⟨_, e⟩ := hg 1 (by omega)
          rw [e]
          exact txt_t (l := [41]) h3.1
      refine ⟨?_, by omega, by omega⟩
      have hi : insOf (l.drop 1) 1 = [] := List.length_eq_zero_iff.1 (by rw [ins_len (by omega)])
      unfold rpRes
      rw [hc, if_neg (by omega)]
      simp only [Int.toNat_natCast, hi]
      rfl
    · obtain ⟨g1, g2, g3, g4, g5, g6⟩ := pat_reads hT 2 ps b h rfl (Nat.le_refl _)
      have hc : idxCl (l.drop 1) 0 = ((b - 2 : Nat) : Int) := by
        refine cl_first (by omega) (fun j hj hje => ?_) ?_ (b - 2) 0 (by omega)
        · obtain ⟨g, e⟩ := hg j hj
          rw [e]
          refine txt_f (l := [41]) ?_
          by_cases e0 : j = 0
          · subst e0
            rw [hop]; exact op_no_close
          · exact g4 (j + 1) g (by omega) (by omega)
        · obtain ⟨g, e⟩ := hg (b - 2) (by omega)
          have e5 := g5 (by omega)
          have e6 : l[b - 2 + 1].text = l[b - 1].text := by congr 2; omega
          rw [e]
          exact txt_t (l := [41]) (e6.trans e5)
      have hil := ins_len (l := l.drop 1) (e := b - 2) (by omega)
      have hib : (insOf (l.drop 1) (b - 2)).length = b - 3 := by omega
      obtain ⟨f1, f2⟩ := g6 (insOf (l.drop 1) (b - 2)) hib (fun j hj => by
        have := ins_get (l := l.drop 1) (e := b - 2) (k := j) (by omega) hj
        obtain ⟨g, e⟩ := hg (j + 1) (by omega)
        exact ⟨by omega, this.trans e⟩) rfl
      refine ⟨?_, by omega, g2⟩
      unfold rpRes
      rw [hc, if_neg (by omega)]
      show (if 0 < (insOf (l.drop 1) (b - 2)).length ∧ (insOf (l.drop 1) (b - 2)).length % 2 = 0 then _ else if coms (insOf (l.drop 1) (b - 2)) (insOf (l.drop 1) (b - 2)).length = true then (evs (insOf (l.drop 1) (b - 2)) (insOf (l.drop 1) (b - 2)).length, ((b - 2 : Nat) : Int) + 1) else _) = _
      rw [hib, if_neg (by omega), if_pos f1, f2]
      show (([] : List ByteArray) ++ ps, _) = _
      rw [List.nil_append, Prod.mk.injEq]
      exact ⟨rfl, by omega⟩
  · cases h

theorem evs_mem {ins : List Tok} : ∀ k j, j < k → (hj : j < ins.length) → j % 2 = 0 → ins[j].text ∈ evs ins k
  | 0, j, h, _, _ => by omega
  | k + 1, j, h, hj, h2 => by
    by_cases e : j = k
    · subst e; rw [evs_even hj h2]; simp
    · have ih := evs_mem k j (by omega) hj h2
      rw [evs]
      split
      · split
        · exact List.mem_append.2 (.inl ih)
        · exact ih
      · exact ih
theorem coms_at {ins : List Tok} : ∀ k, coms ins k = true → ∀ j, j < k → (hj : j < ins.length) → ¬ j % 2 = 0 → (ins[j].text.toList == [44]) = true
  | 0, _, j, h, _, _ => by omega
  | k + 1, hc, j, h, hj, h2 => by
    by_cases e : j = k
    · subst e
      rw [coms_odd hj h2, Bool.and_eq_true] at hc
      exact hc.2
    · refine coms_at k ?_ j (by omega) hj h2
      rw [coms, Bool.and_eq_true] at hc
      exact hc.1

theorem pat_some {l : List Tok} {c : Nat} (hc : c < l.length) (hcl : l[c].text = closeB) (hn : ∀ j, (hj : j < l.length) → 2 ≤ j → j < c → j % 2 = 0 → l[j].kind = 1) (hm : ∀ j, (hj : j < l.length) → 2 ≤ j → j < c → ¬ j % 2 = 0 → l[j].text = commaB) :
    ∀ d k, k + 2 * d + 1 = c → 2 ≤ k → k % 2 = 0 → ∃ p, parsAt l k = some p := by
  intro d
  induction d with
  | zero =>
    intro k hk h2 he
    have hk1 : k + 1 = c := by omega
    subst hk1
    exact ⟨_, pa_close hc (hn k (by omega) h2 (by omega) he) hcl⟩
  | succ d ih =>
    intro k hk h2 he
    obtain ⟨p, hp⟩ := ih (k + 2) (by omega) (by omega) (by omega)
    have e := hm (k + 1) (by omega) (by omega) (by omega) (by omega)
    rw [pa_comma (by omega) (hn k (by omega) h2 (by omega) he) (by rw [e]; exact com_no_close) e, hp]
    exact ⟨_, rfl⟩

/-- What the model does not read as parameters the program does not, or the macro is not valid. -/
theorem rp_none_of {l : List Tok} (hT : ∀ k, (hk : k < l.length) → tokOk l[k] = true) (ho : opens2 l = true) (h : parsOf l = none) (hb : 0 ≤ (rpRes (l.drop 1)).2) (nm : ByteArray) (bd : List Tok) : macOk ⟨nm, true, (rpRes (l.drop 1)).1, bd⟩ = false := by
  cases hv : macOk ⟨nm, true, (rpRes (l.drop 1)).1, bd⟩
  · rfl
  exfalso
  obtain ⟨_, hpar, _⟩ := macOk_facts hv
  have h1 : 1 < l.length := by
    by_cases h1 : 1 < l.length
    · exact h1
    · rw [op_short h1] at ho; simp at ho
  have hop : l[1].text = openB := by
    by_cases e : l[1].text = openB
    · exact e
    · rw [op_other h1 e] at ho; simp at ho
  have hlen : (l.drop 1).length = l.length - 1 := List.length_drop
  have hg : ∀ j, (hj : j < (l.drop 1).length) → ∃ h : j + 1 < l.length, (l.drop 1)[j] = l[j + 1] := fun j hj => by
    rw [hlen] at hj
    exact ⟨by omega, by simp [Nat.add_comm]⟩
  rcases cl_ways (l.drop 1) 0 with hn | ⟨e, he, -, hel⟩
  · unfold rpRes at hb; rw [hn, if_pos (by omega)] at hb; simp at hb
  obtain ⟨_, _, hc1, hc2⟩ := cl_is 0 e he
  obtain ⟨gc, ec⟩ := hg e hel
  rw [ec] at hc1
  have hclose : l[e + 1].text = closeB := txt_eq (l := [41]) hc1
  have he0 : 0 < e := by
    rcases Nat.eq_zero_or_pos e with h0 | h0
    · subst h0
      have : l[0 + 1].text = l[1].text := rfl
      rw [this, hop] at hclose
      exact absurd hclose op_no_close
    · exact h0
  have hil := ins_len hel
  have hrp : rpRes (l.drop 1) = (if 0 < (insOf (l.drop 1) e).length ∧ (insOf (l.drop 1) e).length % 2 = 0 then ([], -1) else (if coms (insOf (l.drop 1) e) (insOf (l.drop 1) e).length = true then (evs (insOf (l.drop 1) e) (insOf (l.drop 1) e).length, (e : Int) + 1) else ([], -1))) := by
    unfold rpRes
    rw [he, if_neg (by omega)]
    rfl
  rw [hil] at hrp
  have hodd : ¬ (0 < e - 1 ∧ (e - 1) % 2 = 0) := fun hh => by rw [if_pos hh] at hrp; rw [hrp] at hb; simp at hb
  rw [if_neg hodd] at hrp
  have hcm : coms (insOf (l.drop 1) e) (e - 1) = true := by
    cases hcm : coms (insOf (l.drop 1) e) (e - 1)
    · rw [hcm, if_neg (by simp)] at hrp; rw [hrp] at hb; simp at hb
    · rfl
  rw [if_pos hcm] at hrp
  rw [hrp] at hpar
  have hins : ∀ j, (hj : j < (insOf (l.drop 1) e).length) → ∃ h : j + 2 < l.length, (insOf (l.drop 1) e)[j] = l[j + 2] := fun j hj => by
    have := ins_get hel hj
    obtain ⟨g, e'⟩ := hg (j + 1) (by omega)
    exact ⟨by omega, this.trans e'⟩
  have hs : ∃ p, parsOf l = some p := by
    unfold parsOf
    rw [dif_pos (show 2 < l.length by omega)]
    by_cases h3 : l[2].text = closeB ∧ l[2].kind = 4
    · rw [if_pos h3]; exact ⟨_, rfl⟩
    rw [if_neg h3]
    have he2 : ¬ e = 1 := fun e1 => by
      subst e1
      exact h3 ⟨hclose, close_kind (hT _ _) hclose⟩
    refine pat_some (c := e + 1) gc hclose (fun j hj hj2 hjc he => ?_) (fun j hj hj2 hjc he => ?_) ((e - 2) / 2) 2 (by omega) (by omega) rfl
    · have hj' : j - 2 < (insOf (l.drop 1) e).length := by omega
      obtain ⟨g, e1⟩ := hins (j - 2) hj'
      have hm := evs_mem (ins := insOf (l.drop 1) e) (e - 1) (j - 2) (by omega) hj' (by omega)
      obtain ⟨i, hi, ei⟩ := List.getElem_of_mem hm
      have ho1 := hpar i hi
      rw [ei, e1] at ho1
      have e2 : l[j - 2 + 2] = l[j] := by congr 1; omega
      rw [e2] at ho1
      exact kind_name (hT j hj) ho1
    · have hj' : j - 2 < (insOf (l.drop 1) e).length := by omega
      obtain ⟨g, e1⟩ := hins (j - 2) hj'
      have hm := coms_at (ins := insOf (l.drop 1) e) (e - 1) hcm (j - 2) (by omega) hj' (by omega)
      have e2 : l[j - 2 + 2] = l[j] := by congr 1; omega
      rw [e1, e2] at hm
      exact txt_eq (l := [44]) hm
  obtain ⟨p, hp⟩ := hs
  rw [h] at hp
  cases hp

theorem rp_le (L : List Tok) (h : 0 ≤ (rpRes L).2) : (rpRes L).2.toNat ≤ L.length ∧ (rpRes L).1.length ≤ L.length := by
  rcases cl_ways L 0 with hn | ⟨e, he, -, hel⟩
  · unfold rpRes at h; rw [hn, if_pos (by omega)] at h; simp at h
  · have hl := evs_len (insOf L e) (insOf L e).length
    have hi := ins_len hel
    have hrp : rpRes L = (if 0 < (insOf L e).length ∧ (insOf L e).length % 2 = 0 then ([], -1) else (if coms (insOf L e) (insOf L e).length = true then (evs (insOf L e) (insOf L e).length, (e : Int) + 1) else ([], -1))) := by
      unfold rpRes
      rw [he, if_neg (by omega)]
      rfl
    rw [hrp] at h ⊢
    split at h
    · simp at h
    · rename_i h1
      rw [if_neg h1]
      split at h
      · rename_i h2
        rw [if_pos h2]
        show ((e : Int) + 1).toNat ≤ _ ∧ _
        exact ⟨by omega, by show (evs _ _).length ≤ _; omega⟩
      · simp at h
theorem of_rpno {l : List Tok} (h : toksOk l = true) (h0 : 0 < l.length) (ho : opens2 l = true) (hn : (rpRes (l.drop 1)).2 < 0) : macOf l = (zeroMac, false) := by
  have hT := (toksOk_facts h).2
  cases hp : parsOf l with
  | none => exact of_pno h h0 ho hp
  | some p =>
    obtain ⟨ps, b⟩ := p
    obtain ⟨e, h3, _⟩ := rp_some hT ho hp
    rw [e] at hn
    have : (b : Int) - 1 < 0 := hn
    omega
theorem of_rp {l : List Tok} (h : toksOk l = true) (h0 : 0 < l.length) (ho : opens2 l = true) (hn : 0 ≤ (rpRes (l.drop 1)).2) : macOf l = macChk ⟨l[0].text, true, (rpRes (l.drop 1)).1, bodyFrom l (1 + (rpRes (l.drop 1)).2.toNat)⟩ := by
  have hT := (toksOk_facts h).2
  cases hp : parsOf l with
  | none => rw [of_pno h h0 ho hp, chk_no (rp_none_of hT ho hp hn _ _)]
  | some p =>
    obtain ⟨ps, b⟩ := p
    obtain ⟨e, h3, _⟩ := rp_some hT ho hp
    rw [of_pars h h0 ho hp, e]
    show _ = macChk ⟨l[0].text, true, ps, bodyFrom l (1 + ((b : Int) - 1).toNat)⟩
    rw [show 1 + ((b : Int) - 1).toNat = b by omega]
theorem bodyFrom_drop (l : List Tok) (j k : Nat) : bodyFrom (l.drop j) k = bodyFrom l (j + k) := by unfold bodyFrom; rw [List.drop_drop]

end Go.Proofs.Ythbojipdhgidlab

/- MacroOf of the program. (Made by gen_mac14.py.) -/
namespace Go.Proofs.Ythbojipdhgidlab
open Go.RowKit
end Go.Proofs.Ythbojipdhgidlab

/- MacroOf of both, as the exact law calls them. -/
namespace Go.Proofs.Ythbojipdhgidlab
open Go.RowKit

theorem wtTokenS_len {l : List Tok} (h : wtTokenS l ≤ 1048576) : l.length ≤ 1048576 := by unfold wtTokenS at h; omega
theorem wtTokenS_hid {l : List Tok} (h : wtTokenS l ≤ 1048576) : ∀ k, (hk : k < l.length) → l[k].hidden.length ≤ 2000000 := fun k hk => by
  have h1 := wsum_at wtToken l k hk
  unfold wtTokenS at h
  have h2 : wtToken l[k] = l[k].text.size + (l[k].hidden.length + (l[k].hidden.map (·.size)).sum) := rfl
  omega
theorem cnt_bare : ∀ {l : List Tok}, (∀ t ∈ l, t.hidden = []) → cntTokenS l = 3 * l.length
  | [], _ => rfl
  | t :: l, h => by
    have ih := cnt_bare (l := l) (fun t ht => h t (by simp [ht]))
    have h1 : cntTokenS (t :: l) = cntToken t + cntTokenS l := by unfold cntTokenS cntAll; simp
    have h2 : cntToken t = 3 + t.hidden.length := rfl
    rw [h1, ih, h2, h t (by simp)]
    simp; omega
theorem cntTokenS_le : ∀ l : List Tok, cntTokenS l ≤ 3 * wtTokenS l
  | [] => Nat.zero_le _
  | t :: l => by
    have ih := cntTokenS_le l
    have h1 : cntTokenS (t :: l) = cntToken t + cntTokenS l := by unfold cntTokenS cntAll; simp
    have h2 : cntToken t = 3 + t.hidden.length := rfl
    have h3 : wtTokenS (t :: l) = 1 + wtToken t + wtTokenS l := by unfold wtTokenS; simp; omega
    have h4 : wtToken t = t.text.size + (t.hidden.length + (t.hidden.map (·.size)).sum) := rfl
    omega
theorem cntMacro_le (x : DMacro) : cntMacro x ≤ 2 + 3 * wtMacro x := by
  have h1 := cntTokenS_le x.body
  have h2 : wtMacro x = x.name.size + (x.params.length + (x.params.map (·.size)).sum) + wtTokenS x.body := rfl
  have h3 : cntMacro x = 2 + x.params.length + cntTokenS x.body := rfl
  omega
theorem cntVMacro_le (x : DMacro) : cntVMacro x ≤ 3 * wtMacro x := by
  have h1 := cntTokenS_le x.body
  have h2 : wtMacro x = x.name.size + (x.params.length + (x.params.map (·.size)).sum) + wtTokenS x.body := rfl
  have h3 : cntVMacro x = x.params.length + cntTokenS x.body := rfl
  omega
theorem cntMacroS_le : ∀ l : List DMacro, cntMacroS l ≤ 3 * wtMacroS l
  | [] => Nat.zero_le _
  | m :: l => by
    have ih := cntMacroS_le l
    have h1 : cntMacroS (m :: l) = cntMacro m + cntMacroS l := by unfold cntMacroS cntAll; simp
    have h2 := cntMacro_le m
    have h3 : wtMacroS (m :: l) = 1 + wtMacro m + wtMacroS l := by unfold wtMacroS; simp; omega
    omega
theorem macOk_cnt {m : DMacro} (h : macOk m = true) : cntVMacro m ≤ 64 := by
  obtain ⟨⟨h1, h2, h3, h4, h5⟩, h6, h7⟩ := macOk_facts h
  have := cnt_bare (l := m.body) (fun t ht => by
    obtain ⟨k, hk, rfl⟩ := List.getElem_of_mem ht
    exact (bodOk_facts hk (h7 k hk)).2.1)
  unfold cntVMacro
  omega
theorem MacroOf_cnt (l : List Tok) : cntVMacro (macOf l).1 ≤ 1000 := by
  rcases h : macOf l with ⟨m, ok⟩
  cases ok
  · have := macOf_no h
    subst this
    show cntVMacro zeroMac ≤ 1000
    decide
  · have := macOk_cnt (macOf_ok h)
    show cntVMacro m ≤ 1000
    omega
theorem spec_MacroOf_w (v : Value) (l : List Tok) (fp : List Nat) (w : World) (hw : wtTokenS l ≤ 1048576) (H : (sSlice sTok).R w [v] l fp) :
    Calls Try.prog 68 #[v] w (MOf l w) := spec_MacroOf v l fp w (wtTokenS_len hw) (wtTokenS_hid hw) H
end Go.Proofs.Ythbojipdhgidlab

/- Undefine of both, as the exact law calls them. -/
namespace Go.Proofs.Ythbojipdhgidlab
open Go.RowKit

theorem spec_Undefine_w (v : Value) (l : List DMacro) (fp : List Nat) (nm : ByteArray) (w : World) (hw : wtMacroS l ≤ 1048576) (H : (sSlice sMacro).R w [v] l fp) (hok : okStr nm) :
    Calls Try.prog 9 #[v, .string nm] w (RetTab (unDef l nm) w) := spec_Undefine v l nm fp w (wtMacroS_sm hw).1 (wtMacroS_sm hw).2 H
theorem mine_ret {l : List DMacro} {w : World} {e : Ending} {w' : World} (h : MineTab l w e w') : RetOwn l w e w' := by
  obtain ⟨v, L, he, hE, hD, hO, hb⟩ := h
  obtain ⟨fp, h1, -, h3⟩ := slice_of_row hE.row fun x hx => ⟨hE.len x hx, hE.el x hx⟩
  refine ⟨v, fp, he, by rw [← hD]; exact h1, h3 hO fun g hg hm => ?_, hb⟩
  obtain ⟨x, hx, hb'⟩ := List.mem_flatMap.1 hm
  exact hE.ap hx hb' hg
theorem impl_Undefine_w (v : Value) (l : List DMacro) (fp : List Nat) (nm : ByteArray) (w : World) (hw : wtMacroS l ≤ 1048576) (H : (sSlice sMacro).R w [v] l fp) (hok : okStr nm) :
    Calls Try.prog 7 #[v, .string nm] w (RetOwn (unDef l nm) w) := by
  by_cases hl : l.length ≤ 1000000
  · exact (impl_Undefine v l nm fp w hl (wtMacroS_sm hw).2 H).mono fun _ _ h => mine_ret h
  · -- no table is so long
    have HT := Lib.hid (impl_TableValid v l fp w H)
    have ht : ¬ tabOk l = true := fun h => by have := (tabOk_at h).1; omega
    have HU : Hid (unDef l nm = []) := by show _ = _; unfold unDef; rw [if_neg ht]
    rw [Bool.eq_false_iff.2 ht] at HT
    clear ht hl H hw
    go_enter Try.func7, Try.ntmps7
    go_wp2_with fail
    refine HT.out.mono ?_
    rintro e w2 ⟨rfl, hb⟩
    go_wp2
    go_ret
    exact ⟨_, [], rfl, by rw [HU.out]; exact slice_empty sMacro _ none 0 (by simp), Own.nil _ _, hb⟩
theorem cntMacroS_tab : ∀ {l : List DMacro}, (∀ m ∈ l, macOk m = true) → cntMacroS l ≤ 66 * l.length
  | [], _ => Nat.le_refl _
  | m :: l, h => by
    have ih := cntMacroS_tab (l := l) (fun m hm => h m (by simp [hm]))
    have h1 : cntMacroS (m :: l) = cntMacro m + cntMacroS l := by unfold cntMacroS cntAll; simp
    have h2 := macOk_cnt (h m (by simp))
    have h3 : cntMacro m = 2 + cntVMacro m := by
      show 2 + m.params.length + cntTokenS m.body = 2 + (m.params.length + cntTokenS m.body)
      omega
    rw [h1, List.length_cons]
    omega
theorem tab_all {l : List DMacro} (h : tabOk l = true) : ∀ m ∈ l, macOk m = true := fun m hm => by
  obtain ⟨j, hj, rfl⟩ := List.getElem_of_mem hm
  have := (tabOk_at h).2 j hj
  unfold tabAt at this
  rw [dif_pos hj] at this
  exact (Bool.and_eq_true_iff.1 this).1
theorem Undefine_cnt (l : List DMacro) (nm : ByteArray) : cntMacroS (unDef l nm) ≤ 1000 := by
  unfold unDef
  by_cases h : tabOk l = true
  · rw [if_pos h]
    have h1 := cntMacroS_tab (l := l.filter (keepN nm)) (fun m hm => tab_all h m (List.mem_filter.1 hm).1)
    have h2 := List.length_filter_le (keepN nm) l
    have h3 := (tabOk_at h).1
    omega
  · rw [if_neg h]
    show cntMacroS [] ≤ 1000
    exact Nat.zero_le _

end Go.Proofs.Ythbojipdhgidlab

/- Define of both, as the exact law calls them. -/
namespace Go.Proofs.Ythbojipdhgidlab
open Go.RowKit

theorem wtMacro_sm {m : DMacro} (h : wtMacro m ≤ 1048576) : MacSm m := by
  have h2 : wtMacro m = m.name.size + (m.params.length + (m.params.map (·.size)).sum) + wtTokenS m.body := rfl
  have h3 : wtTokenS m.body ≤ 1048576 := by omega
  have h4 : m.body.length ≤ 1048576 := by unfold wtTokenS at h3; omega
  refine ⟨by omega, h4, fun j hj => ?_⟩
  have h5 := wsum_at wtToken m.body j hj
  unfold wtTokenS at h3
  have h6 : wtToken m.body[j] = m.body[j].text.size + (m.body[j].hidden.length + (m.body[j].hidden.map (·.size)).sum) := rfl
  omega
def RetDefW (r : List DMacro × Bool) (w : World) (e : Ending) (w' : World) : Prop :=
  ∃ (v : Value) (fp : List Nat), e = .returned (.tuple #[v, .bool r.2]) ∧ (sSlice sMacro).R w' [v] r.1 fp ∧ (∀ b ∈ fp, w.heap.size ≤ b) ∧ Below w.heap.size w w'
def MineDefW (r : List DMacro × Bool) (w : World) (e : Ending) (w' : World) : Prop :=
  ∃ (v : Value) (fp : List Nat), e = .returned (.tuple #[v, .bool r.2]) ∧ (sSlice sMacro).R w' [v] r.1 fp ∧ Own w' w.heap.size fp ∧ Below w.heap.size w w'
theorem retDef_w {r : List DMacro × Bool} {w : World} {e : Ending} {w' : World} (h : RetDef r w e w') : RetDefW r w e w' := by
  obtain ⟨v, L, top, he, hG, hD, ht, _, hlo, hb⟩ := h
  obtain ⟨fp, h1, h2, -⟩ := hG.read
  refine ⟨v, fp, he, by rw [← hD]; exact h1, fun b hb' => ?_, hb⟩
  rcases h2 b hb' with h0 | ⟨x, hx, h0⟩
  · have := hG.mine b h0; omega
  · exact hlo x hx b h0
theorem mineDef_w {r : List DMacro × Bool} {w : World} {e : Ending} {w' : World} (h : MineDef r w e w') : MineDefW r w e w' := by
  obtain ⟨v, L, he, hE, hD, hO, hb⟩ := h
  obtain ⟨fp, h1, -, h3⟩ := slice_of_row hE.row fun x hx => ⟨hE.len x hx, hE.el x hx⟩
  refine ⟨v, fp, he, by rw [← hD]; exact h1, h3 hO fun g hg hm => ?_, hb⟩
  obtain ⟨x, hx, hb'⟩ := List.mem_flatMap.1 hm
  exact hE.ap hx hb' hg
theorem spec_Define_w (v : Value) (l : List DMacro) (fp : List Nat) (cs : List Value) (m : DMacro) (fpm : List Nat) (w : World) (hw : wtMacroS l ≤ 1048576) (hw2 : wtMacro m ≤ 1048576) (H : (sSlice sMacro).R w [v] l fp) (Hm : sMacro.R w cs m fpm) :
    Calls Try.prog 15 #[v, .agg cs.toArray] w (RetDefW (defM l m) w) := (spec_Define v l fp cs m fpm w (wtMacroS_sm hw).1 (wtMacroS_sm hw).2 (wtMacro_sm hw2) H Hm).mono fun _ _ h => retDef_w h
theorem impl_Define_w (v : Value) (l : List DMacro) (fp : List Nat) (cs : List Value) (m : DMacro) (fpm : List Nat) (w : World) (hw : wtMacroS l ≤ 1048576) (hw2 : wtMacro m ≤ 1048576) (H : (sSlice sMacro).R w [v] l fp) (Hm : sMacro.R w cs m fpm) :
    Calls Try.prog 14 #[v, .agg cs.toArray] w (MineDefW (defM l m) w) := (impl_Define v l fp cs m fpm w (wtMacroS_sm hw).1 (wtMacroS_sm hw).2 (wtMacro_sm hw2) H Hm).mono fun _ _ h => mineDef_w h
theorem defM_valid {l : List DMacro} {m : DMacro} : ∀ x ∈ (defM l m).1, macOk x = true := by
  intro x hx
  by_cases ht : tabOk l = true
  · by_cases hm : macOk m = true
    · rcases defM_mem x hx with h | rfl
      · exact tab_all ht x h
      · exact hm
    · have : (defM l m).1 = l := by unfold defM; rw [if_pos ht, if_neg hm]
      rw [this] at hx
      exact tab_all ht x hx
  · have : (defM l m).1 = [] := by unfold defM; rw [if_neg ht]
    rw [this] at hx; simp at hx
theorem defM_len11 (l : List DMacro) (m : DMacro) : (defM l m).1.length ≤ 11 := by
  by_cases ht : tabOk l = true
  · have h1 := defM_len l m
    have h2 := (tabOk_at ht).1
    omega
  · have : (defM l m).1 = [] := by unfold defM; rw [if_neg ht]
    rw [this]; simp
theorem Define_cnt (l : List DMacro) (m : DMacro) : cntMacroS (defM l m).1 ≤ 1000 := by
  have h1 := cntMacroS_tab (defM_valid (l := l) (m := m))
  have h2 := defM_len11 l m
  omega

end Go.Proofs.Ythbojipdhgidlab
