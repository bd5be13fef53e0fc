/- How many tokens there are: no program. -/
import Derived.Test.YtigbaeokccknaaaTok5
import Derived.Test.YtigbaeokccknaaaTokL
namespace Go.Proofs.Ytigbaeokccknaaa
open Go.RowKit

theorem toks_all (s : ByteArray) : ∀ (k : Nat) (sp : Bool) (n : Nat) (l : List Tok), toks s k sp n = some l → n ≤ 60 → n + l.length ≤ 60 ∧ ∀ t ∈ l, t.hidden = [] := by
  intro k sp n
  induction k, sp, n using toks.induct (s := s) with
  | case1 k sp n hk h32 ih =>
    intro l h hn
    rw [toks, dif_pos hk, if_pos h32] at h
    exact ih l h hn
  | case2 k sp n hk h32 hb =>
    intro l h hn
    rw [toks, dif_pos hk, if_neg h32, if_pos hb] at h
    exact absurd h (by simp)
  | case3 k sp n hk h32 hb ih =>
    intro l h hn
    rw [toks, dif_pos hk, if_neg h32, if_neg hb] at h
    rw [Option.map_eq_some_iff] at h
    obtain ⟨l', h1, rfl⟩ := h
    obtain ⟨a, b⟩ := ih l' h1 (by omega)
    refine ⟨by simp only [List.length_cons]; omega, fun t ht => ?_⟩
    rcases List.mem_cons.1 ht with rfl | ht
    · rfl
    · exact b t ht
  | case4 k sp n hk =>
    intro l h hn
    rw [toks, dif_neg hk] at h
    simp only [Option.some.injEq] at h
    subst h; simp; exact hn
theorem tokRes_all (s : ByteArray) : (tokRes s).1.length ≤ 60 ∧ ∀ t ∈ (tokRes s).1, t.hidden = [] := by
  rcases hr : tokRes s with ⟨l, ok⟩
  cases ok
  · obtain rfl := tokRes_false hr
    simp
  · obtain ⟨h1, _⟩ := tokRes_true hr
    have := toks_all s 0 false 0 l h1 (by omega)
    exact ⟨by simpa using this.1, this.2⟩
theorem cntTokenS_plain : ∀ {l : List Tok}, (∀ t ∈ l, t.hidden = []) → cntTokenS l = 3 * l.length
  | [], _ => rfl
  | t :: l, h => by
    have ih := cntTokenS_plain (l := l) fun x hx => h x (by simp [hx])
    unfold cntTokenS cntAll at *
    rw [List.map_cons, List.sum_cons, ih]
    have : cntToken t = 3 := by unfold cntToken; rw [h t (by simp)]; rfl
    rw [this, List.length_cons]; omega
def TokensOf_Cnt (x : ByteArray) : Prop := cntTokenS (tokRes x).1 ≤ 180
theorem TokensOf_cnt (x : ByteArray) : TokensOf_Cnt x := by
  have h := tokRes_all x
  unfold TokensOf_Cnt
  rw [cntTokenS_plain h.2]; omega

end Go.Proofs.Ytigbaeokccknaaa
