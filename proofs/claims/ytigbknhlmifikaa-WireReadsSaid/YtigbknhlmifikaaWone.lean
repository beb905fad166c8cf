/- What the law WireOne needs: values that were read, and lists of them that grow beside a reader. -/
import Derived.Test.YtigbknhlmifikaaWlaws5
import Derived.Test.YtigbknhlmifikaaWlaws6
import Derived.Deep.CutRange
namespace Go.Proofs.Ytigbknhlmifikaa
open Go.RowKit Hb Wm

theorem rL_facts (s : St) : (rL s).1.length ≤ s.2.length ∧ ∀ y ∈ (rL s).1, -9223372036854775808 ≤ y ∧ y ≤ 9223372036854775807 := by
  by_cases h0 : s.1 = 0
  · obtain ⟨e, p⟩ := s
    obtain rfl : e = 0 := h0
    by_cases h1 : (rL (0, p)).2.1 = 0
    · have e1 := congrArg List.length (rL_one h1)
      have e2 := encI_le (rL (0, p)).1
      simp only [List.length_append] at e1
      refine ⟨by simp only; omega, ?_⟩
      by_cases h2 : (rLen (0, p)).2.1 = 0
      · have e : rL (0, p) = rN (rLen (0, p)).1 (rLen (0, p)).2.2 := by unfold rL; rw [if_pos h2]
        rw [e] at h1 ⊢
        exact (rN_one _ _ h1).2.2
      · have e : rL (0, p) = ([], (rLen (0, p)).2.1, []) := by unfold rL; rw [if_neg h2]
        rw [e]; simp
    · by_cases h2 : (rLen (0, p)).2.1 = 0
      · have e : rL (0, p) = rN (rLen (0, p)).1 (rLen (0, p)).2.2 := by unfold rL; rw [if_pos h2]
        rw [e] at h1 ⊢
        rw [rN_err _ _ h1]; simp
      · have e : rL (0, p) = ([], (rLen (0, p)).2.1, []) := by unfold rL; rw [if_neg h2]
        rw [e]; simp
  · have e : rL s = ([], s.1, []) := by
      have := rV_no s h0 5
      have e2 : rV s 5 = (({ k := 5, l := (rL s).1 } : VV), (rL s).2) := rfl
      rw [e2] at this
      have h1 := congrArg (fun y => y.1.l) this
      have h2 := congrArg (fun y => y.2) this
      exact Prod.ext h1 h2
    rw [e]; simp
theorem rV_ok (s : St) (k : Nat) (hk : k ≤ 5) (hs : s.2.length ≤ 1000) : (rV s k).1.ok := by
  have hu := rU_lt s
  have hz := unzz_range hu
  have hr := rR_len s
  obtain ⟨hl, hll⟩ := rL_facts s
  unfold rV
  split
  · exact ⟨by simp only; omega, hu, by simp, by simp, by simp, by simp⟩
  split
  · exact ⟨by simp only; omega, by simp, hz, by simp, by simp, by simp⟩
  split
  · exact ⟨by simp only; omega, by simp, by simp only; split <;> simp, by simp, by simp, by simp⟩
  split
  · exact ⟨by simp only; omega, by simp, by simp, by simp only; omega, by simp, by simp⟩
  · exact ⟨by simp only; omega, by simp, by simp, by simp, by simp only; omega, hll⟩
/-- what has been read of the bytes tb -/
def OneSt (tb : List UInt8) (gs : List VV) (s : St) : Prop := (∀ v ∈ gs, v.ok) ∧ (s.1 = 0 → encs gs ++ s.2 = tb) ∧ s.2.length ≤ tb.length
theorem OneSt.start (tb : List UInt8) : OneSt tb [] (0, tb) := ⟨by simp, fun _ => rfl, Nat.le_refl _⟩
theorem OneSt.step {tb : List UInt8} {gs : List VV} {s : St} (h : OneSt tb gs s) (k : Nat) (hk : k ≤ 5) (ht : tb.length ≤ 1000) (he : (rV s k).2.1 ≠ 0 → (rV s k).2.2 = []) : OneSt tb (gs ++ [(rV s k).1]) (rV s k).2 := by
  obtain ⟨h1, h2, h3⟩ := h
  refine ⟨fun v hv => ?_, fun h0 => ?_, ?_⟩
  · rcases List.mem_append.1 hv with h | h
    · exact h1 v h
    · rw [List.mem_singleton.1 h]; exact rV_ok s k hk (by omega)
  · by_cases hs : s.1 = 0
    · have e := h2 hs
      obtain ⟨e0, p⟩ := s
      obtain rfl : e0 = 0 := hs
      rw [encs_snoc, List.append_assoc, ← rV_one h0]
      exact e
    · rw [rV_no s hs] at h0; exact absurd h0 hs
  · by_cases h0 : (rV s k).2.1 = 0
    · by_cases hs : s.1 = 0
      · obtain ⟨e0, p⟩ := s
        obtain rfl : e0 = 0 := hs
        have := congrArg List.length (rV_one h0)
        rw [List.length_append] at this
        simp only at h3
        omega
      · rw [rV_no s hs]; simp
    · rw [he h0]; simp
theorem OneSt.fin {tb : List UInt8} {gs : List VV} {s : St} (h : OneSt tb gs s) (he : endOf s = 0) : encs gs = tb := by
  unfold endOf at he
  by_cases h1 : s.1 = 0 ∧ 0 < s.2.length
  · rw [if_pos h1] at he; cases he
  · rw [if_neg h1] at he
    have := h.2.1 he
    have e : s.2 = [] := List.eq_nil_of_length_eq_zero (by omega)
    rw [e, List.append_nil] at this
    exact this
theorem Box2.not_row {W : World} {p : Nat} {t : TypeId} {c0 c1 : Value} (h : Box2 W p t c0 c1) {e : TypeId} (he : t ≠ e) {base size k : Nat} {v : Value} {xs : List Value} (hr : W.ownsRow base e size v k xs) : v.ownBlock ≠ some p := by
  rcases hr.2 with ⟨rfl, _⟩ | ⟨g, cap, cur, rfl, _, hgb, _⟩
  · simp [Value.ownBlock]
  · intro e'
    obtain rfl : g = p := by simpa [Value.ownBlock] using e'
    have := (show W.heap[g]? = _ from h).symm.trans hgb
    simp at this
    exact he this.2
/-- a list of values is kept where a reader reads -/
theorem OwnVs.reader {w W : World} {base n p : Nat} {x : Value} {vs : List VV} {Q : Nat → Prop} {s : St} (h : OwnVs w base x n vs) (hr : Rr w p Q s) (hg : w.grownBy W (some p)) : OwnVs W base x n vs := by
  obtain ⟨_, _, A, m, c, hb, _⟩ := hr
  obtain ⟨rs, ho, h1, h2, hall⟩ := h
  refine ⟨rs, ho.kept hg (.inr (Box2.not_row hb (by decide) ho)), h1, h2, fun j r v hr hv => ?_⟩
  obtain ⟨a, b, c, d, e⟩ := hall j r v hr hv
  exact ⟨a, b, c, d.kept hg hb (by decide), e.kept hg hb (by decide)⟩
/-- one more value behind an append -/
theorem OwnVs.push {wc w2 : World} {base i : Nat} {x x' : Value} {vs : List VV} {rs : List RV} {r : RV} {v : VV} {tmp : Obj}
    (hox : wc.ownsRow base 28 5 x i (rs.flatMap RV.cells)) (hrl : rs.length = i) (hvl : vs.length = i)
    (hall : ∀ (j : Nat) (r : RV) (v : VV), rs[j]? = some r → vs[j]? = some v → RvOwn wc base r v) (hr : RvOwn wc base r v)
    (hown' : w2.ownsRow base 28 5 x' (i + 1) (rs.flatMap RV.cells ++ r.cells)) (hgrow : (wc.alloc tmp).grownBy w2 x.ownBlock) : OwnVs w2 base x' (i + 1) (vs ++ [v]) :=
  OwnVs.app (rs2 := [r]) (vs2 := [v]) (k := 1) hox hrl hvl hall rfl rfl (by
    intro j r' v' hr' hv'
    match j with
    | 0 => cases hr'; cases hv'; exact hr
    | j + 1 => cases hr') (by simpa using hown') hgrow
end Go.Proofs.Ytigbknhlmifikaa
