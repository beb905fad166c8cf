/- The plain mathematics of package wire, the rest: round trips, one encoding, prefixes. No program is named here. -/
import Derived.Test.YtagjecbgbpjobaaWmath
namespace Go.Proofs.Ytagjecbgbpjobaa.Wm
open Go Go.RowKit

/-- more bytes behind change neither what is read nor that it is no value -/
def Ext {α : Type} (f : List UInt8 → α × St) : Prop := ∀ p q, ((f p).2.1 = 0 → f (p ++ q) = ((f p).1, 0, (f p).2.2 ++ q)) ∧ ((f p).2.1 = 2 → (f (p ++ q)).2.1 = 2) ∧ ((f p).2.1 = 0 ∨ (f p).2.1 = 2 ∨ (f p).2.1 = 3)
theorem rU_zero (p : List UInt8) : rU (0, p) = ((ru 0 p).2.1, (ru 0 p).1, (ru 0 p).2.2) := rfl
theorem rU_ext : Ext fun p => rU (0, p) := fun p q => by
  simp only [rU_zero]
  obtain ⟨h1, h2⟩ := ru_ext q p 0
  refine ⟨fun h => by rw [h1 h], fun h => by rw [h2 h], ru_errs p 0⟩
theorem rU_err0 (p : List UInt8) (h : (rU (0, p)).2.1 ≠ 0) : rU (0, p) = (0, (rU (0, p)).2.1, []) := by
  simp only [rU_zero] at h ⊢
  have := ru_err p 0 h
  rw [this]
theorem rLen_ext : Ext fun p => rLen (0, p) := fun p q => by
  obtain ⟨h1, h2, h3⟩ := rU_ext p q
  simp only at h1 h2 h3 ⊢
  by_cases h0 : (rU (0, p)).2.1 = 0
  · by_cases hl : (rU (0, p)).2.2.length < (rU (0, p)).1
    · have e : rLen (0, p) = (0, 3, []) := by unfold rLen; rw [if_pos h0, if_pos hl]
      rw [e]; simp
    · have e : rLen (0, p) = rU (0, p) := by unfold rLen; rw [if_pos h0, if_neg hl]
      have e2 : rLen (0, p ++ q) = rU (0, p ++ q) := by unfold rLen; rw [h1 h0, if_pos rfl, if_neg (by simp only [List.length_append]; omega)]
      rw [e, e2, h1 h0]
      exact ⟨fun _ => rfl, fun h => by omega, .inl h0⟩
  · have e : rLen (0, p) = (0, (rU (0, p)).2.1, []) := by unfold rLen; rw [if_neg h0]
    rw [e]
    refine ⟨fun h => absurd h h0, fun h => ?_, h3⟩
    have h4 := h2 h
    have e2 : rLen (0, p ++ q) = (0, (rU (0, p ++ q)).2.1, []) := by unfold rLen; rw [if_neg (by omega)]
    rw [e2]; exact h4
theorem rLen_le (s : St) (h : (rLen s).2.1 = 0) : (rLen s).1 ≤ (rLen s).2.2.length := by
  by_cases h0 : (rU s).2.1 = 0
  · by_cases hl : (rU s).2.2.length < (rU s).1
    · have e : rLen s = (0, 3, []) := by unfold rLen; rw [if_pos h0, if_pos hl]
      rw [e]; simp
    · have e : rLen s = rU s := by unfold rLen; rw [if_pos h0, if_neg hl]
      rw [e]; omega
  · have e : rLen s = (0, (rU s).2.1, []) := by unfold rLen; rw [if_neg h0]
    rw [e]; simp
theorem rR_ext : Ext fun p => rR (0, p) := fun p q => by
  obtain ⟨h1, h2, h3⟩ := rLen_ext p q
  have hle := rLen_le (0, p)
  simp only at h1 h2 h3 ⊢
  by_cases h0 : (rLen (0, p)).2.1 = 0
  · have e : rR (0, p) = ((rLen (0, p)).2.2.take (rLen (0, p)).1, 0, (rLen (0, p)).2.2.drop (rLen (0, p)).1) := by unfold rR; rw [if_pos h0]
    have e2 : rR (0, p ++ q) = (((rLen (0, p)).2.2 ++ q).take (rLen (0, p)).1, 0, ((rLen (0, p)).2.2 ++ q).drop (rLen (0, p)).1) := by unfold rR; rw [h1 h0, if_pos rfl]
    rw [e, e2]
    refine ⟨fun _ => ?_, fun h => by simp at h, .inl rfl⟩
    rw [List.take_append_of_le_length (hle h0), List.drop_append_of_le_length (hle h0)]
  · have e : rR (0, p) = ([], (rLen (0, p)).2.1, []) := by unfold rR; rw [if_neg h0]
    rw [e]
    refine ⟨fun h => absurd h h0, fun h => ?_, h3⟩
    have h4 := h2 h
    have e2 : rR (0, p ++ q) = ([], (rLen (0, p ++ q)).2.1, []) := by unfold rR; rw [if_neg (by omega)]
    rw [e2]; exact h4
theorem rN_ext (k : Nat) : Ext (rN k) := by
  induction k with
  | zero => intro p q; simp [rN]
  | succ k ih =>
    intro p q
    obtain ⟨h1, h2⟩ := ru_ext q p 0
    have h3 := ru_errs p 0
    by_cases h0 : (ru 0 p).1 = 0
    · obtain ⟨i1, i2, i3⟩ := ih (ru 0 p).2.2 q
      by_cases h4 : (rN k (ru 0 p).2.2).2.1 = 0
      · have e : rN (k + 1) p = (unzz (ru 0 p).2.1 :: (rN k (ru 0 p).2.2).1, (rN k (ru 0 p).2.2).2) := by rw [rN, if_pos h0, if_pos h4]
        have e2 : rN (k + 1) (p ++ q) = (unzz (ru 0 p).2.1 :: (rN k (ru 0 p).2.2).1, 0, (rN k (ru 0 p).2.2).2.2 ++ q) := by rw [rN, h1 h0, if_pos rfl, i1 h4, if_pos rfl]
        rw [e, e2]
        exact ⟨fun _ => rfl, fun h => absurd (h4.symm.trans h) (by decide), .inl h4⟩
      · have e : rN (k + 1) p = ([], (rN k (ru 0 p).2.2).2.1, []) := by rw [rN, if_pos h0, if_neg h4]
        rw [e]
        refine ⟨fun h => absurd h h4, fun h => ?_, i3⟩
        have h5 := i2 h
        have h6 : ¬ (rN k ((ru 0 p).2.2 ++ q)).2.1 = 0 := fun h7 => absurd (h5.symm.trans h7) (by decide)
        rw [rN, h1 h0, if_pos rfl]
        simp only
        rw [if_neg h6]
        exact h5
    · have e : rN (k + 1) p = ([], (ru 0 p).1, []) := by rw [rN, if_neg h0]
      rw [e]
      refine ⟨fun h => absurd h h0, fun h => ?_, h3⟩
      rw [rN, h2 h, if_neg (by decide)]
theorem rL_ext : Ext fun p => rL (0, p) := fun p q => by
  obtain ⟨h1, h2, h3⟩ := rLen_ext p q
  simp only at h1 h2 h3 ⊢
  by_cases h0 : (rLen (0, p)).2.1 = 0
  · have e : rL (0, p) = rN (rLen (0, p)).1 (rLen (0, p)).2.2 := by unfold rL; rw [if_pos h0]
    have e2 : rL (0, p ++ q) = rN (rLen (0, p)).1 ((rLen (0, p)).2.2 ++ q) := by unfold rL; rw [h1 h0, if_pos rfl]
    rw [e, e2]
    exact rN_ext _ _ _
  · have e : rL (0, p) = ([], (rLen (0, p)).2.1, []) := by unfold rL; rw [if_neg h0]
    rw [e]
    refine ⟨fun h => absurd h h0, fun h => ?_, h3⟩
    have h4 := h2 h
    have e2 : rL (0, p ++ q) = ([], (rLen (0, p ++ q)).2.1, []) := by unfold rL; rw [if_neg (by omega)]
    rw [e2]; exact h4
theorem rI_ext : Ext fun p => rI (0, p) := fun p q => by
  obtain ⟨h1, h2, h3⟩ := rU_ext p q
  simp only at h1 h2 h3 ⊢
  unfold rI
  refine ⟨fun h => by rw [h1 h], h2, h3⟩
theorem rB_ext : Ext fun p => rB (0, p) := fun p q => by
  cases p with
  | nil => simp [rB]
  | cons c cs =>
    by_cases hc : 1 < c.toNat
    · simp [rB, hc]
    · simp [rB, hc]
theorem rV_ext (k : Nat) : Ext fun p => rV (0, p) k := fun p q => by
  simp only
  by_cases k0 : k = 0
  · subst k0
    obtain ⟨h1, h2, h3⟩ := rU_ext p q
    refine ⟨fun h => ?_, h2, h3⟩
    have := h1 h
    simp only [rV, if_pos] at this ⊢
    rw [this]
  by_cases k1 : k = 1
  · subst k1
    obtain ⟨h1, h2, h3⟩ := rI_ext p q
    refine ⟨fun h => ?_, h2, h3⟩
    have e := h1 h
    show (({ k := 1, n := (rI (0, p ++ q)).1 } : VV), (rI (0, p ++ q)).2) = (({ k := 1, n := (rI (0, p)).1 } : VV), 0, (rI (0, p)).2.2 ++ q)
    simp only at e
    rw [e]
  by_cases k2 : k = 2
  · subst k2
    obtain ⟨h1, h2, h3⟩ := rB_ext p q
    refine ⟨fun h => ?_, h2, h3⟩
    have e := h1 h
    show (({ k := 2, n := if (rB (0, p ++ q)).1 then 1 else 0 } : VV), (rB (0, p ++ q)).2) = (({ k := 2, n := if (rB (0, p)).1 then 1 else 0 } : VV), 0, (rB (0, p)).2.2 ++ q)
    simp only at e
    rw [e]
  by_cases k3 : k = 3 ∨ k = 4
  · have er : ∀ s, rV s k = (({ k := k, b := (rR s).1 } : VV), (rR s).2) := fun s => by unfold rV; rw [if_neg k0, if_neg k1, if_neg k2, if_pos k3]
    rw [er, er]
    obtain ⟨h1, h2, h3⟩ := rR_ext p q
    refine ⟨fun h => ?_, h2, h3⟩
    have e := h1 h
    simp only at e ⊢
    rw [e]
  · have er : ∀ s, rV s k = (({ k := k, l := (rL s).1 } : VV), (rL s).2) := fun s => by unfold rV; rw [if_neg k0, if_neg k1, if_neg k2, if_neg k3]
    rw [er, er]
    obtain ⟨h1, h2, h3⟩ := rL_ext p q
    refine ⟨fun h => ?_, h2, h3⟩
    have e := h1 h
    simp only at e ⊢
    rw [e]

/-- round trips -/
theorem rU_round (n : Nat) (hn : n < 18446744073709551616) (r : List UInt8) : rU (0, vu n ++ r) = (n, 0, r) := by rw [rU_zero, ru_vu0 n hn r]
theorem rLen_round (n : Nat) (hn : n < 18446744073709551616) (r : List UInt8) (h : n ≤ r.length) : rLen (0, vu n ++ r) = (n, 0, r) := by
  unfold rLen
  rw [rU_round n hn, if_pos rfl, if_neg (by simp only; omega)]
theorem rR_round (bs : List UInt8) (hn : bs.length < 18446744073709551616) (r : List UInt8) : rR (0, (vu bs.length ++ bs) ++ r) = (bs, 0, r) := by
  unfold rR
  rw [List.append_assoc, rLen_round _ hn _ (by simp), if_pos rfl]
  simp
theorem encI_le (l : List Int) : l.length ≤ (encI l).length := by
  induction l with
  | nil => simp
  | cons y l ih =>
    have := vu_pos (zz y)
    simp only [encI, List.flatMap_cons, List.length_append, List.length_cons] at ih ⊢
    omega
theorem rN_round : ∀ (l : List Int) (_ : ∀ y ∈ l, -9223372036854775808 ≤ y ∧ y ≤ 9223372036854775807) (r : List UInt8), rN l.length (encI l ++ r) = (l, 0, r)
  | [], _, r => rfl
  | y :: l, h, r => by
    have hy := h y (by simp)
    have e : encI (y :: l) ++ r = vu (zz y) ++ (encI l ++ r) := by simp [encI]
    rw [e, List.length_cons, rN, ru_vu0 _ (zz_lt hy.1 hy.2), if_pos rfl, rN_round l (fun z hz => h z (by simp [hz])) r, if_pos rfl, unzz_zz]
theorem rL_round (l : List Int) (hl : l.length < 18446744073709551616) (h : ∀ y ∈ l, -9223372036854775808 ≤ y ∧ y ≤ 9223372036854775807) (r : List UInt8) : rL (0, (vu l.length ++ encI l) ++ r) = (l, 0, r) := by
  have := encI_le l
  unfold rL
  rw [List.append_assoc, rLen_round _ hl _ (by simp; omega), if_pos rfl]
  exact rN_round l h r
/-- one encoding -/
theorem rU_one {p : List UInt8} (h : (rU (0, p)).2.1 = 0) : p = vu (rU (0, p)).1 ++ (rU (0, p)).2.2 ∧ (rU (0, p)).1 < 18446744073709551616 := ru_one0 h
theorem rLen_one {p : List UInt8} (h : (rLen (0, p)).2.1 = 0) : p = vu (rLen (0, p)).1 ++ (rLen (0, p)).2.2 := by
  by_cases h0 : (rU (0, p)).2.1 = 0
  · by_cases hl : (rU (0, p)).2.2.length < (rU (0, p)).1
    · have e : rLen (0, p) = (0, 3, []) := by unfold rLen; rw [if_pos h0, if_pos hl]
      rw [e] at h; simp at h
    · have e : rLen (0, p) = rU (0, p) := by unfold rLen; rw [if_pos h0, if_neg hl]
      rw [e]; exact (rU_one h0).1
  · have e : rLen (0, p) = (0, (rU (0, p)).2.1, []) := by unfold rLen; rw [if_neg h0]
    rw [e] at h; exact absurd h h0
theorem rR_one {p : List UInt8} (h : (rR (0, p)).2.1 = 0) : p = (vu (rR (0, p)).1.length ++ (rR (0, p)).1) ++ (rR (0, p)).2.2 := by
  by_cases h0 : (rLen (0, p)).2.1 = 0
  · have e : rR (0, p) = ((rLen (0, p)).2.2.take (rLen (0, p)).1, 0, (rLen (0, p)).2.2.drop (rLen (0, p)).1) := by unfold rR; rw [if_pos h0]
    have hle := rLen_le (0, p) h0
    rw [e]
    simp only
    rw [List.length_take, Nat.min_eq_left hle, List.append_assoc, List.take_append_drop]
    exact rLen_one h0
  · have e : rR (0, p) = ([], (rLen (0, p)).2.1, []) := by unfold rR; rw [if_neg h0]
    rw [e] at h; exact absurd h h0
theorem rN_one : ∀ (k : Nat) (p : List UInt8), (rN k p).2.1 = 0 → p = encI (rN k p).1 ++ (rN k p).2.2 ∧ (rN k p).1.length = k ∧ ∀ y ∈ (rN k p).1, -9223372036854775808 ≤ y ∧ y ≤ 9223372036854775807
  | 0, p, _ => by simp [rN, encI]
  | k + 1, p, h => by
    by_cases h0 : (ru 0 p).1 = 0
    · by_cases h4 : (rN k (ru 0 p).2.2).2.1 = 0
      · have e : rN (k + 1) p = (unzz (ru 0 p).2.1 :: (rN k (ru 0 p).2.2).1, (rN k (ru 0 p).2.2).2) := by rw [rN, if_pos h0, if_pos h4]
        obtain ⟨i1, i2, i3⟩ := rN_one k (ru 0 p).2.2 h4
        obtain ⟨j1, j2⟩ := ru_one0 h0
        rw [e]
        refine ⟨?_, by simp [i2], fun y hy => ?_⟩
        · simp only [encI, List.flatMap_cons, zz_unzz, List.append_assoc]
          rw [show List.flatMap (fun n => vu (zz n)) (rN k (ru 0 p).2.2).1 = encI (rN k (ru 0 p).2.2).1 from rfl, ← i1]
          exact j1
        · rcases List.mem_cons.1 hy with rfl | hy
          · exact unzz_range j2
          · exact i3 y hy
      · have e : rN (k + 1) p = ([], (rN k (ru 0 p).2.2).2.1, []) := by rw [rN, if_pos h0, if_neg h4]
        rw [e] at h; exact absurd h h4
    · have e : rN (k + 1) p = ([], (ru 0 p).1, []) := by rw [rN, if_neg h0]
      rw [e] at h; exact absurd h h0
theorem rL_one {p : List UInt8} (h : (rL (0, p)).2.1 = 0) : p = (vu (rL (0, p)).1.length ++ encI (rL (0, p)).1) ++ (rL (0, p)).2.2 := by
  by_cases h0 : (rLen (0, p)).2.1 = 0
  · have e : rL (0, p) = rN (rLen (0, p)).1 (rLen (0, p)).2.2 := by unfold rL; rw [if_pos h0]
    rw [e] at h ⊢
    obtain ⟨i1, i2, _⟩ := rN_one _ _ h
    rw [i2, List.append_assoc, ← i1]
    exact rLen_one h0
  · have e : rL (0, p) = ([], (rLen (0, p)).2.1, []) := by unfold rL; rw [if_neg h0]
    rw [e] at h; exact absurd h h0
theorem rB_one {p : List UInt8} (h : (rB (0, p)).2.1 = 0) : p = [if (rB (0, p)).1 then 1 else 0] ++ (rB (0, p)).2.2 := by
  cases p with
  | nil => simp [rB] at h
  | cons c cs =>
    by_cases hc : 1 < c.toNat
    · simp [rB, hc] at h
    · simp only [rB, if_pos, if_neg hc]
      by_cases h1 : c.toNat = 1
      · have : c = 1 := UInt8.toNat_inj.1 h1
        subst this
        simp
      · have : c = 0 := UInt8.toNat_inj.1 (by show c.toNat = 0; omega)
        subst this
        simp
theorem rV_one {p : List UInt8} {k : Nat} (h : (rV (0, p) k).2.1 = 0) : p = enc (rV (0, p) k).1 ++ (rV (0, p) k).2.2 := by
  by_cases k0 : k = 0
  · subst k0
    exact (rU_one h).1
  by_cases k1 : k = 1
  · subst k1
    have h' : (rU (0, p)).2.1 = 0 := h
    have e := (rU_one h').1
    show p = vu (zz (unzz (rU (0, p)).1)) ++ (rU (0, p)).2.2
    rw [zz_unzz]; exact e
  by_cases k2 : k = 2
  · subst k2
    have e := rB_one (p := p) h
    have er : rV (0, p) 2 = (({ k := 2, n := if (rB (0, p)).1 then 1 else 0 } : VV), (rB (0, p)).2) := rfl
    rw [er]
    have ee : enc { k := 2, n := if (rB (0, p)).1 then 1 else 0 } = [if (rB (0, p)).1 then 1 else 0] := by
      unfold enc
      cases (rB (0, p)).1 <;> simp
    rw [ee]
    exact e
  by_cases k3 : k = 3 ∨ k = 4
  · have er : ∀ s, rV s k = (({ k := k, b := (rR s).1 } : VV), (rR s).2) := fun s => by unfold rV; rw [if_neg k0, if_neg k1, if_neg k2, if_pos k3]
    rw [er] at h ⊢
    have ee : enc { k := k, b := (rR (0, p)).1 } = vu (rR (0, p)).1.length ++ (rR (0, p)).1 := by unfold enc; simp only; rw [if_neg k0, if_neg k1, if_neg k2, if_pos k3]
    rw [ee]
    exact rR_one h
  · have er : ∀ s, rV s k = (({ k := k, l := (rL s).1 } : VV), (rL s).2) := fun s => by unfold rV; rw [if_neg k0, if_neg k1, if_neg k2, if_neg k3]
    rw [er] at h ⊢
    have ee : enc { k := k, l := (rL (0, p)).1 } = vu (rL (0, p)).1.length ++ encI (rL (0, p)).1 := by unfold enc; simp only; rw [if_neg k0, if_neg k1, if_neg k2, if_neg k3]
    rw [ee]
    exact rL_one h
end Go.Proofs.Ytagjecbgbpjobaa.Wm
