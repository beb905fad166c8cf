/- What the methods of a Reader do: lists of numbers, strings; and a new reader. -/
import Derived.Test.YtagjecbgbpjobaaWrd2
namespace Go.Proofs.Ytagjecbgbpjobaa
open Go.RowKit Hb Wm

theorem rN_err : ∀ (m : Nat) (bs : List UInt8), (rN m bs).2.1 ≠ 0 → rN m bs = ([], (rN m bs).2.1, [])
  | 0, bs, h => by simp [rN] at h
  | m + 1, bs, h => by
    rw [rN] at h ⊢
    by_cases h1 : (ru 0 bs).1 = 0
    · rw [if_pos h1] at h ⊢
      by_cases h2 : (rN m (ru 0 bs).2.2).2.1 = 0
      · rw [if_pos h2] at h; exact absurd h2 h
      · rw [if_neg h2]
    · rw [if_neg h1]
def LinkN (V : Nat) (bs0 : List UInt8) (m : Nat) (pre : List Int) (bs : List UInt8) : Prop := rN V bs0 = if (rN m bs).2.1 = 0 then (pre ++ (rN m bs).1, (rN m bs).2) else ([], (rN m bs).2.1, [])
theorem LinkN.start (V : Nat) (bs : List UInt8) : LinkN V bs V [] bs := by
  unfold LinkN
  by_cases h : (rN V bs).2.1 = 0
  · rw [if_pos h]; rfl
  · rw [if_neg h]; exact rN_err V bs h
theorem LinkN.ok {V m : Nat} {bs0 bs : List UInt8} {pre : List Int} (h : LinkN V bs0 (m + 1) pre bs) (he : (ru 0 bs).1 = 0) : LinkN V bs0 m (pre ++ [(rI (0, bs)).1]) (ru 0 bs).2.2 := by
  unfold LinkN at h ⊢
  rw [rN, if_pos he] at h
  rw [h]
  by_cases h2 : (rN m (ru 0 bs).2.2).2.1 = 0
  · simp only [if_pos h2, List.append_assoc]
    rfl
  · simp only [if_neg h2]
theorem LinkN.err {V m : Nat} {bs0 bs : List UInt8} {pre : List Int} (h : LinkN V bs0 (m + 1) pre bs) (he : (ru 0 bs).1 ≠ 0) : rN V bs0 = ([], (ru 0 bs).1, []) := by
  unfold LinkN at h
  rw [rN, if_neg he] at h
  rw [h, if_neg he]
theorem LinkN.fin {V : Nat} {bs0 bs : List UInt8} {pre : List Int} (h : LinkN V bs0 0 pre bs) : rN V bs0 = (pre, 0, bs) := by
  unfold LinkN at h
  rw [h]
  simp [rN]
theorem rL_big (s : St) (h0 : (rU s).2.1 = 0) (h : (rU s).2.2.length < (rU s).1) : rL s = ([], 3, []) := by
  have e : rLen s = (0, 3, []) := by unfold rLen; rw [if_pos h0, if_pos h]
  unfold rL
  rw [e, if_neg (by decide)]
theorem rL_ok (s : St) (h : ¬ (rU s).2.2.length < (rU s).1) : rL s = if (rU s).2.1 = 0 then rN (rU s).1 (rU s).2.2 else ([], (rU s).2.1, []) := by
  by_cases h0 : (rU s).2.1 = 0
  · have e : rLen s = rU s := by unfold rLen; rw [if_pos h0, if_neg h]
    unfold rL
    rw [e]
  · have e : rLen s = (0, (rU s).2.1, []) := by unfold rLen; rw [if_neg h0]
    unfold rL
    rw [e, if_neg h0, if_neg h0]

end Go.Proofs.Ytagjecbgbpjobaa
