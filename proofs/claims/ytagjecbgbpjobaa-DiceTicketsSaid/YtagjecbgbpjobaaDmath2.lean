/- More of a die in numbers: sums of weights, the index that they lead to, Pick. No program is named here. -/
import Derived.Test.YtagjecbgbpjobaaDmath
namespace Go.Proofs.Ytagjecbgbpjobaa.Dm
open Hm Go.RowKit

theorem lessBy_anti (xs : List Int) (r : Int) (h : ∀ x ∈ xs, 0 ≤ x) : ∀ (k m : Nat), lessBy xs r (k + m) ≤ lessBy xs r k
  | k, 0 => Int.le_refl _
  | k, m + 1 => by
    have ih := lessBy_anti xs r h k m
    by_cases c : k + m < xs.length
    · have e := lessBy_succ xs r (k + m) c
      have := h xs[k + m] (List.getElem_mem c)
      rw [← Nat.add_assoc, e]
      omega
    · have e : lessBy xs r (k + m + 1) = lessBy xs r (k + m) := by unfold lessBy; rw [List.take_of_length_le (by omega), List.take_of_length_le (by omega)]
      rw [← Nat.add_assoc, e]
      exact ih
theorem idx_le (xs : List Int) (r : Int) (h : ∀ x ∈ xs, 0 ≤ x) (h0 : 0 ≤ r) (h1 : r < xs.sum) (k : Nat) (hk : k < idx xs r) : 0 ≤ lessBy xs r (k + 1) := by
  obtain ⟨_, _, h4, _⟩ := idx_lt xs r h0 h1
  have := lessBy_anti xs r h (k + 1) (idx xs r - (k + 1))
  rw [show k + 1 + (idx xs r - (k + 1)) = idx xs r from by omega] at this
  omega
theorem sumUp_step (ws : List Int) (k : Nat) (hk : k < ws.length) (t : Int) (h : sumUp (ws.take k) 0 = some t) :
    ((ws[k] < 0 ∨ ws[k] > 1152921504606846976 - t) → sumUp ws 0 = none) ∧ (¬ (ws[k] < 0 ∨ ws[k] > 1152921504606846976 - t) → sumUp (ws.take (k + 1)) 0 = some (t + ws[k])) := by
  have e : sumUp (ws.take (k + 1)) 0 = if ws[k] < 0 ∨ ws[k] > 1152921504606846976 - t then none else some (t + ws[k]) := by
    rw [List.take_succ_eq_append_getElem hk, sumUp_snoc, h]; rfl
  refine ⟨fun hb => ?_, fun hb => ?_⟩
  · rw [if_pos hb] at e
    have := sumUp_none (ws.take (k + 1)) (ws.drop (k + 1)) 0 e
    rwa [List.take_append_drop] at this
  · rw [if_neg hb] at e
    exact e
theorem lessBy_range (xs : List Int) (r : Int) (h : ∀ x ∈ xs, 0 ≤ x) (k : Nat) : r - xs.sum ≤ lessBy xs r k ∧ lessBy xs r k ≤ r := by
  have := sum_take_le xs h k
  unfold lessBy
  omega
theorem pick_none {h : Int} {ws : List Int} {p : Int} (k : sumUp ws 0 = none) : pick h ws p = (0, 1, p) := by unfold pick; rw [k]
theorem pick_zero {h : Int} {ws : List Int} {p : Int} (k : sumUp ws 0 = some 0) : pick h ws p = (0, 1, p) := by unfold pick; rw [k]; simp
theorem pick_ok {h : Int} {ws : List Int} {p s : Int} (k : sumUp ws 0 = some s) (k0 : s ≠ 0) (k1 : (roll h s p).2.1 = 0) : pick h ws p = ((idx ws (roll h s p).1 : Int), 0, (roll h s p).2.2) := by
  unfold pick; rw [k]; simp only []; rw [if_neg k0, if_pos k1]
theorem pick_no {h : Int} {ws : List Int} {p s : Int} (k : sumUp ws 0 = some s) (k0 : s ≠ 0) (k1 : (roll h s p).2.1 = 4) : pick h ws p = (0, 4, (roll h s p).2.2) := by
  unfold pick; rw [k]; simp only []; rw [if_neg k0, if_neg (by omega), k1]
end Go.Proofs.Ytagjecbgbpjobaa.Dm
