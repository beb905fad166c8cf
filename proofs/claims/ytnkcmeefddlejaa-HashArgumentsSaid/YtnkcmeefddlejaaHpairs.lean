/- Pair is injective in each of its arguments, and equals Sum over the two hashes: the law HashPairs, walked. -/
import Derived.Test.YtnkcmeefddlejaaHlives
namespace Go.Proofs.Ytnkcmeefddlejaa
open Go.RowKit Hm Hb

theorem eqB {α : Type} [BEq α] [LawfulBEq α] {a b : α} (h : a = b) : (a == b) = true := beq_iff_eq.2 h
theorem neB {α : Type} [BEq α] [LawfulBEq α] {a b : α} (h : a ≠ b) : (a == b) = false := beq_eq_false_iff_ne.2 h
theorem wf_u64 {a : Int} (h : (Lit.int .u64 a).wf = true) : 0 ≤ a ∧ a < 18446744073709551616 := by
  have := bounds_u64 h; omega

set_option maxRecDepth 100000 in
set_option maxHeartbeats 1000000 in
theorem HashPairs_walk (w : World) (a : Int) (wa : (Lit.int .u64 a).wf = true) (b : Int) (wb : (Lit.int .u64 b).wf = true) (c : Int) (_ : (Lit.int .u64 c).wf = true) :
    Calls Try.prog 9 #[.int .u64 a, .int .u64 b, .int .u64 c] w fun e W' => e = .returned (.bool true) ∧ Below w.heap.size w W' := by
  have t3 : (pairM a b == sumM [112, 97, 105, 114] [wrap64 a, wrap64 b]) = true := eqB rfl
  have t1 : (pairM a c == pairM b c) = (a == b) := by rw [Bool.eq_iff_iff, beq_iff_eq, beq_iff_eq]; exact pair_left a b c (wf_u64 wa) (wf_u64 wb)
  have t2 : (pairM c a == pairM c b) = (a == b) := by rw [Bool.eq_iff_iff, beq_iff_eq, beq_iff_eq]; exact pair_right a b c (wf_u64 wa) (wf_u64 wb)
  generalize hv : (a == b) = v at t1 t2
  cases v
  all_goals
    go_enter Try.func9, Try.ntmps9
    go_wp2_with fail
    refine (pair_any a c _).mono ?_
    rintro e W1 ⟨rfl, B1⟩
    have s1 := B1.size
    go_wp2_with fail
    refine (pair_any b c _).mono ?_
    rintro e W2 ⟨rfl, hB⟩
    have B2 := B1.trans (hB.mono s1)
    have s2 := B2.size
    clear hB
    go_wp2_with fail
    refine (pair_any c a _).mono ?_
    rintro e W3 ⟨rfl, hB⟩
    have B3 := B2.trans (hB.mono s2)
    have s3 := B3.size
    clear hB
    go_wp2_with fail
    refine (pair_any c b _).mono ?_
    rintro e W4 ⟨rfl, hB⟩
    have B4 := B3.trans (hB.mono s3)
    have s4 := B4.size
    clear hB
    go_wp2_with fail
    refine (pair_any a b _).mono ?_
    rintro e W5 ⟨rfl, hB⟩
    have B5 := B4.trans (hB.mono s4)
    have s5 := B5.size
    clear hB
    go_wp2_with fail
    refine (sum_any _ (by decide) _ 2 _ [wrap64 a, wrap64 b] (by omega) _ ((boxed_rds W5 [iv (wrap64 a), iv (wrap64 b)] 3).mono (by simp))).mono ?_
    rintro e W6 ⟨rfl, hB⟩
    have B6 := (B5.alloc s5 _).trans (hB.mono (by simp; omega))
    have s6 := B6.size
    clear hB
    go_wp2_with fail
    refine (lives_any _).mono ?_
    rintro e W7 ⟨rfl, hB⟩
    have B7 := B6.trans (hB.mono s6)
    clear hB
    go_wp2_with fail
    go_ret
    exact ⟨rfl, B7⟩
end Go.Proofs.Ytnkcmeefddlejaa
