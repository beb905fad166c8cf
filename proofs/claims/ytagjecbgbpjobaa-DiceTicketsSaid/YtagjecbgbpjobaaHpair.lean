/- What Pair answers, and that it writes nothing that was there. -/
import Derived.Test.YtagjecbgbpjobaaHbytes
namespace Go.Proofs.Ytagjecbgbpjobaa
open Go.RowKit Go.Shelf Hm Hb

theorem pair_any (a b : Int) (w : World) :
    Calls Try.prog 52 #[.int .u64 a, .int .u64 b] w fun e W' => e = .returned (.int .u64 (pairM a b)) ∧ Below w.heap.size w W' := by
  go_enter Try.func52, Try.ntmps52
  go_wp2_with (go_at_call 51; refine (sum_any _ (by decide) _ 2 _ [wrap64 a, wrap64 b] (by omega) _ ((boxed_rds w [iv (wrap64 a), iv (wrap64 b)] 3).mono (by simp))).mono ?_; rintro e W2 ⟨rfl, hB2⟩)
  go_ret
  exact ⟨rfl, ((Below.refl _ w).alloc (Nat.le_refl _) _).trans (hB2.mono (by simp))⟩
end Go.Proofs.Ytagjecbgbpjobaa
