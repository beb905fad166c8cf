/- The documented examples hold, and asking for them writes nothing that was there. -/
import Derived.Test.YtnkcmeefddlejaaHbytes
namespace Go.Proofs.Ytnkcmeefddlejaa
open Go.RowKit Hm Hb

set_option maxRecDepth 100000 in
set_option maxHeartbeats 1000000 in
theorem lives_any (w : World) : Calls Try.prog 15 #[] w fun e W' => e = .returned (.bool true) ∧ Below w.heap.size w W' := by
  have l1 : (sumM [97] [5] != sumM [97] [6]) = true := bne_iff_ne.2 live1
  have l2 : (bytesM [97] [1, 2] == sumM [97] [513, 2]) = true := beq_iff_eq.2 live2
  have l3 : (pairM 1 2 != pairM 1 3) = true := bne_iff_ne.2 live3
  go_enter Try.func15, Try.ntmps15
  go_wp2_with fail
  refine (sum_any _ (by decide) _ 1 _ [5] (by omega) _ ((boxed_rds w [iv 5] 3).mono (by simp))).mono ?_
  rintro e W1 ⟨rfl, hB1⟩
  have B1 := ((Below.refl w.heap.size w).alloc (Nat.le_refl _) _).trans (hB1.mono (by simp))
  have s1 := B1.size
  clear hB1
  go_wp2_with fail
  refine (sum_any _ (by decide) _ 1 _ [6] (by omega) _ ((boxed_rds W1 [iv 6] 3).mono (by simp))).mono ?_
  rintro e W2 ⟨rfl, hB2⟩
  have B2 := (B1.alloc s1 _).trans (hB2.mono (by simp; omega))
  have s2 := B2.size
  clear hB2
  go_wp2_with fail
  refine (bytes_any _ (by decide) _ 2 2 [1, 2] (by omega) (by omega) _ ((boxed_rds W2 [bv 1, bv 2] 5).mono (by simp))).mono ?_
  rintro e W3 ⟨rfl, hB3⟩
  have B3 := (B2.alloc s2 _).trans (hB3.mono (by simp; omega))
  have s3 := B3.size
  clear hB3
  go_wp2_with fail
  refine (sum_any _ (by decide) _ 2 _ [513, 2] (by omega) _ ((boxed_rds W3 [iv 513, iv 2] 3).mono (by simp))).mono ?_
  rintro e W4 ⟨rfl, hB4⟩
  have B4 := (B3.alloc s3 _).trans (hB4.mono (by simp; omega))
  have s4 := B4.size
  clear hB4
  go_wp2_with fail
  refine (pair_any 1 2 _).mono ?_
  rintro e W5 ⟨rfl, hB5⟩
  have B5 := B4.trans (hB5.mono s4)
  have s5 := B5.size
  clear hB5
  go_wp2_with fail
  refine (pair_any 1 3 _).mono ?_
  rintro e W6 ⟨rfl, hB6⟩
  have B6 := B5.trans (hB6.mono s5)
  clear hB6
  go_wp2_with fail
  go_ret
  exact ⟨rfl, B6⟩
end Go.Proofs.Ytnkcmeefddlejaa
