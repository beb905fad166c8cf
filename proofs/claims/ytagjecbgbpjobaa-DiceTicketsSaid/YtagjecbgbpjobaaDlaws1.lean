/- The law DiceFair, walked. -/
import Derived.Test.YtagjecbgbpjobaaDlives
import Derived.Test.YtagjecbgbpjobaaHreft
import Derived.Test.YtagjecbgbpjobaaHpairs
namespace Go.Proofs.Ytagjecbgbpjobaa
open Go.RowKit Go.Shelf Hm Hb Dm Ds

set_option maxRecDepth 100000 in
set_option maxHeartbeats 2000000 in
theorem DiceFair_walk (w : World) (a0 : Int) (w0 : (Lit.int .u64 a0).wf = true) (a1 : Int) (w1 : (Lit.int .i64 a1).wf = true) (a2 : Bool) :
    Calls Try.prog 5 #[.int .u64 a0, .int .i64 a1, .bool a2] w fun e W' => e = .returned (.bool true) ∧ Below w.heap.size w W' := by
  obtain ⟨h0, h1⟩ := wf_u64 w0
  clear w0
  cases a2
  all_goals
    go_enter Try.func5, Try.ntmps5
    go_wp2_with fail
    refine (around_t a1 600 _ rfl w1 (by omega) w).mono ?_
    rintro e w' ⟨⟨k, rfl, hk⟩, rfl⟩
    go_wp2_with fail
    first | (obtain ⟨v, hv⟩ : ∃ v, v = 18446744073709551615 - a0 % 700 := ⟨_, rfl⟩; rw [← hv]) | (obtain ⟨v, hv⟩ : ∃ v, v = a0 := ⟨_, rfl⟩; rw [← hv])
    obtain ⟨K, hK⟩ : ∃ K : Int, K = 1 + (k : Int) := ⟨_, rfl⟩
    rw [← hK]
    have v0 : 0 ≤ v := by omega
    have v1 : v < 18446744073709551616 := by omega
    have K0 : 1 ≤ K := by omega
    have K1 : K ≤ 600 := by omega
    clear h0 h1 hk w1
    have HV := Lib.hid hv
    have HK := Lib.hid hK
    clear hv hK
    by_cases ha : acc v K = true
    · have hr := reduce_any v K ⟨v0, v1⟩ (by omega) w
      rw [redR_in K0 ha] at hr
      have r0 := Int.emod_nonneg v (b := K) (by omega)
      have r1 := Int.emod_lt_of_pos v (b := K) (by omega)
      have r2 : v % K ≤ v := by
        have e1 := block_eq v K
        have e2 := Int.mul_nonneg (show 0 ≤ K by omega) (Int.ediv_nonneg v0 (show 0 ≤ K by omega))
        omega
      have hb : v - v % K + K ≤ 18446744073709551616 := by unfold acc at ha; simpa using ha
      obtain ⟨r, hr'⟩ : ∃ r, r = v % K := ⟨_, rfl⟩
      have HA := Lib.hid ha
      have hs : ∀ i : Nat, (i : Int) < K → redR (v - r + i) K = .returned (.tuple #[.int .i64 i, .bool true]) := fun i hi => by
        unfold redR
        rw [hr', fair_in v K i K0 HA.out (by omega) hi]
        rfl
      have HS := Lib.hid hs
      rw [← hr'] at hr r0 r1 r2 hb
      have HR := Lib.hid hr'
      clear hr' ha hs
      refine hr.mono ?_
      rintro e w' ⟨rfl, rfl⟩
      clear hr
      go_wp2_with fail
      go_loop [11] (fun i => ∃ j : Nat, (j : Int) ≤ K ∧ i = .int .i64 j) (fun i => (K - intOf i).toNat)
      case atStart => exact ⟨0, by omega, rfl⟩
      case round =>
        obtain ⟨j, hj, rfl⟩ := hrel
        by_cases hlt : (j : Int) < K
        · have hq := reduce_any (v - r + j) K (by omega) (by omega) w
          rw [HS.out j hlt] at hq
          go_wp2_with fail
          refine hq.mono ?_
          rintro e w' ⟨rfl, rfl⟩
          clear hq
          go_wp2_with fail
          go_round
          case rel => exact ⟨j + 1, by omega, by go_num⟩
          case measure => simp [intOf]; omega
        · go_wp2_with fail
          refine (lives_any w).mono ?_
          rintro e W' ⟨rfl, hB⟩
          go_wp2_with fail
          go_ret
          exact ⟨rfl, hB⟩
    · have ha' : acc v K = false := by simpa using ha
      have hr := reduce_any v K ⟨v0, v1⟩ (by omega) w
      rw [redR_out ha'] at hr
      have hf := fair_out v K K0 ha'
      clear ha ha'
      refine hr.mono ?_
      rintro e w' ⟨rfl, rfl⟩
      clear hr
      go_wp2_with fail
      refine (lives_any w).mono ?_
      rintro e W' ⟨rfl, hB⟩
      go_wp2_with fail
      go_ret
      exact ⟨rfl, hB⟩
end Go.Proofs.Ytagjecbgbpjobaa
