/- The number of results that the reference model makes of a number, as a function. -/
import Derived.Test.YtagjecbgbpjobaaDref
namespace Go.Proofs.Ytagjecbgbpjobaa
open Go.RowKit Go.Shelf Hm Hb Dm Ds

def sidesOf (k : Nat) : Int := if k < 100 then (k : Int) + 1 else if k < 300 then ((2 ^ (k % 61 + 1) : Nat) : Int) + (k : Int) / 61 % 3 - 1 else ((2 ^ (k % 61 + 1) : Nat) : Int) / 2 * 3 - (k : Int) % 2
def sidesI (n : Int) : Int := sidesOf (aroundI n 400).toNat
theorem sidesOf_range (k : Nat) : 1 ≤ sidesOf k ∧ (k < 400 → sidesOf k ≤ 4611686018427387904) := by
  have hp : 2 ^ (k % 61 + 1) ≤ 2305843009213693952 := Nat.le_trans (Nat.pow_le_pow_right (j := 61) (by omega) (by omega)) (by decide)
  have h2 : 2 ^ 1 ≤ 2 ^ (k % 61 + 1) := Nat.pow_le_pow_right (by omega) (by omega)
  unfold sidesOf
  generalize 2 ^ (k % 61 + 1) = P at *
  split
  · omega
  · split
    · omega
    · omega
theorem sidesI_range (n : Int) : 1 ≤ sidesI n ∧ sidesI n ≤ 4611686018427387904 := by
  have h := aroundI_range n 400 (by omega)
  have := sidesOf_range (aroundI n 400).toNat
  unfold sidesI
  exact ⟨this.1, this.2 (by omega)⟩

set_option maxRecDepth 100000 in
set_option maxHeartbeats 2000000 in
theorem sides_any (n : Int) (hn : -9223372036854775808 ≤ n ∧ n ≤ 9223372036854775807) (w : World) :
    Calls Try.prog 23 #[.int .i64 n] w fun e w' => e = .returned (.int .i64 (sidesI n)) ∧ w = w' := by
  have ha := aroundI_range n 400 (by omega)
  obtain ⟨k, hk⟩ : ∃ k : Nat, k = (aroundI n 400).toNat := ⟨_, rfl⟩
  have hk2 : aroundI n 400 = (k : Int) := by omega
  have hk4 : k < 400 := by omega
  have HS := Lib.hid (show sidesI n = sidesOf k from by unfold sidesI; rw [hk])
  have ca := around_any n 400 hn (by omega) w
  rw [hk2] at ca
  clear ha hk hk2
  rw [HS.out]
  go_enter Try.func23, Try.ntmps23
  go_wp2_with fail
  refine ca.mono ?_
  rintro e w' ⟨rfl, rfl⟩
  clear ca
  by_cases h1 : k < 100
  · have HV := Lib.hid (show sidesOf k = (k : Int) + 1 from by unfold sidesOf; rw [if_pos h1])
    go_wp2_with fail
    go_ret
    exact ⟨ret_int (by rw [HV.out]), rfl⟩
  · have HV := Lib.hid (show sidesOf k = if k < 300 then ((2 ^ (k % 61 + 1) : Nat) : Int) + (k : Int) / 61 % 3 - 1 else ((2 ^ (k % 61 + 1) : Nat) : Int) / 2 * 3 - (k : Int) % 2 from by unfold sidesOf; rw [if_neg h1])
    go_wp2_with fail
    go_loop [4, 5] (fun p i => ∃ j : Nat, (j : Int) ≤ (k : Int) % 61 + 1 ∧ i = .int .i64 j ∧ p = .int .i64 ((2 ^ j : Nat) : Int)) (fun _ i => ((k : Int) % 61 + 1 - intOf i).toNat)
    case atStart => exact ⟨0, by omega, rfl, rfl⟩
    case round =>
      obtain ⟨j, hj, rfl, rfl⟩ := hrel
      have hp : 2 ^ j ≤ 2305843009213693952 := Nat.le_trans (Nat.pow_le_pow_right (j := 61) (by omega) (by omega)) (by decide)
      have h0 : 1 ≤ 2 ^ j := Nat.one_le_two_pow
      by_cases hlt : (j : Int) < (k : Int) % 61 + 1
      · have hs : 2 ^ (j + 1) = 2 * 2 ^ j := by rw [Nat.pow_succ]; omega
        have hp2 : 2 ^ (j + 1) ≤ 2305843009213693952 := Nat.le_trans (Nat.pow_le_pow_right (j := 61) (by omega) (by omega)) (by decide)
        obtain ⟨P, hP⟩ : ∃ P, P = 2 ^ j := ⟨_, rfl⟩
        rw [← hP] at hp h0 hs ⊢
        rw [hs] at hp2
        have HS := Lib.hid hs
        clear hs hP
        go_wp2_with fail
        go_round
        case rel => exact ⟨j + 1, by omega, by go_num, by rw [HS.out]; go_num⟩
        case measure => simp [intOf]; omega
      · have hjk : j = k % 61 + 1 := by omega
        obtain ⟨P, hP⟩ : ∃ P, P = 2 ^ j := ⟨_, rfl⟩
        have h2 : 2 ≤ P := by
          rw [hP]
          have : 2 ^ 1 ≤ 2 ^ j := Nat.pow_le_pow_right (by omega) (by omega)
          omega
        have HPP := Lib.hid (show 2 ^ (k % 61 + 1) = P from by rw [← hjk, hP])
        rw [← hP] at hp h0 ⊢
        clear hP hjk
        by_cases h3 : k < 300
        · have HV2 := Lib.hid (show sidesOf k = (P : Int) + (k : Int) / 61 % 3 - 1 from by rw [HV.out, if_pos h3, HPP.out])
          go_wp2_with fail
          go_ret
          exact ⟨ret_int (by rw [HV2.out]), rfl⟩
        · have HV2 := Lib.hid (show sidesOf k = (P : Int) / 2 * 3 - (k : Int) % 2 from by rw [HV.out, if_neg h3, HPP.out])
          go_wp2_with fail
          go_ret
          exact ⟨ret_int (by rw [HV2.out]), rfl⟩
end Go.Proofs.Ytagjecbgbpjobaa
