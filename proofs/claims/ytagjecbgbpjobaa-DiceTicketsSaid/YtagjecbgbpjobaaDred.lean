/- What Reduce answers, in the project and in the reference model. -/
import Derived.Test.YtagjecbgbpjobaaDmath
import Derived.Test.YtagjecbgbpjobaaHinfo
import Derived.Test.YtagjecbgbpjobaaHquiet
namespace Go.Proofs.Ytagjecbgbpjobaa
open Go.RowKit Hm Hb Dm

def pairB (x : Int) (b : Bool) : Value := .tuple #[.int .i64 x, .bool b]
def redR (w n : Int) : Ending := .returned (pairB (red w n).1 (red w n).2)
theorem redR_in {x n : Int} (h : 1 ≤ n) (ha : acc x n = true) : redR x n = .returned (.tuple #[.int .i64 (x % n), .bool true]) := by unfold redR; rw [red_in _ _ h ha]; rfl
theorem redR_out {x n : Int} (ha : acc x n = false) : redR x n = .returned (.tuple #[.int .i64 0, .bool false]) := by unfold redR; rw [red_out _ _ ha]; rfl
theorem redR_none {x n : Int} (h : ¬ 1 ≤ n) : redR x n = .returned (.tuple #[.int .i64 0, .bool false]) := by unfold redR; rw [red_none _ _ h]; rfl

theorem ret_pair {a b : Int} {c : Bool} (h : a = b) : Ending.returned (.tuple #[.int .i64 a, .bool c]) = .returned (.tuple #[.int .i64 b, .bool c]) := by rw [h]
theorem last_word (n : Int) (h1 : 1 ≤ n) (h2 : n ≤ 9223372036854775807) : IntKind.u64.wrap (18446744073709551615 - (IntKind.u64.wrap (-n)).tmod n) = 18446744073709551616 - 1 - 18446744073709551616 % n := by
  have e1 : IntKind.u64.wrap (-n) = 18446744073709551616 - n := by rw [wrapU, UI_BI]; omega
  have e2 : (18446744073709551616 - n).tmod n = 18446744073709551616 % n := by
    rw [Int.tmod_eq_emod_of_nonneg (by omega), Int.sub_emod_right]
  have h3 := Int.emod_nonneg 18446744073709551616 (b := n) (by omega)
  have h4 := Int.emod_lt_of_pos 18446744073709551616 (b := n) (by omega)
  rw [e1, e2, wrapU, UI_BI]
  omega
theorem small_mod (x n : Int) (h1 : 1 ≤ n) (h2 : n ≤ 9223372036854775807) : wrap64 (x % n) = x % n := by
  have h3 := Int.emod_nonneg x (b := n) (by omega)
  have h4 := Int.emod_lt_of_pos x (b := n) (by omega)
  unfold wrap64
  omega

theorem reduce_any (x n : Int) (hx : 0 ≤ x ∧ x < 18446744073709551616) (hn : -9223372036854775808 ≤ n ∧ n ≤ 9223372036854775807) (w : World) :
    Calls Try.prog 24 #[.int .u64 x, .int .i64 n] w fun e w' => e = redR x n ∧ w = w' := by
  by_cases h1 : 1 ≤ n
  · have H := acc_iff x n 18446744073709551616 h1
    have HL := last_word n h1 hn.2
    rw [← HL] at H
    have HS := small_mod x n h1 hn.2
    have HHL := Lib.hid HL
    have HH := Lib.hid H
    have HHS := Lib.hid HS
    clear H HL HS
    go_enter Try.func24, Try.ntmps24
    go_wp2
    · go_ret2
      rename_i hc
      refine ⟨(redR_out ?_).symm, rfl⟩
      unfold acc
      rw [decide_eq_false_iff_not, HH.out]
      omega
    · go_ret2
      rename_i hc
      refine ⟨?_, rfl⟩
      rw [redR_in h1 (by unfold acc; rw [decide_eq_true_eq, HH.out]; exact hc)]
      exact ret_pair HHS.out
  · rw [redR_none h1]
    go_enter Try.func24, Try.ntmps24
    go_wp2
    go_ret2
    exact ⟨rfl, rfl⟩

theorem rreduce_any (x n : Int) (hx : 0 ≤ x ∧ x < 18446744073709551616) (hn : -9223372036854775808 ≤ n ∧ n ≤ 9223372036854775807) (w : World) :
    Calls Try.prog 25 #[.int .u64 x, .int .i64 n] w fun e w' => e = redR x n ∧ w = w' := by
  by_cases h1 : 1 ≤ n
  · have h3 := Int.emod_nonneg x (b := n) (by omega)
    have h4 := Int.emod_lt_of_pos x (b := n) (by omega)
    go_enter Try.func25, Try.ntmps25
    go_wp2
    · go_ret2
      rename_i hc
      refine ⟨(redR_out ?_).symm, rfl⟩
      unfold acc
      rw [decide_eq_false_iff_not]
      omega
    · go_ret2
      rename_i hc
      refine ⟨?_, rfl⟩
      rw [redR_in h1 (by unfold acc; rw [decide_eq_true_eq]; omega)]
      exact ret_pair rfl
  · rw [redR_none h1]
    go_enter Try.func25, Try.ntmps25
    go_wp2
    go_ret2
    exact ⟨rfl, rfl⟩
end Go.Proofs.Ytagjecbgbpjobaa
