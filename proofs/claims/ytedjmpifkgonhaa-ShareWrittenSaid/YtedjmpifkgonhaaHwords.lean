/- What the small functions of package hash answer: the mixing step and the number of a group of at most eight bytes. -/
import Derived.Test.YtedjmpifkgonhaaRows
import Derived.Test.YtedjmpifkgonhaaHmath
import Derived.Test.YtedjmpifkgonhaaHbase
import Derived.WalkKit
import Derived.ProofKit
import Derived.Outline
namespace Go.Proofs.Ytedjmpifkgonhaa
open Go.RowKit Hm Hb

theorem mix_any (s x : Int) (w : World) : Calls Try.prog 51 #[.int .u64 s, .int .u64 x] w fun e w' => e = .returned (.int .u64 (mixI s x)) ∧ w = w' := by
  go_enter Try.func51, Try.ntmps51
  go_wp2
  go_ret
  exact ⟨ret_u64 (mix_walk s x), rfl⟩

theorem word_s (s : ByteArray) (w : World) (hs : s.size ≤ 8) :
    Calls Try.prog 62 #[.string s] w fun e w' => e = .returned (.int .u64 (le s.data.toList)) ∧ w = w' := by
  go_enter Try.func62, Try.ntmps62
  go_wp2
  go_loop [3, 7] (fun n i => ∃ k : Nat, k ≤ s.size ∧ i = .int .i64 k ∧ n = .int .u64 (le (s.data.toList.take k))) (fun _ i => s.size - (intOf i).toNat)
  case atStart => exact ⟨0, Nat.zero_le _, rfl, rfl⟩
  case round =>
    obtain ⟨k, hk, rfl, rfl⟩ := hrel
    by_cases hlt : k < s.size
    · have ht : s.data.toList.take (k + 1) = s.data.toList.take k ++ [s[k]] := by
        rw [List.take_succ_eq_append_getElem (by simpa using hlt)]; rfl
      have hl : (s.data.toList.take k).length = k := by simp; omega
      have hs8 := or_step (s.data.toList.take k) s[k] (by omega)
      rw [hl, ← ht] at hs8
      have HS := Lib.hid hs8
      clear hs8 ht hl
      go_wp2
      go_round
      case rel => exact ⟨k + 1, by omega, by go_num, by rw [HS.out]⟩
      case measure => simp [intOf]; omega
    · go_wp2
      go_ret
      exact ⟨ret_u64 (by rw [List.take_of_length_le (by simp; omega)]), rfl⟩

end Go.Proofs.Ytedjmpifkgonhaa
