/- What the small functions of package hash answer: the mixing step and the number of a group of at most eight bytes. -/
import Derived.Test.YtagjecbgbpjobaaRows
import Derived.Test.YtagjecbgbpjobaaHmath
import Derived.Test.YtagjecbgbpjobaaHbase
import Derived.WalkKit
import Derived.ProofKit
import Derived.Outline
namespace Go.Proofs.Ytagjecbgbpjobaa
open Go.RowKit Hm Hb

theorem mix_any (s x : Int) (w : World) : Calls Try.prog 70 #[.int .u64 s, .int .u64 x] w fun e w' => e = .returned (.int .u64 (mixI s x)) ∧ w = w' := by
  go_enter Try.func70, Try.ntmps70
  go_wp2
  go_ret
  exact ⟨ret_u64 (mix_walk s x), rfl⟩

theorem word_s (s : ByteArray) (w : World) (hs : s.size ≤ 8) :
    Calls Try.prog 77 #[.string s] w fun e w' => e = .returned (.int .u64 (le s.data.toList)) ∧ w = w' := by
  go_enter Try.func77, Try.ntmps77
  go_wp2
  go_loop [3, 7] (fun n i => ∃ k : Nat, k ≤ s.size ∧ i = .int .i64 k ∧ n = .int .u64 (le (s.data.toList.take k))) (fun _ i => s.size - (intOf i).toNat)
  case atStart => exact ⟨0, Nat.zero_le _, rfl, rfl⟩
  case round =>
    obtain ⟨k, hk, rfl, rfl⟩ := hrel
    by_cases hlt : k < s.size
    · have ht : s.data.toList.take (k + 1) = s.data.toList.take k ++ [s[k]] := by
        rw [List.take_succ_eq_append_getElem (by simpa using hlt)]; rfl
      have hl : (s.data.toList.take k).length = k := by simp; omega
      have hs8 := or_step (s.data.toList.take k) s[k] (by omega)
      rw [hl, ← ht] at hs8
      have HS := Lib.hid hs8
      clear hs8 ht hl
      go_wp2
      go_round
      case rel => exact ⟨k + 1, by omega, by go_num, by rw [HS.out]⟩
      case measure => simp [intOf]; omega
    · go_wp2
      go_ret
      exact ⟨ret_u64 (by rw [List.take_of_length_le (by simp; omega)]), rfl⟩

theorem word_b (A : Option Addr) (n c : Nat) (bs : List UInt8) (B : Nat) (w : World) (hr : Rd w B A n (bs.map bv)) (hn : n ≤ 8) :
    Calls Try.prog 75 #[.slice A n c] w fun e w' => e = .returned (.int .u64 (le bs)) ∧ w = w' := by
  go_enter Try.func75, Try.ntmps75
  go_wp2
  go_loop [3, 7] (fun m i => ∃ k : Nat, k ≤ n ∧ i = .int .i64 k ∧ m = .int .u64 (le (bs.take k))) (fun _ i => n - (intOf i).toNat)
  case atStart => exact ⟨0, Nat.zero_le _, rfl, rfl⟩
  case round =>
    obtain ⟨k, hk, rfl, rfl⟩ := hrel
    have hbl : bs.length = n := by simpa using hr.1
    by_cases hlt : k < n
    · obtain ⟨a, u, rfl, hab, hu, hc⟩ := hr.at hlt
      have hkb : k < bs.length := by omega
      have hu' : u = .int .u8 (bs[k].toNat : Int) := by
        rw [List.getElem?_map, List.getElem?_eq_getElem hkb] at hu
        exact (Option.some.inj hu).symm
      subst hu'
      have ht : bs.take (k + 1) = bs.take k ++ [bs[k]] := List.take_succ_eq_append_getElem hkb
      have hl : (bs.take k).length = k := by simp; omega
      have hs8 := or_step (bs.take k) bs[k] (by omega)
      rw [hl, ← ht] at hs8
      have HS := Lib.hid hs8
      clear hs8 ht hl hbl hr hu
      go_wp2
      go_round
      case rel => exact ⟨k + 1, by omega, by go_num, by rw [HS.out]⟩
      case measure => simp [intOf]; omega
    · go_wp2
      go_ret
      exact ⟨ret_u64 (by rw [List.take_of_length_le (by omega)]), rfl⟩
end Go.Proofs.Ytagjecbgbpjobaa
