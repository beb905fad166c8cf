/- The laws WireSizes and WireHash, walked. -/
import Derived.Test.YtigbknhlmifikaaWlives
namespace Go.Proofs.Ytigbknhlmifikaa
open Go.RowKit Hb Wm

theorem bound_t (n : Int) (m : Nat) (M : Int) (hM : M = (m : Int)) (hn : (Lit.int .i64 n).wf = true) (hm : 1 ≤ m ∧ m ≤ 1000000) (w : World) :
    Calls Try.prog 28 #[.int .i64 n, .int .i64 M] w fun e w' => (∃ r : Int, e = .returned (.int .i64 r) ∧ -(m : Int) ≤ r ∧ r ≤ m) ∧ w = w' := by
  subst hM
  obtain ⟨hm1, hm2⟩ := hm
  go_enter Try.func28, Try.ntmps28
  go_wp2_with fail
  refine (around_t n (2 * m + 1) _ (by omega) hn (by omega) w).mono ?_
  rintro e W ⟨⟨k, rfl, hk⟩, rfl⟩
  go_wp2_with fail
  go_ret
  exact ⟨⟨_, rfl, by omega, by omega⟩, rfl⟩
theorem vu_len_step (k : Nat) : (vu k).length = 1 + if k / 128 = 0 then 0 else (vu (k / 128)).length := by
  by_cases h : k < 128
  · rw [vu_small h, if_pos (by omega)]; rfl
  · rw [vu_big (by omega), if_neg (by omega)]; simp; omega
theorem lives_from (W0 w : World) (hb : Below W0.heap.size W0 w) : Calls Try.prog 18 #[] w fun e W' => e = .returned (.bool true) ∧ Below W0.heap.size W0 W' :=
  (lives_any w).mono fun _ _ ⟨he, h⟩ => ⟨he, hb.trans (h.mono hb.size)⟩
theorem vu_len1 (n : Int) (h : -63 ≤ n ∧ n ≤ 63) : (vu (zz n)).length = 1 := by
  rw [vu_small (by unfold zz; split <;> omega)]; rfl
theorem div_pow_lt (u : Nat) (k m : Nat) (hu : u < 18446744073709551616) (hk : m + k = 64) : u / 2 ^ k < 2 ^ m := by
  rw [Nat.div_lt_iff_lt_mul (Nat.pow_pos (by decide)), ← Nat.pow_add, hk]; exact hu

set_option maxRecDepth 100000 in
set_option maxHeartbeats 2000000 in
theorem WireSizes_walk (w : World) (a0 : Int) (w0 : (Lit.int .u64 a0).wf = true) (a1 : Int) (w1 : (Lit.int .i64 a1).wf = true) (a2 : Int) (w2 : (Lit.int .i64 a2).wf = true) :
    Calls Try.prog 8 #[.int .u64 a0, .int .i64 a1, .int .i64 a2] w fun e W' => e = .returned (.bool true) ∧ Below w.heap.size w W' := by
  obtain ⟨u, hu, rfl⟩ : ∃ u : Nat, u < 18446744073709551616 ∧ a0 = (u : Int) := ⟨a0.toNat, by have := bounds_u64 w0; omega, by have := bounds_u64 w0; omega⟩
  go_enter Try.func8, Try.ntmps8
  go_wp2_with fail
  refine (around_t a2 64 _ rfl w2 (by omega) w).mono ?_
  rintro e W ⟨⟨s, rfl, hs⟩, rfl⟩
  obtain ⟨k, hk⟩ : ∃ k, k = u / 2 ^ s := ⟨_, rfl⟩
  have hkl : k < 18446744073709551616 := by rw [hk]; exact Nat.lt_of_le_of_lt (Nat.div_le_self _ _) hu
  have hk' : (u : Int) / 2 ^ s = (k : Int) := by rw [hk]; simp
  clear hk
  go_wp2_with fail
  clear hk'
  go_loop [9, 8] (fun rv cv => ∃ q c : Nat, rv = .int .u64 q ∧ q ≤ k ∧ cv = .int .i64 c ∧ (vu k).length = c + if q = 0 then 0 else (vu q).length) (fun rv _ => (intOf rv).toNat)
  case atStart => exact ⟨k / 128, 1, by go_num, Nat.div_le_self _ _, rfl, vu_len_step k⟩
  case round =>
    obtain ⟨q, c, rfl, hqk, rfl, hlen⟩ := hrel
    have h10 := vu_len10 hkl
    by_cases hq : 0 < q
    · have hst := vu_len_step q
      rw [if_neg (by omega)] at hlen
      have HQ := Lib.hid (show (vu k).length = (c + 1) + if q / 128 = 0 then 0 else (vu (q / 128)).length from by rw [hlen, hst]; omega)
      have hc9 : c ≤ 10 := by omega
      clear hst hlen
      go_wp2_with fail
      go_round
      case rel => exact ⟨q / 128, c + 1, by go_num, by omega, by go_num, HQ.out⟩
      case measure => simp [intOf]; omega
    · obtain rfl : q = 0 := by omega
      rw [if_pos rfl, Nat.add_zero] at hlen
      have HLEN := Lib.hid hlen
      clear hlen
      go_wp2_with fail
      have B0 := (Below.refl w.heap.size w).alloc (Nat.le_refl _) (.cells #[.slice none 0 0] 32)
      refine (w_uint w.heap.size k _ rfl [] hkl (by decide) _ (Wr.new w)).mono ?_
      rintro e W1 ⟨rfl, hX, hB⟩
      have B1 := B0.trans hB
      have hp := hX.lt
      have s1 := B1.size
      have BY := (Below.refl W1.heap.size W1).alloc (Nat.le_refl _) (.cells #[.slice none 0 0] 32)
      clear hB
      go_wp2_with fail
      refine (bound_t a1 63 _ rfl w1 (by omega) _).mono ?_
      rintro e W ⟨⟨r, rfl, hr1, hr2⟩, rfl⟩
      go_wp2_with fail
      refine (w_int W1.heap.size r [] (by omega) (by omega) (by decide) _ (Wr.new W1)).mono ?_
      rintro e W2 ⟨rfl, hY, hB⟩
      replace BY := BY.trans hB
      clear hB
      have l1 := vu_len1 r ⟨by omega, by omega⟩
      go_wp2_with fail
      refine (w_int W1.heap.size (-r) _ (by omega) (by omega) (by simp; omega) _ hY).mono ?_
      clear hY
      rintro e W3 ⟨rfl, hY, hB⟩
      replace BY := BY.trans hB
      clear hB
      have l2 := vu_len1 (-r) ⟨by omega, by omega⟩
      go_wp2_with fail
      refine (w_bool W1.heap.size (decide (0 < r)) _ (by simp; omega) _ hY).mono ?_
      clear hY
      rintro e W4 ⟨rfl, hY, hB⟩
      replace BY := BY.trans hB
      clear hB
      have hX4 := hX.below BY (Nat.le_refl _)
      obtain ⟨ys, hys⟩ : ∃ ys, ys = [] ++ vu (zz r) ++ vu (zz (-r)) ++ [if decide (0 < r) = true then (1 : UInt8) else 0] := ⟨_, rfl⟩
      have hyl : ys.length = 3 := by rw [hys]; simp [l1, l2]
      rw [← hys] at hY
      clear hys l1 l2 hX
      have B4 := B1.trans (BY.mono s1)
      have s4 := B4.size
      have HYL := Lib.hid hyl
      clear hyl BY
      go_wp2_with fail
      refine (w_done w.heap.size _ (by simp; omega) _ hX4).mono ?_
      rintro e W5 ⟨A, c5, rfl, -, -, hB⟩
      have hY5 := hY.below hB (Nat.le_refl _)
      have B5 := B4.trans (hB.mono s4)
      have s5 := B5.size
      clear hB hY hX4
      have hd : (((vu k).length : Int) == (c : Int)) = true := by simp [HLEN.out]
      have hd2 : ((ys.length : Int) == 3) = true := by simp [HYL.out]
      go_wp2_with fail
      refine (w_done W1.heap.size _ (by rw [HYL.out]; omega) _ hY5).mono ?_
      rintro e W6 ⟨A6, c6, rfl, -, -, hB⟩
      have B6 := B5.trans (hB.mono s5)
      clear hB
      go_wp2_with fail
      refine (lives_from w W6 B6).mono ?_
      rintro e W7 ⟨rfl, B7⟩
      go_wp2_with fail
      go_ret
      exact ⟨rfl, B7⟩

theorem vu_inj {m n : Nat} (hm : m < 18446744073709551616) (hn : n < 18446744073709551616) (h : vu m = vu n) : m = n := by
  have h1 := ru_vu0 m hm []
  have h2 := ru_vu0 n hn []
  rw [h, h2] at h1
  exact (congrArg (fun x => x.2.1) h1).symm
end Go.Proofs.Ytigbknhlmifikaa
