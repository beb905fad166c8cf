/- The law ShareRest, walked. -/
import Derived.Test.YtedjmpifkgonhaaSlives
namespace Go.Proofs.Ytedjmpifkgonhaa
open Go.RowKit Hb Sm Sx

theorem rest_sum (t n d : Nat) (hn : n ≤ d) (hd : 0 < d) : t * n / d + ceilQ t (d - n) d = t := by
  have h1 := Nat.div_add_mod' (t * n) d
  have h2 := Nat.mod_lt (t * n) hd
  have h3 : t * n ≤ t * d := Nat.mul_le_mul_left _ hn
  have h4 : t * n / d ≤ t := by
    have := Nat.div_le_div_right (c := d) h3
    rwa [Nat.mul_div_cancel _ hd] at this
  unfold ceilQ
  have h5 : t * (d - n) = t * d - t * n := Nat.mul_sub ..
  generalize hq : t * n / d = q at *
  generalize hr : t * n % d = r at *
  by_cases h0 : r = 0
  · have e : t * (d - n) = (t - q) * d := by rw [h5, Nat.sub_mul, ← h1, h0]; rfl
    rw [e, Nat.mul_div_cancel _ hd, Nat.mul_mod_left]
    simp
    omega
  · have hqt : q + 1 ≤ t := by
      have : q * d < t * d := by omega
      exact Nat.lt_of_mul_lt_mul_right this
    have e : t * (d - n) = (d - r) + d * (t - (q + 1)) := by
      rw [h5, Nat.mul_sub, Nat.mul_add, Nat.mul_one, Nat.mul_comm d q, Nat.mul_comm d t]
      have : q * d + d ≤ t * d := by rw [← Nat.succ_mul]; exact Nat.mul_le_mul_right _ hqt
      omega
    rw [e, Nat.add_mul_div_left _ _ hd, Nat.add_mul_mod_self_left, Nat.div_eq_of_lt (by omega), Nat.mod_eq_of_lt (by omega), if_pos (by omega)]
    omega
theorem okArgs_of {t n d : Nat} (ht : t ≤ 1099511627776) (hn : n ≤ 1152921504606846976) (hd : 0 < d) (hd2 : d ≤ 1152921504606846976) : okArgs t n d = true := by
  unfold okArgs isFr isAm isLg
  simp only [Bool.and_eq_true, decide_eq_true_eq]
  omega
/-- Part and Ceil of what is in range -/
theorem partS_of {t n d q : Nat} (ht : t ≤ 1099511627776) (hn : n ≤ 1152921504606846976) (hd : 0 < d) (hd2 : d ≤ 1152921504606846976) (hq : q = t * n / d) (hq2 : q ≤ 1099511627776) : partS t n d = ((q : Int), 0) := by
  unfold partS
  rw [if_pos (okArgs_of ht hn hd hd2)]
  simp only [Int.toNat_natCast]
  unfold partV
  rw [← hq, if_pos hq2]
theorem ceilS_of {t n d q : Nat} (ht : t ≤ 1099511627776) (hn : n ≤ 1152921504606846976) (hd : 0 < d) (hd2 : d ≤ 1152921504606846976) (hq : q = ceilQ t n d) (hq2 : q ≤ 1099511627776) : ceilS t n d = ((q : Int), 0) := by
  unfold ceilS
  rw [if_pos (okArgs_of ht hn hd hd2)]
  simp only [Int.toNat_natCast]
  unfold ceilV
  rw [← hq, if_pos hq2]
theorem part_t {t n d q : Nat} (T N D : Int) (hT : T = (t : Int)) (hN : N = (n : Int)) (hD : D = (d : Int)) (ht : t ≤ 1099511627776) (hn : n ≤ 1152921504606846976) (hd : 0 < d) (hd2 : d ≤ 1152921504606846976) (hq : q = t * n / d) (hq2 : q ≤ 1099511627776) (w : World) :
    Calls Try.prog 13 #[.int .i64 T, .int .i64 N, .int .i64 D] w fun e w' => e = .returned (.tuple #[.int .i64 q, .int .i64 0]) ∧ Quiet w w' := by
  subst hT hN hD
  have h := spart t n d w
  rw [partS_of ht hn hd hd2 hq hq2] at h
  exact h
theorem ceil_t {t n d q : Nat} (T N D : Int) (hT : T = (t : Int)) (hN : N = (n : Int)) (hD : D = (d : Int)) (ht : t ≤ 1099511627776) (hn : n ≤ 1152921504606846976) (hd : 0 < d) (hd2 : d ≤ 1152921504606846976) (hq : q = ceilQ t n d) (hq2 : q ≤ 1099511627776) (w : World) :
    Calls Try.prog 15 #[.int .i64 T, .int .i64 N, .int .i64 D] w fun e w' => e = .returned (.tuple #[.int .i64 q, .int .i64 0]) ∧ Quiet w w' := by
  subst hT hN hD
  have h := sceil t n d w
  rw [ceilS_of ht hn hd hd2 hq hq2] at h
  exact h

set_option maxRecDepth 100000 in
set_option maxHeartbeats 2000000 in
theorem ShareRest_walk (w : World) (a0 : Int) (w0 : (Lit.int .i64 a0).wf = true) (a1 : Int) (w1 : (Lit.int .i64 a1).wf = true) (a2 : Int) (w2 : (Lit.int .i64 a2).wf = true) :
    Calls Try.prog 8 #[.int .i64 a0, .int .i64 a1, .int .i64 a2] w fun e W' => e = .returned (.bool true) ∧ Below w.heap.size w W' := by
  go_enter Try.func8, Try.ntmps8
  go_wp2_with fail
  refine (around3 a0 1099511627777 _ rfl (bounds_i64 w0) (by omega) w).mono ?_
  rintro e W ⟨⟨t, rfl, ht, -⟩, rfl⟩
  go_wp2_with fail
  refine (around3 a2 1152921504606846976 _ rfl (bounds_i64 w2) (by omega) w).mono ?_
  rintro e W ⟨⟨d', rfl, hd', -⟩, rfl⟩
  obtain ⟨d, hd⟩ : ∃ d, d = d' + 1 := ⟨_, rfl⟩
  have e1 : 1 + (d' : Int) = (d : Int) := by omega
  have hd0 : 0 < d := by omega
  have hd2 : d ≤ 1152921504606846976 := by omega
  clear hd hd'
  go_wp2_with fail
  refine (around3 a1 (d + 1) _ (by omega) (bounds_i64 w1) (by omega) w).mono ?_
  rintro e W ⟨⟨n, rfl, hn, -⟩, rfl⟩
  obtain ⟨a, ha⟩ : ∃ a, a = t * n / d := ⟨_, rfl⟩
  obtain ⟨b, hb⟩ : ∃ b, b = ceilQ t (d - n) d := ⟨_, rfl⟩
  obtain ⟨c, hc⟩ : ∃ c, c = t * (n / 2) / d := ⟨_, rfl⟩
  have hab : a + b = t := by rw [ha, hb]; exact rest_sum t n d (by omega) hd0
  have hca : c ≤ a := by rw [ha, hc]; exact Nat.div_le_div_right (Nat.mul_le_mul_left _ (Nat.div_le_self _ _))
  have HA := Lib.hid (And.intro ha (And.intro hb hc))
  clear ha hb hc e1
  go_wp2_with fail
  refine (part_t _ _ _ rfl rfl rfl (by omega) (by omega) hd0 hd2 HA.out.1 (by omega) w).mono ?_
  rintro e W1 ⟨rfl, hq1⟩
  go_wp2_with fail
  refine (ceil_t (n := d - n) _ _ _ rfl (by omega) rfl (by omega) (by omega) hd0 hd2 HA.out.2.1 (by omega) W1).mono ?_
  rintro e W2 ⟨rfl, hq2⟩
  go_wp2_with fail
  refine (part_t (n := n / 2) _ _ _ rfl (by omega) rfl (by omega) (by omega) hd0 hd2 HA.out.2.2 (by omega) W2).mono ?_
  rintro e W3 ⟨rfl, hq3⟩
  have B := ((hq1.below w.heap.size).trans (hq2.below _)).trans (hq3.below _)
  have d1 : ((a : Int) + (b : Int) == (t : Int)) = true := by simp; omega
  have d2 : decide ((c : Int) ≤ (a : Int)) = true := decide_eq_true (by omega)
  clear hq1 hq2 hq3
  go_wp2_with fail
  refine (lives_from w W3 B).mono ?_
  rintro e W4 ⟨rfl, B4⟩
  go_wp2_with fail
  go_ret
  exact ⟨rfl, B4⟩
end Go.Proofs.Ytedjmpifkgonhaa
