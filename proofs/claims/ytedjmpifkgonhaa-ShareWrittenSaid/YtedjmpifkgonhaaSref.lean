/- What the reference model of package share answers: amounts, Divide, Part, Ceil, Compare. -/
import Derived.Test.YtedjmpifkgonhaaHquiet
import Derived.Test.YtedjmpifkgonhaaSmath
import Derived.WalkSmall
namespace Go.Proofs.Ytedjmpifkgonhaa
open Go.RowKit Hb Sm

def isAm (n : Int) : Bool := decide (0 ≤ n ∧ n ≤ 1099511627776)
def isLg (n : Int) : Bool := decide (0 ≤ n ∧ n ≤ 1152921504606846976)
theorem isAm_t {n : Int} (h : isAm n = true) : 0 ≤ n ∧ n ≤ 1099511627776 := of_decide_eq_true h
theorem isLg_t {n : Int} (h : isLg n = true) : 0 ≤ n ∧ n ≤ 1152921504606846976 := of_decide_eq_true h

def aroundM (n most : Int) : Int := n % most
theorem around3 (n : Int) (m : Nat) (M : Int) (hM : M = (m : Int)) (hn : -9223372036854775808 ≤ n ∧ n ≤ 9223372036854775807) (hm : 1 ≤ m ∧ m ≤ 1152921504606846977) (w : World) :
    Calls Try.prog 12 #[.int .i64 n, .int .i64 M] w fun e w' => (∃ k : Nat, e = .returned (.int .i64 k) ∧ k < m ∧ n % (m : Int) = (k : Int)) ∧ w = w' := by
  subst hM
  obtain ⟨hn0, hn1⟩ := hn
  obtain ⟨hm0, hm1⟩ := hm
  have e2 := Int.tmod_lt_of_pos n (show (0 : Int) < m by omega)
  have e3 := Int.lt_tmod_of_pos n (show (0 : Int) < m by omega)
  have e4 : (n.tmod m) % (m : Int) = n % (m : Int) := by
    conv => rhs; rw [← Int.tmod_add_mul_tdiv n (m : Int)]
    rw [Int.add_mul_emod_self_left]
  obtain ⟨k, hk⟩ : ∃ k, k = n.tmod m := ⟨_, rfl⟩
  rw [← hk] at e2 e3 e4
  have E4 := Lib.hid e4
  clear e4
  by_cases h : k < 0
  · have hk' : n.tmod m = k := hk.symm
    clear hk
    go_enter Try.func12, Try.ntmps12
    go_wp2
    go_ret
    refine ⟨⟨(k + m).toNat, ret_int (by omega), by omega, ?_⟩, rfl⟩
    rw [← E4.out, Int.toNat_of_nonneg (by omega), ← Int.add_emod_right k (m : Int)]
    exact Int.emod_eq_of_lt (by omega) (by omega)
  · have hk' : n.tmod m = k := hk.symm
    clear hk
    go_enter Try.func12, Try.ntmps12
    go_wp2
    go_ret
    refine ⟨⟨k.toNat, ret_int (by omega), by omega, ?_⟩, rfl⟩
    rw [← E4.out, Int.toNat_of_nonneg (by omega)]
    exact Int.emod_eq_of_lt (by omega) (by omega)


theorem ramount (n : Int) (w : World) : Calls Try.prog 35 #[.int .i64 n] w fun e w' => e = .returned (.bool (isAm n)) ∧ w = w' := by
  unfold isAm
  by_cases h0 : 0 ≤ n
  · by_cases h1 : n ≤ 1099511627776
    · go_enter Try.func35, Try.ntmps35
      go_wp2
      go_ret
      exact ⟨ret_bool (decide_eq_true ⟨h0, h1⟩).symm, rfl⟩
    · go_enter Try.func35, Try.ntmps35
      go_wp2
      go_ret
      exact ⟨ret_bool (by simp; omega), rfl⟩
  · go_enter Try.func35, Try.ntmps35
    go_wp2
    go_ret
    exact ⟨ret_bool (by simp; omega), rfl⟩

theorem rlarge (n : Int) (w : World) : Calls Try.prog 36 #[.int .i64 n] w fun e w' => e = .returned (.bool (isLg n)) ∧ w = w' := by
  unfold isLg
  by_cases h0 : 0 ≤ n
  · by_cases h1 : n ≤ 1152921504606846976
    · go_enter Try.func36, Try.ntmps36
      go_wp2
      go_ret
      exact ⟨ret_bool (decide_eq_true ⟨h0, h1⟩).symm, rfl⟩
    · go_enter Try.func36, Try.ntmps36
      go_wp2
      go_ret
      exact ⟨ret_bool (by simp; omega), rfl⟩
  · go_enter Try.func36, Try.ntmps36
    go_wp2
    go_ret
    exact ⟨ret_bool (by simp; omega), rfl⟩

set_option maxRecDepth 100000 in
set_option maxHeartbeats 2000000 in
/-- Divide: the quotient and the remainder, or nothing where the quotient is too great. -/
theorem rdivide (A b d : Nat) (hA : A ≤ 1152921504606846976) (hb : b ≤ 1152921504606846976) (hd : 0 < d) (hd2 : d ≤ 1152921504606846976) (w : World) :
    Calls Try.prog 37 #[.int .i64 A, .int .i64 b, .int .i64 d] w fun e w' =>
      ((A * b / d ≤ 1152921504606846976 ∧ e = .returned (.tuple #[.int .i64 (A * b / d : Nat), .int .i64 (A * b % d : Nat), .bool true])) ∨
       (1152921504606846976 < A * b / d ∧ e = .returned (.tuple #[.int .i64 0, .int .i64 0, .bool false]))) ∧ w = w' := by
  obtain ⟨bq, hbq⟩ : ∃ x, x = b / d := ⟨_, rfl⟩
  obtain ⟨br, hbr⟩ : ∃ x, x = b % d := ⟨_, rfl⟩
  have f1 : (b : Int) / (d : Int) = (bq : Int) := by rw [hbq]; simp
  have f2 : (b : Int) % (d : Int) = (br : Int) := by rw [hbr]; simp
  have f3 : bq ≤ 1152921504606846976 := by rw [hbq]; exact Nat.le_trans (Nat.div_le_self _ _) hb
  have f4 : br < d := by rw [hbr]; exact Nat.mod_lt _ hd
  have f5 : b = bq * d + br := by rw [hbq, hbr]; exact (Nat.div_add_mod' b d).symm
  have F5 := Lib.hid f5
  clear hbq hbr f5
  go_enter Try.func37, Try.ntmps37
  go_wp2
  go_loop [0, 9, 10, 11] (fun av qv rv bv => ∃ (j a q r p : Nat), av = .int .i64 a ∧ qv = .int .i64 q ∧ rv = .int .i64 r ∧ bv = .int .i64 p ∧ p = 2 ^ j / 2 ∧ j ≤ 61 ∧ DivSt A b d j a q r) (fun _ _ _ bv => (intOf bv).toNat)
  case atStart => exact ⟨61, A, 0, 0, 1152921504606846976, rfl, rfl, rfl, rfl, rfl, Nat.le_refl _, DivSt.start hA hd⟩
  case round =>
    obtain ⟨j, a, q, r, p, rfl, rfl, rfl, rfl, hp, hj, hst⟩ := hrel
    have h3 : r < d := hst.2.2.1
    have h4 : q ≤ 1152921504606846976 := hst.2.2.2
    cases j with
    | zero =>
      have hp0 : p = 0 := by simpa using hp
      clear hp
      subst hp0
      have hs := Lib.hid hst.stop
      clear hst
      go_wp2
      go_ret3
      obtain ⟨e1, e2, e3⟩ := hs.out
      rw [e1, e2]
      exact ⟨.inl ⟨e3, rfl⟩, rfl⟩
    | succ i =>
      have hp2 : 2 ^ i = p := by rw [hp, Nat.pow_succ]; omega
      have hp1 : 0 < p := by rw [← hp2]; exact Nat.pow_pos (by decide)
      have hp3 : p ≤ 1152921504606846976 := by rw [← hp2]; exact Nat.le_trans (Nat.pow_le_pow_right (by decide) (show i ≤ 60 by omega)) (by decide)
      have ha : a ≤ 1152921504606846976 := by rw [hst.1]; exact Nat.le_trans (Nat.mod_le _ _) hA
      have HST := Lib.hid hst
      have HP := Lib.hid hp2
      clear hp hst hp2
      by_cases c1 : d ≤ 2 * r
      · by_cases c2 : p ≤ a
        · by_cases c3 : d ≤ 2 * r - d + br
          · obtain ⟨Q, hQn⟩ : ∃ Q, Q = 2 * q + 1 + bq + 1 := ⟨_, rfl⟩
            have hQ : 2 * (q : Int) + 1 + (bq : Int) + 1 = (Q : Int) := by omega
            by_cases c4 : 1152921504606846976 < Q
            · have ov := Lib.hid (HST.out.over1 hd (by rw [HP.out]; omega) Q (2 * r - d + br - d) (by have := F5.out; first | (rw [hQn]; done) | (rw [hQn]; omega) | (rw [hQn]; simp only [Nat.add_mul]; omega)) c4)
              clear hQn
              go_wp2
              go_ret3
              exact ⟨.inr ⟨ov.out, rfl⟩, rfl⟩
            · have st := Lib.hid (HST.out.one (by rw [HP.out]; omega) Q (2 * r - d + br - d) (by have := F5.out; first | (rw [hQn]; done) | (rw [hQn]; omega) | (rw [hQn]; simp only [Nat.add_mul]; omega)) (by omega) (by omega))
              rw [HP.out] at st
              clear hQn
              go_wp2
              go_round
              case rel => exact ⟨i, a - p, Q, 2 * r - d + br - d, p / 2, by go_num, by go_num, by go_num, by go_num, by rw [HP.out], by omega, st.out⟩
              case measure => simp [intOf]; omega
          · obtain ⟨Q, hQn⟩ : ∃ Q, Q = 2 * q + 1 + bq := ⟨_, rfl⟩
            have hQ : 2 * (q : Int) + 1 + (bq : Int) = (Q : Int) := by omega
            by_cases c4 : 1152921504606846976 < Q
            · have ov := Lib.hid (HST.out.over1 hd (by rw [HP.out]; omega) Q (2 * r - d + br) (by have := F5.out; first | (rw [hQn]; done) | (rw [hQn]; omega) | (rw [hQn]; simp only [Nat.add_mul]; omega)) c4)
              clear hQn
              go_wp2
              go_ret3
              exact ⟨.inr ⟨ov.out, rfl⟩, rfl⟩
            · have st := Lib.hid (HST.out.one (by rw [HP.out]; omega) Q (2 * r - d + br) (by have := F5.out; first | (rw [hQn]; done) | (rw [hQn]; omega) | (rw [hQn]; simp only [Nat.add_mul]; omega)) (by omega) (by omega))
              rw [HP.out] at st
              clear hQn
              go_wp2
              go_round
              case rel => exact ⟨i, a - p, Q, 2 * r - d + br, p / 2, by go_num, by go_num, by go_num, by go_num, by rw [HP.out], by omega, st.out⟩
              case measure => simp [intOf]; omega
        · obtain ⟨Q, hQn⟩ : ∃ Q, Q = 2 * q + 1 := ⟨_, rfl⟩
          have hQ : 2 * (q : Int) + 1 = (Q : Int) := by omega
          by_cases c4 : 1152921504606846976 < Q
          · have ov := Lib.hid (HST.out.over0 hd (by rw [HP.out]; omega) Q (2 * r - d) (by have := F5.out; first | (rw [hQn]; done) | (rw [hQn]; omega) | (rw [hQn]; simp only [Nat.add_mul]; omega)) c4)
            clear hQn
            go_wp2
            go_ret3
            exact ⟨.inr ⟨ov.out, rfl⟩, rfl⟩
          · have st := Lib.hid (HST.out.zero (by rw [HP.out]; omega) Q (2 * r - d) (by have := F5.out; first | (rw [hQn]; done) | (rw [hQn]; omega) | (rw [hQn]; simp only [Nat.add_mul]; omega)) (by omega) (by omega))
            clear hQn
            go_wp2
            go_round
            case rel => exact ⟨i, a, Q, 2 * r - d, p / 2, by go_num, by go_num, by go_num, by go_num, by rw [HP.out], by omega, st.out⟩
            case measure => simp [intOf]; omega
      · by_cases c2 : p ≤ a
        · by_cases c3 : d ≤ 2 * r + br
          · obtain ⟨Q, hQn⟩ : ∃ Q, Q = 2 * q + bq + 1 := ⟨_, rfl⟩
            have hQ : 2 * (q : Int) + (bq : Int) + 1 = (Q : Int) := by omega
            by_cases c4 : 1152921504606846976 < Q
            · have ov := Lib.hid (HST.out.over1 hd (by rw [HP.out]; omega) Q (2 * r + br - d) (by have := F5.out; first | (rw [hQn]; done) | (rw [hQn]; omega) | (rw [hQn]; simp only [Nat.add_mul]; omega)) c4)
              clear hQn
              go_wp2
              go_ret3
              exact ⟨.inr ⟨ov.out, rfl⟩, rfl⟩
            · have st := Lib.hid (HST.out.one (by rw [HP.out]; omega) Q (2 * r + br - d) (by have := F5.out; first | (rw [hQn]; done) | (rw [hQn]; omega) | (rw [hQn]; simp only [Nat.add_mul]; omega)) (by omega) (by omega))
              rw [HP.out] at st
              clear hQn
              go_wp2
              go_round
              case rel => exact ⟨i, a - p, Q, 2 * r + br - d, p / 2, by go_num, by go_num, by go_num, by go_num, by rw [HP.out], by omega, st.out⟩
              case measure => simp [intOf]; omega
          · obtain ⟨Q, hQn⟩ : ∃ Q, Q = 2 * q + bq := ⟨_, rfl⟩
            have hQ : 2 * (q : Int) + (bq : Int) = (Q : Int) := by omega
            by_cases c4 : 1152921504606846976 < Q
            · have ov := Lib.hid (HST.out.over1 hd (by rw [HP.out]; omega) Q (2 * r + br) (by have := F5.out; first | (rw [hQn]; done) | (rw [hQn]; omega) | (rw [hQn]; simp only [Nat.add_mul]; omega)) c4)
              clear hQn
              go_wp2
              go_ret3
              exact ⟨.inr ⟨ov.out, rfl⟩, rfl⟩
            · have st := Lib.hid (HST.out.one (by rw [HP.out]; omega) Q (2 * r + br) (by have := F5.out; first | (rw [hQn]; done) | (rw [hQn]; omega) | (rw [hQn]; simp only [Nat.add_mul]; omega)) (by omega) (by omega))
              rw [HP.out] at st
              clear hQn
              go_wp2
              go_round
              case rel => exact ⟨i, a - p, Q, 2 * r + br, p / 2, by go_num, by go_num, by go_num, by go_num, by rw [HP.out], by omega, st.out⟩
              case measure => simp [intOf]; omega
        · obtain ⟨Q, hQn⟩ : ∃ Q, Q = 2 * q := ⟨_, rfl⟩
          have hQ : 2 * (q : Int) = (Q : Int) := by omega
          by_cases c4 : 1152921504606846976 < Q
          · have ov := Lib.hid (HST.out.over0 hd (by rw [HP.out]; omega) Q (2 * r) (by have := F5.out; first | (rw [hQn]; done) | (rw [hQn]; omega) | (rw [hQn]; simp only [Nat.add_mul]; omega)) c4)
            clear hQn
            go_wp2
            go_ret3
            exact ⟨.inr ⟨ov.out, rfl⟩, rfl⟩
          · have st := Lib.hid (HST.out.zero (by rw [HP.out]; omega) Q (2 * r) (by have := F5.out; first | (rw [hQn]; done) | (rw [hQn]; omega) | (rw [hQn]; simp only [Nat.add_mul]; omega)) (by omega) (by omega))
            clear hQn
            go_wp2
            go_round
            case rel => exact ⟨i, a, Q, 2 * r, p / 2, by go_num, by go_num, by go_num, by go_num, by rw [HP.out], by omega, st.out⟩
            case measure => simp [intOf]; omega
end Go.Proofs.Ytedjmpifkgonhaa
