/- math/bits at this program: Mul64, LeadingZeros64 (by the library's contracts), Div64. -/
import Derived.Test.YtedjmpifkgonhaaSlay
import Derived.Test.YtedjmpifkgonhaaSref
import Derived.Lib.ItoaNum
import Derived.Deep.CutBlock
import Derived.Deep.CutRange
namespace Go.Proofs.Ytedjmpifkgonhaa
open Go.RowKit Hb Sm

theorem mul64 (x y : Nat) (hx : x < 18446744073709551616) (hy : y < 18446744073709551616) (w : World) :
    Calls Try.prog 57 #[.int .u64 x, .int .u64 y] w fun e w' => (∃ h l : Nat, e = .returned (.tuple #[.int .u64 h, .int .u64 l]) ∧ h = x * y / 18446744073709551616 ∧ l = x * y % 18446744073709551616) ∧ w = w' :=
  (Any.bits_Mul64 Try.layMul64 x y hx hy w).mono fun _ _ ⟨he, hw⟩ => ⟨⟨_, _, he, rfl, rfl⟩, hw.symm⟩
theorem bitLen_bounds (x : Nat) (h0 : 0 < x) (h : x < 18446744073709551616) : 1 ≤ Lib.bitLen x ∧ Lib.bitLen x ≤ 64 ∧ 2 ^ (Lib.bitLen x - 1) ≤ x ∧ x < 2 ^ Lib.bitLen x := by
  have h1 := Lib.bitLenAux_bounds 64 x h (by omega)
  exact ⟨h1.1, Lib.bitLen_le x 64 (Nat.le_refl _) h, h1.2⟩
/-- the leading zeros as the shift that brings the highest bit to the front -/
theorem lz64 (y : Nat) (h0 : 0 < y) (h : y < 18446744073709551616) (w : World) :
    Calls Try.prog 63 #[.int .u64 y] w fun e w' => (∃ s : Nat, e = .returned (.int .i64 s) ∧ s ≤ 63 ∧ 9223372036854775808 ≤ y * 2 ^ s ∧ y * 2 ^ s < 18446744073709551616) ∧ w = w' :=
  (Any.bits_LeadingZeros64 Try.layLz64 y w (by omega) (by omega)).mono fun _ _ ⟨he, hw⟩ => by
    obtain ⟨b1, b2, b3, b4⟩ := bitLen_bounds y h0 h
    rw [Int.toNat_natCast] at he
    refine ⟨⟨64 - Lib.bitLen y, by rw [he]; congr 2; omega, by omega, ?_, ?_⟩, hw.symm⟩
    · have : 2 ^ (Lib.bitLen y - 1) * 2 ^ (64 - Lib.bitLen y) = 2 ^ 63 := by rw [← Nat.pow_add]; congr 1; omega
      have := Nat.mul_le_mul_right (2 ^ (64 - Lib.bitLen y)) b3
      omega
    · have h1 : 2 ^ Lib.bitLen y * 2 ^ (64 - Lib.bitLen y) = 2 ^ 64 := by rw [← Nat.pow_add]; congr 1; omega
      have := Nat.mul_lt_mul_of_pos_right b4 (show 0 < 2 ^ (64 - Lib.bitLen y) from Nat.pow_pos (by decide))
      omega

set_option maxRecDepth 100000 in
set_option maxHeartbeats 2000000 in
theorem div64 (hi lo y : Nat) (hh : hi < y) (hy : y ≤ 1152921504606846976) (hl : lo < 18446744073709551616) (w : World) :
    Calls Try.prog 52 #[.int .u64 hi, .int .u64 lo, .int .u64 y] w fun e w' => (∃ q r : Nat, e = .returned (.tuple #[.int .u64 q, .int .u64 r]) ∧ q = (hi * 18446744073709551616 + lo) / y ∧ r = (hi * 18446744073709551616 + lo) % y) ∧ Quiet w w' := by
  by_cases h0 : hi = 0
  · subst h0
    obtain ⟨q, hq⟩ : ∃ q, q = lo / y := ⟨_, rfl⟩
    obtain ⟨r, hr⟩ : ∃ r, r = lo % y := ⟨_, rfl⟩
    have f1 : (lo : Int) / (y : Int) = (q : Int) := by rw [hq]; simp
    have f2 : (lo : Int) % (y : Int) = (r : Int) := by rw [hr]; simp
    have HQ := Lib.hid hq
    have HR := Lib.hid hr
    clear hq hr
    go_enter Try.func52, Try.ntmps52
    go_wp2_with fail
    go_quiet (fail)
    go_wp2
    go_ret2
    have hql : q < 18446744073709551616 := by rw [HQ.out]; exact Nat.lt_of_le_of_lt (Nat.div_le_self _ _) hl
    refine ⟨⟨q, r, ?_, by rw [HQ.out]; simp, by rw [HR.out]; simp⟩, _, rfl⟩
    show Ending.returned (.tuple #[.int .u64 (IntKind.u64.wrap ↑q), .int .u64 (↑lo % ↑y)]) = _
    rw [f2, Mul64.wrapN q hql]
  · go_enter Try.func52, Try.ntmps52
    go_wp2_with fail
    refine (lz64 y (by omega) (by omega) w).mono ?_
    rintro e W ⟨⟨s, rfl, hs, hY1, hY2⟩, rfl⟩
    obtain ⟨Y, U, L, y1, y0, v1, v0, q, p, hY, hY2, hY0, f1, f2, f3, f4, f5, f6, f7, hYY, hD, hV, hv0, hU, hL, f8, f9, hpU, hqU, hG, hr0⟩ := div_setup hi lo y s hh hy hl hs hY1 hY2
    have HY := Lib.hid hY
    have HYY := Lib.hid hYY
    have HD := Lib.hid hD
    have HV := Lib.hid hV
    have G0 := Lib.hid hG
    have hy1 := hD.h1
    have hy1' := hD.h2
    have hy0 := hD.h0
    have hv1 := hD.hv
    clear hY hYY hD hV hG hY1
    go_upto_block 0 with (fail)
    go_cut [15, 16] from 67 to 85 (fun qv _ wx => ∃ q : Nat, qv = .int .u64 q ∧ Hid (q = (U * 4294967296 + v1) / (y1 * 4294967296 + y0)) ∧ w = wx)
    case first =>
      go_wp2_with fail
      go_loop [15, 16] (fun qv rv => ∃ q r : Nat, qv = .int .u64 q ∧ rv = .int .u64 r ∧ r < 4294967296 ∧ Hid (Guess U v1 y1 y0 q r)) (fun qv _ => (intOf qv).toNat)
      case atStart => exact ⟨q, U - p, by go_num, by go_num, hr0, G0⟩
      case round =>
        clear G0 hr0 f8 f9 hpU hqU
        obtain ⟨q, r, rfl, rfl, hr, G⟩ := hrel
        have hqb := HD.out.guess_lt G.out
        rcases Nat.lt_or_ge q 4294967296 with hq | hq
        · obtain ⟨x, hx⟩ : ∃ x, x = q * y0 := ⟨_, rfl⟩
          have e1 : (q : Int) * (y0 : Int) = (x : Int) := by rw [hx]; exact (Int.natCast_mul _ _).symm
          have hxl : x ≤ 4294967295 * 4294967295 := by rw [hx]; exact Nat.mul_le_mul (by omega) (by omega)
          rcases Nat.lt_or_ge (4294967296 * r + v1) x with ht | ht
          · have G2 := HD.out.down G.out (.inr (by rw [← hx]; omega))
            have d1 : decide ((q : Int) ≥ 4294967296) = false := decide_eq_false (by omega)
            have d2 : decide ((x : Int) > 4294967296 * (r : Int) + (v1 : Int)) = true := decide_eq_true (by omega)
            clear hx ht hq
            have hq0 := G2.1
            have G3 := Lib.hid G2.2
            clear G G2
            obtain ⟨q', hq'⟩ : ∃ q', q' = q - 1 := ⟨_, rfl⟩
            rw [← hq'] at G3
            have m1 : (q : Int) - 1 = (q' : Int) := by omega
            have hlt : q' < q := by omega
            have hqb' : q' < 8589934594 := by omega
            clear hq'
            rcases Nat.lt_or_ge (r + y1) 4294967296 with hr' | hr'
            · have d3 : decide ((r : Int) + (y1 : Int) ≥ 4294967296) = false := decide_eq_false (by omega)
              go_wp2
              go_round
              case rel => exact ⟨q', r + y1, by go_num, by go_num, hr', G3⟩
              case measure => simp [intOf]; omega
            · have d3 : decide ((r : Int) + (y1 : Int) ≥ 4294967296) = true := decide_eq_true (by omega)
              have HE := Lib.hid (HD.out.past G3.out hr')
              clear G3 hlt hqb' hr'
              go_wp2_with fail
              go_meet
              case rel => exact ⟨q', rfl, HE, rfl⟩
          · have E := HD.out.done G.out (by rw [← hx]; omega)
            have d1 : decide ((q : Int) ≥ 4294967296) = false := decide_eq_false (by omega)
            have d2 : decide ((x : Int) > 4294967296 * (r : Int) + (v1 : Int)) = false := decide_eq_false (by omega)
            have HE := Lib.hid E
            clear hx ht hq E
            go_wp2_with fail
            go_meet
            case rel => exact ⟨q, rfl, HE, rfl⟩
        · have G2 := HD.out.down G.out (.inl hq)
          have d1 : decide ((q : Int) ≥ 4294967296) = true := decide_eq_true (by omega)
          clear hq
          have hq0 := G2.1
          have G3 := Lib.hid G2.2
          clear G G2
          obtain ⟨q', hq'⟩ : ∃ q', q' = q - 1 := ⟨_, rfl⟩
          rw [← hq'] at G3
          have m1 : (q : Int) - 1 = (q' : Int) := by omega
          have hlt : q' < q := by omega
          have hqb' : q' < 8589934594 := by omega
          clear hq'
          rcases Nat.lt_or_ge (r + y1) 4294967296 with hr' | hr'
          · have d3 : decide ((r : Int) + (y1 : Int) ≥ 4294967296) = false := decide_eq_false (by omega)
            go_wp2
            go_round
            case rel => exact ⟨q', r + y1, by go_num, by go_num, hr', G3⟩
            case measure => simp [intOf]; omega
          · have d3 : decide ((r : Int) + (y1 : Int) ≥ 4294967296) = true := decide_eq_true (by omega)
            have HE := Lib.hid (HD.out.past G3.out hr')
            clear G3 hlt hqb' hr'
            go_wp2_with fail
            go_meet
            case rel => exact ⟨q', rfl, HE, rfl⟩
    case rest =>
      clear G0 hr0 f8 f9 hpU hqU
      obtain ⟨qa, rfl, E, rfl⟩ := hcut
      rw [← HYY.out] at E
      obtain ⟨u, hu⟩ : ∃ u, u = (U * 4294967296 + v1) % Y := ⟨_, rfl⟩
      have k1 := div_rest hY2 hY0 E.out hu
      have hD2 := HD.out.next HYY.out hv0 hu
      obtain ⟨q2, p2, f8, f9, hpU, hqU, k6, hr0⟩ := hD2.first
      have hu' : u < 18446744073709551616 := by rw [hu]; exact Nat.lt_trans (Nat.mod_lt _ hY0) hY2
      have HU := Lib.hid hu
      have HD2 := Lib.hid hD2
      have G0 := Lib.hid k6
      clear hu hD2 k6
      go_upto_block 2 with (fail)
      go_cut [18, 16] from 102 to 120 (fun qv _ wx => ∃ q : Nat, qv = .int .u64 q ∧ Hid (q = (u * 4294967296 + v0) / (y1 * 4294967296 + y0)) ∧ w = wx)
      case first =>
        go_wp2_with fail
        go_loop [18, 16] (fun qv rv => ∃ q r : Nat, qv = .int .u64 q ∧ rv = .int .u64 r ∧ r < 4294967296 ∧ Hid (Guess u v0 y1 y0 q r)) (fun qv _ => (intOf qv).toNat)
        case atStart => exact ⟨q2, u - p2, by go_num, by go_num, hr0, G0⟩
        case round =>
          clear G0 hr0 f8 f9 hpU hqU
          obtain ⟨q, r, rfl, rfl, hr, G⟩ := hrel
          have hqb := HD2.out.guess_lt G.out
          rcases Nat.lt_or_ge q 4294967296 with hq | hq
          · obtain ⟨x, hx⟩ : ∃ x, x = q * y0 := ⟨_, rfl⟩
            have e1 : (q : Int) * (y0 : Int) = (x : Int) := by rw [hx]; exact (Int.natCast_mul _ _).symm
            have hxl : x ≤ 4294967295 * 4294967295 := by rw [hx]; exact Nat.mul_le_mul (by omega) (by omega)
            rcases Nat.lt_or_ge (4294967296 * r + v0) x with ht | ht
            · have G2 := HD2.out.down G.out (.inr (by rw [← hx]; omega))
              have d1 : decide ((q : Int) ≥ 4294967296) = false := decide_eq_false (by omega)
              have d2 : decide ((x : Int) > 4294967296 * (r : Int) + (v0 : Int)) = true := decide_eq_true (by omega)
              clear hx ht hq
              have hq0 := G2.1
              have G3 := Lib.hid G2.2
              clear G G2
              obtain ⟨q', hq'⟩ : ∃ q', q' = q - 1 := ⟨_, rfl⟩
              rw [← hq'] at G3
              have m1 : (q : Int) - 1 = (q' : Int) := by omega
              have hlt : q' < q := by omega
              have hqb' : q' < 8589934594 := by omega
              clear hq'
              rcases Nat.lt_or_ge (r + y1) 4294967296 with hr' | hr'
              · have d3 : decide ((r : Int) + (y1 : Int) ≥ 4294967296) = false := decide_eq_false (by omega)
                go_wp2
                go_round
                case rel => exact ⟨q', r + y1, by go_num, by go_num, hr', G3⟩
                case measure => simp [intOf]; omega
              · have d3 : decide ((r : Int) + (y1 : Int) ≥ 4294967296) = true := decide_eq_true (by omega)
                have HE := Lib.hid (HD2.out.past G3.out hr')
                clear G3 hlt hqb' hr'
                go_wp2_with fail
                go_meet
                case rel => exact ⟨q', rfl, HE, rfl⟩
            · have E := HD2.out.done G.out (by rw [← hx]; omega)
              have d1 : decide ((q : Int) ≥ 4294967296) = false := decide_eq_false (by omega)
              have d2 : decide ((x : Int) > 4294967296 * (r : Int) + (v0 : Int)) = false := decide_eq_false (by omega)
              have HE := Lib.hid E
              clear hx ht hq E
              go_wp2_with fail
              go_meet
              case rel => exact ⟨q, rfl, HE, rfl⟩
          · have G2 := HD2.out.down G.out (.inl hq)
            have d1 : decide ((q : Int) ≥ 4294967296) = true := decide_eq_true (by omega)
            clear hq
            have hq0 := G2.1
            have G3 := Lib.hid G2.2
            clear G G2
            obtain ⟨q', hq'⟩ : ∃ q', q' = q - 1 := ⟨_, rfl⟩
            rw [← hq'] at G3
            have m1 : (q : Int) - 1 = (q' : Int) := by omega
            have hlt : q' < q := by omega
            have hqb' : q' < 8589934594 := by omega
            clear hq'
            rcases Nat.lt_or_ge (r + y1) 4294967296 with hr' | hr'
            · have d3 : decide ((r : Int) + (y1 : Int) ≥ 4294967296) = false := decide_eq_false (by omega)
              go_wp2
              go_round
              case rel => exact ⟨q', r + y1, by go_num, by go_num, hr', G3⟩
              case measure => simp [intOf]; omega
            · have d3 : decide ((r : Int) + (y1 : Int) ≥ 4294967296) = true := decide_eq_true (by omega)
              have HE := Lib.hid (HD2.out.past G3.out hr')
              clear G3 hlt hqb' hr'
              go_wp2_with fail
              go_meet
              case rel => exact ⟨q', rfl, HE, rfl⟩
      case rest =>
        clear G0 hr0 f8 f9 hpU hqU
        obtain ⟨qb, rfl, E2, rfl⟩ := hcut
        rw [← HYY.out] at E2
        obtain ⟨r, hr⟩ : ∃ r, r = (u * 4294967296 + v0) % Y := ⟨_, rfl⟩
        have k2 := div_rest hY2 hY0 E2.out hr
        obtain ⟨c1, c2⟩ := div_final HV.out hv0 HY.out hY0 E.out HU.out E2.out hr
        have k3 := div_top hh hl c1
        have k4 : (r : Int) / 2 ^ s = ((r / 2 ^ s : Nat) : Int) := by push_cast; rfl
        obtain ⟨Q, hQ⟩ : ∃ Q, Q = qa * 4294967296 + qb := ⟨_, rfl⟩
        obtain ⟨R, hR⟩ : ∃ R, R = r / 2 ^ s := ⟨_, rfl⟩
        rw [← hQ] at k3 c1
        rw [← hR] at k4 c2
        have C := Lib.hid (And.intro c1 c2)
        clear hQ hR c1 c2 hr
        go_wp2
        go_ret2
        exact ⟨⟨Q, R, rfl, C.out.1, C.out.2⟩, 0, rfl⟩
end Go.Proofs.Ytedjmpifkgonhaa
