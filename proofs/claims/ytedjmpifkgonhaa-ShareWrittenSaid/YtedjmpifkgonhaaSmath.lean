/- The plain arithmetic of package share: quotas and remainders, the order of the remainders, division digit by digit, the comparison of fractions. No program is named here. -/
import Derived.WalkKit
import Derived.ProofKit
import Derived.Laws.Bits64b
namespace Go.Proofs.Ytedjmpifkgonhaa.Sm
open Go Go.RowKit

/-! ## division by two digits of 32 bits -/
/-- one digit: u * 2^32 + v divided by y = y1 * 2^32 + y0 -/
structure Dig (u v y1 y0 : Nat) : Prop where
  hu : u < y1 * 4294967296 + y0
  hv : v < 4294967296
  h1 : 2147483648 ≤ y1
  h2 : y1 < 4294967296
  h0 : y0 < 4294967296
/-- the guess q and its rest r: u = q * y1 + r, and q is not too small -/
def Guess (u v y1 y0 q r : Nat) : Prop := u = q * y1 + r ∧ (u * 4294967296 + v) / (y1 * 4294967296 + y0) ≤ q
theorem Dig.y_pos {u v y1 y0 : Nat} (h : Dig u v y1 y0) : 0 < y1 * 4294967296 + y0 := by have := h.h1; omega
theorem Dig.lt {u v y1 y0 : Nat} (h : Dig u v y1 y0) : (u * 4294967296 + v) / (y1 * 4294967296 + y0) < 4294967296 := by
  rw [Nat.div_lt_iff_lt_mul h.y_pos]
  have h1 := h.hu; have h2 := h.hv
  omega
theorem Dig.start {u v y1 y0 : Nat} (h : Dig u v y1 y0) : Guess u v y1 y0 (u / y1) (u % y1) := by
  have hy := h.h1
  refine ⟨(Nat.div_add_mod' u y1).symm, ?_⟩
  rw [Nat.le_div_iff_mul_le (by omega)]
  generalize hq : (u * 4294967296 + v) / (y1 * 4294967296 + y0) = q
  have h1 : q * (y1 * 4294967296 + y0) ≤ u * 4294967296 + v := by rw [← hq]; exact Nat.div_mul_le_self _ _
  have h2 : q * (y1 * 4294967296 + y0) = q * y1 * 4294967296 + q * y0 := by rw [Nat.mul_add, Nat.mul_assoc]
  have h3 := h.hv
  generalize q * y1 = a at *
  omega
theorem Dig.guess_lt {u v y1 y0 q r : Nat} (h : Dig u v y1 y0) (g : Guess u v y1 y0 q r) : q < 8589934594 := by
  have h1 := g.1; have h2 := h.h1; have h3 := h.hu; have h4 := h.h2; have h5 := h.h0
  have h6 : q * 2147483648 ≤ q * y1 := Nat.mul_le_mul_left _ h2
  generalize q * y1 = a at *
  omega
/-- the test holds: the guess is too great -/
theorem Dig.down {u v y1 y0 q r : Nat} (h : Dig u v y1 y0) (g : Guess u v y1 y0 q r) (ht : 4294967296 ≤ q ∨ 4294967296 * r + v < q * y0) :
    0 < q ∧ Guess u v y1 y0 (q - 1) (r + y1) := by
  have hlt : (u * 4294967296 + v) / (y1 * 4294967296 + y0) < q := by
    rcases ht with h1 | h1
    · exact Nat.lt_of_lt_of_le h.lt h1
    · rw [Nat.div_lt_iff_lt_mul h.y_pos, Nat.mul_add, ← Nat.mul_assoc]
      have h2 := g.1
      generalize q * y1 = a at *
      generalize q * y0 = b at *
      omega
  have h0 : 0 < q := Nat.lt_of_le_of_lt (Nat.zero_le _) hlt
  refine ⟨h0, ?_, Nat.le_sub_one_of_lt hlt⟩
  have h2 := g.1
  obtain ⟨p, rfl⟩ : ∃ p, q = p + 1 := ⟨q - 1, by omega⟩
  rw [Nat.add_mul] at h2
  simp only [Nat.add_sub_cancel]
  omega
/-- the test does not hold, or the rest is past a digit: the guess is the quotient -/
theorem Dig.done {u v y1 y0 q r : Nat} (h : Dig u v y1 y0) (g : Guess u v y1 y0 q r) (ht : q * y0 ≤ 4294967296 * r + v) :
    q = (u * 4294967296 + v) / (y1 * 4294967296 + y0) := by
  refine Nat.le_antisymm ?_ g.2
  rw [Nat.le_div_iff_mul_le h.y_pos, Nat.mul_add, ← Nat.mul_assoc]
  have h2 := g.1
  generalize q * y1 = a at *
  generalize q * y0 = b at *
  omega
theorem Dig.past {u v y1 y0 q r : Nat} (h : Dig u v y1 y0) (g : Guess u v y1 y0 q r) (hr : 4294967296 ≤ r) :
    q = (u * 4294967296 + v) / (y1 * 4294967296 + y0) := by
  refine h.done g ?_
  have hq : q < 4294967296 := by
    by_cases hq : q < 4294967296
    · exact hq
    · have h1 := g.1; have h2 := h.hu; have h3 := h.h0
      have h4 : 4294967296 * y1 ≤ q * y1 := Nat.mul_le_mul_right _ (by omega)
      generalize q * y1 = a at *
      omega
  have h3 := h.h0
  have h4 : q * y0 ≤ q * 4294967296 := Nat.mul_le_mul_left _ (by omega)
  omega
/-- the two digits together -/
theorem two_digits (V Y : Nat) (hY : 0 < Y) :
    V / Y = (V / 4294967296) / Y * 4294967296 + ((V / 4294967296) % Y * 4294967296 + V % 4294967296) / Y ∧
    V % Y = ((V / 4294967296) % Y * 4294967296 + V % 4294967296) % Y := by
  generalize hA : V / 4294967296 = A
  generalize hB : V % 4294967296 = B
  have hV : V = A * 4294967296 + B := by omega
  have hd := Nat.div_add_mod' A Y
  generalize A / Y = a at *
  generalize A % Y = r at *
  have e : V = (r * 4294967296 + B) + Y * (a * 4294967296) := by
    rw [hV, ← hd, Nat.add_mul, Nat.mul_comm Y, Nat.mul_right_comm a Y]; omega
  rw [e]
  constructor
  · rw [Nat.add_mul_div_left _ _ hY]; omega
  · rw [Nat.add_mul_mod_self_left]

theorem div_final {v y s U v1 v0 Y q1 u2 q0 r : Nat} (hV : v * 2 ^ s = (U * 4294967296 + v1) * 4294967296 + v0) (hv0 : v0 < 4294967296) (hY : Y = y * 2 ^ s) (hy : 0 < Y)
    (h1 : q1 = (U * 4294967296 + v1) / Y) (h2 : u2 = (U * 4294967296 + v1) % Y) (h3 : q0 = (u2 * 4294967296 + v0) / Y) (h4 : r = (u2 * 4294967296 + v0) % Y) :
    q1 * 4294967296 + q0 = v / y ∧ r / 2 ^ s = v % y := by
  have hp : 0 < 2 ^ s := Nat.pow_pos (by decide)
  have e1 : v / y = (v * 2 ^ s) / Y := by rw [hY, Nat.mul_div_mul_right _ _ hp]
  have e2 : v % y * 2 ^ s = (v * 2 ^ s) % Y := by rw [hY, Nat.mul_mod_mul_right]
  have e3 : (v * 2 ^ s) / 4294967296 = U * 4294967296 + v1 := by rw [hV]; omega
  have e4 : (v * 2 ^ s) % 4294967296 = v0 := by rw [hV]; omega
  obtain ⟨t1, t2⟩ := two_digits (v * 2 ^ s) Y hy
  rw [e3, e4, ← h1, ← h2] at t1
  rw [e3, e4, ← h2] at t2
  constructor
  · rw [e1, t1, h3]
  · rw [← e2, ← h4] at t2
    rw [← t2, Nat.mul_div_cancel _ hp]
/-- the digits of the dividend, brought to the front -/
theorem div_digits (hi lo s : Nat) (hs : s ≤ 63) : (hi * 18446744073709551616 + lo) * 2 ^ s = (hi * 2 ^ s + lo / 2 ^ (64 - s)) * 18446744073709551616 + lo * 2 ^ s % 18446744073709551616 := by
  have hp : 2 ^ s * 2 ^ (64 - s) = 18446744073709551616 := by rw [← Nat.pow_add, show s + (64 - s) = 64 from by omega]
  have h1 := Nat.div_add_mod (lo * 2 ^ s) 18446744073709551616
  have h2 : lo * 2 ^ s / 18446744073709551616 = lo / 2 ^ (64 - s) := by
    rw [← hp, Nat.mul_comm lo, Nat.mul_div_mul_left _ _ (Nat.pow_pos (by decide))]
  rw [h2] at h1
  rw [Nat.add_mul, Nat.add_mul, Nat.mul_right_comm]
  omega
theorem div_or (hi lo s : Nat) (hs : 1 ≤ s) (hs2 : s ≤ 63) (hl : lo < 18446744073709551616) (h : hi * 2 ^ s + 2 ^ s ≤ 18446744073709551616) :
    bits .or .u64 (IntKind.u64.wrap ((hi : Int) * 2 ^ s)) ((lo : Int) / 2 ^ (64 - s)) = ((hi * 2 ^ s + lo / 2 ^ (64 - s) : Nat) : Int) := by
  have hp : 2 ^ s * 2 ^ (64 - s) = 18446744073709551616 := by rw [← Nat.pow_add, show s + (64 - s) = 64 from by omega]
  have e1 : (hi : Int) * 2 ^ s = ((hi * 2 ^ s : Nat) : Int) := by push_cast; rfl
  have e2 : (lo : Int) / 2 ^ (64 - s) = ((lo / 2 ^ (64 - s) : Nat) : Int) := by push_cast; rfl
  have h3 : lo / 2 ^ (64 - s) < 2 ^ s := by
    rw [Nat.div_lt_iff_lt_mul (Nat.pow_pos (by decide)), hp]; exact hl
  have h4 : 0 < 2 ^ s := Nat.pow_pos (by decide)
  rw [e1, e2, IntKind.wrap_u64, show ((hi * 2 ^ s : Nat) : Int) % 18446744073709551616 = ((hi * 2 ^ s : Nat) : Int) from by omega, bits_or_u64_nat _ _ (by omega) (by omega)]
  have e3 := Nat.shiftLeft_add_eq_or_of_lt (b := lo / 2 ^ (64 - s)) (i := s) h3 hi
  rw [Nat.shiftLeft_eq] at e3
  rw [← e3]
theorem mask32 (a : Nat) (ha : a < 18446744073709551616) : bits .and .u64 (a : Int) 4294967295 = ((a % 4294967296 : Nat) : Int) := by
  have h := bits_and_u64_nat a 4294967295 ha (by omega)
  have e : a &&& 4294967295 = a % 4294967296 := Nat.and_two_pow_sub_one_eq_mod a 32
  rw [e] at h
  exact h
theorem castP (a s : Nat) : (a : Int) * 2 ^ s = ((a * 2 ^ s : Nat) : Int) := by push_cast; rfl
theorem wrapL (a : Nat) : IntKind.u64.wrap (a : Int) = ((a % 18446744073709551616 : Nat) : Int) := by rw [IntKind.wrap_u64]; omega
/-- all that a division by two digits begins with -/
theorem div_setup (hi lo y s : Nat) (hh : hi < y) (hy : y ≤ 1152921504606846976) (hl : lo < 18446744073709551616) (hs : s ≤ 63) (hY1 : 9223372036854775808 ≤ y * 2 ^ s) (hY2 : y * 2 ^ s < 18446744073709551616) :
    ∃ Y U L y1 y0 v1 v0 q p : Nat, Y = y * 2 ^ s ∧ Y < 18446744073709551616 ∧ 0 < Y ∧ (y : Int) * 2 ^ s = (Y : Int) ∧
      bits .or .u64 (IntKind.u64.wrap ((hi : Int) * 2 ^ s)) ((lo : Int) / 2 ^ (64 - s)) = (U : Int) ∧ IntKind.u64.wrap ((lo : Int) * 2 ^ s) = (L : Int) ∧
      (Y : Int) / 4294967296 = (y1 : Int) ∧ bits .and .u64 (Y : Int) 4294967295 = (y0 : Int) ∧ (L : Int) / 4294967296 = (v1 : Int) ∧ bits .and .u64 (L : Int) 4294967295 = (v0 : Int) ∧
      Y = y1 * 4294967296 + y0 ∧ Dig U v1 y1 y0 ∧ (hi * 18446744073709551616 + lo) * 2 ^ s = (U * 4294967296 + v1) * 4294967296 + v0 ∧ v0 < 4294967296 ∧ U < 18446744073709551616 ∧ L < 18446744073709551616 ∧
      (U : Int).tdiv (y1 : Int) = (q : Int) ∧ (q : Int) * (y1 : Int) = (p : Int) ∧ p ≤ U ∧ q ≤ U ∧ Guess U v1 y1 y0 q (U - p) ∧ U - p < 4294967296 := by
  obtain ⟨Y, hY⟩ : ∃ Y, Y = y * 2 ^ s := ⟨_, rfl⟩
  have hYp : Y ≤ y * 2 ^ 63 := by rw [hY]; exact Nat.mul_le_mul_left _ (Nat.pow_le_pow_right (by decide) hs)
  rw [← hY] at hY1 hY2
  have hs1 : 1 ≤ s := by
    by_cases h : 1 ≤ s
    · exact h
    · have : s = 0 := by omega
      subst this
      omega
  have hv := div_digits hi lo s hs
  have hhi : hi * 2 ^ s + 2 ^ s ≤ Y := by
    rw [hY, ← Nat.succ_mul]
    exact Nat.mul_le_mul_right _ hh
  have hor := div_or hi lo s hs1 hs hl (by omega)
  obtain ⟨U, hU⟩ : ∃ U, U = hi * 2 ^ s + lo / 2 ^ (64 - s) := ⟨_, rfl⟩
  have hUY : U < Y := by
    have hp : 2 ^ s * 2 ^ (64 - s) = 18446744073709551616 := by rw [← Nat.pow_add, show s + (64 - s) = 64 from by omega]
    have h3 : lo / 2 ^ (64 - s) < 2 ^ s := by
      rw [Nat.div_lt_iff_lt_mul (Nat.pow_pos (by decide)), hp]; exact hl
    omega
  rw [← hU] at hor hv
  have hL2 : lo * 2 ^ s % 18446744073709551616 < 18446744073709551616 := Nat.mod_lt _ (by decide)
  have f2 := wrapL (lo * 2 ^ s)
  generalize lo * 2 ^ s % 18446744073709551616 = L at *
  have hD : Dig U (L / 4294967296) (Y / 4294967296) (Y % 4294967296) := ⟨by omega, by omega, by omega, by omega, by omega⟩
  have hst := hD.start
  have hm := Nat.div_add_mod' U (Y / 4294967296)
  have hm2 := Nat.mod_lt U (show 0 < Y / 4294967296 by have := hD.h1; omega)
  have e : U % (Y / 4294967296) = U - U / (Y / 4294967296) * (Y / 4294967296) := by omega
  rw [e] at hst
  refine ⟨Y, U, L, Y / 4294967296, Y % 4294967296, L / 4294967296, L % 4294967296, U / (Y / 4294967296), U / (Y / 4294967296) * (Y / 4294967296), hY, hY2, by omega, by rw [castP, hY], hor, by rw [castP, f2],
    by omega, mask32 Y hY2, by omega, mask32 L hL2, by omega, hD, ?_, by omega, by omega, hL2, ?_, (Int.natCast_mul _ _).symm, ?_, Nat.div_le_self _ _, hst, ?_⟩
  · rw [hv]; omega
  · rw [Int.tdiv_eq_ediv_of_nonneg (by omega)]; exact (Int.natCast_ediv _ _).symm
  · omega
  · have := hD.h2; omega
/-- what is left behind a digit, in words of 64 bits -/
theorem div_rest {U v q Y u : Nat} (hY : Y < 18446744073709551616) (hY0 : 0 < Y) (hq : q = (U * 4294967296 + v) / Y) (hu : u = (U * 4294967296 + v) % Y) :
    IntKind.u64.wrap (IntKind.u64.wrap (IntKind.u64.wrap ((U : Int) * 4294967296) + (v : Int)) - IntKind.u64.wrap ((q : Int) * (Y : Int))) = (u : Int) := by
  have h1 := Nat.div_add_mod' (U * 4294967296 + v) Y
  have h2 := Nat.mod_lt (U * 4294967296 + v) hY0
  rw [← hq, ← hu] at h1
  rw [← hu] at h2
  rw [← Int.natCast_mul]
  generalize q * Y = c at *
  simp only [IntKind.wrap_u64]
  omega
theorem Dig.next {U v1 y1 y0 v0 Y u : Nat} (h : Dig U v1 y1 y0) (hY : Y = y1 * 4294967296 + y0) (hv : v0 < 4294967296) (hu : u = (U * 4294967296 + v1) % Y) : Dig u v0 y1 y0 :=
  ⟨by rw [← hY, hu]; exact Nat.mod_lt _ (by rw [hY]; exact h.y_pos), hv, h.h1, h.h2, h.h0⟩
/-- the guess that a digit begins with -/
theorem Dig.first {u v y1 y0 : Nat} (h : Dig u v y1 y0) : ∃ q p : Nat, (u : Int).tdiv (y1 : Int) = (q : Int) ∧ (q : Int) * (y1 : Int) = (p : Int) ∧ p ≤ u ∧ q ≤ u ∧ Guess u v y1 y0 q (u - p) ∧ u - p < 4294967296 := by
  have hst := h.start
  have hm := Nat.div_add_mod' u y1
  have hm2 := Nat.mod_lt u (show 0 < y1 by have := h.h1; omega)
  have e : u % y1 = u - u / y1 * y1 := by omega
  rw [e] at hst
  refine ⟨u / y1, u / y1 * y1, ?_, (Int.natCast_mul _ _).symm, ?_, Nat.div_le_self _ _, hst, ?_⟩
  · rw [Int.tdiv_eq_ediv_of_nonneg (by omega)]; exact (Int.natCast_ediv _ _).symm
  · omega
  · have := h.h2; omega
theorem div_top {hi lo y q q0 : Nat} (hh : hi < y) (hl : lo < 18446744073709551616) (h : q * 4294967296 + q0 = (hi * 18446744073709551616 + lo) / y) : IntKind.u64.wrap (IntKind.u64.wrap ((q : Int) * 4294967296) + (q0 : Int)) = ((q * 4294967296 + q0 : Nat) : Int) := by
  have h1 : (hi * 18446744073709551616 + lo) / y < 18446744073709551616 := by
    rw [Nat.div_lt_iff_lt_mul (by omega)]
    have := Nat.mul_le_mul_left 18446744073709551616 (show hi + 1 ≤ y from hh)
    omega
  simp only [IntKind.wrap_u64]
  omega
/-! ## the reference's division, bit by bit -/
def DivSt (A b d j a q r : Nat) : Prop := a = A % 2 ^ j ∧ q * d + r = A / 2 ^ j * b ∧ r < d ∧ q ≤ 1152921504606846976
theorem DivSt.start {A b d : Nat} (hA : A ≤ 1152921504606846976) (hd : 0 < d) : DivSt A b d 61 A 0 0 := by
  refine ⟨(Nat.mod_eq_of_lt (by omega)).symm, ?_, hd, by omega⟩
  rw [Nat.div_eq_of_lt (by omega)]
  simp
theorem bit_split (A i : Nat) : A / 2 ^ i = 2 * (A / 2 ^ (i + 1)) + (if 2 ^ i ≤ A % 2 ^ (i + 1) then 1 else 0) ∧ A % 2 ^ i = A % 2 ^ (i + 1) - (if 2 ^ i ≤ A % 2 ^ (i + 1) then 2 ^ i else 0) := by
  have hp : 0 < 2 ^ i := Nat.pow_pos (by decide)
  have hp2 : 2 ^ (i + 1) = 2 ^ i * 2 := Nat.pow_succ ..
  generalize 2 ^ i = p at *
  rw [hp2]
  have h1 := Nat.div_add_mod A (p * 2)
  have h2 := Nat.mod_lt A (show 0 < p * 2 by omega)
  generalize A / (p * 2) = x at *
  generalize A % (p * 2) = y at *
  have e1 : p * 2 * x = p * (2 * x) := Nat.mul_assoc ..
  split
  · have e : A = (y - p) + p * (2 * x + 1) := by rw [Nat.mul_add, Nat.mul_one]; omega
    rw [e, Nat.add_mul_div_left _ _ hp, Nat.add_mul_mod_self_left, Nat.div_eq_of_lt (by omega), Nat.mod_eq_of_lt (by omega)]
    omega
  · have e : A = y + p * (2 * x) := by omega
    rw [e, Nat.add_mul_div_left _ _ hp, Nat.add_mul_mod_self_left, Nat.div_eq_of_lt (by omega), Nat.mod_eq_of_lt (by omega)]
    omega
/-- one round: what is doubled, and the divisor's part that comes in with a bit -/
theorem DivSt.zero {A b d i a q r : Nat} (h : DivSt A b d (i + 1) a q r) (hb : a < 2 ^ i) (q' r' : Nat)
    (he : q' * d + r' = (2 * q) * d + 2 * r) (hr : r' < d) (hq : q' ≤ 1152921504606846976) : DivSt A b d i a q' r' := by
  obtain ⟨rfl, h2, h3, h4⟩ := h
  obtain ⟨e1, e2⟩ := bit_split A i
  rw [if_neg (by omega)] at e1 e2
  refine ⟨by omega, ?_, hr, hq⟩
  rw [he, e1, Nat.add_zero, Nat.mul_assoc, Nat.mul_assoc, ← Nat.mul_add, h2]
theorem DivSt.one {A b d i a q r : Nat} (h : DivSt A b d (i + 1) a q r) (hb : 2 ^ i ≤ a) (q' r' : Nat)
    (he : q' * d + r' = (2 * q) * d + 2 * r + b) (hr : r' < d) (hq : q' ≤ 1152921504606846976) : DivSt A b d i (a - 2 ^ i) q' r' := by
  obtain ⟨rfl, h2, h3, h4⟩ := h
  obtain ⟨e1, e2⟩ := bit_split A i
  rw [if_pos hb] at e1 e2
  refine ⟨by omega, ?_, hr, hq⟩
  rw [he, e1, Nat.add_mul, Nat.one_mul, Nat.mul_assoc, Nat.mul_assoc, ← Nat.mul_add, h2]
theorem DivSt.over0 {A b d i a q r : Nat} (hd : 0 < d) (h : DivSt A b d (i + 1) a q r) (hb : a < 2 ^ i) (q' r' : Nat)
    (he : q' * d + r' = (2 * q) * d + 2 * r) (hq : 1152921504606846976 < q') : 1152921504606846976 < A * b / d := by
  obtain ⟨rfl, h2, h3, h4⟩ := h
  obtain ⟨e1, e2⟩ := bit_split A i
  rw [if_neg (by omega), Nat.add_zero] at e1
  have h5 : q' * d ≤ A * b := by
    have : q' * d ≤ A / 2 ^ i * b := by rw [e1, Nat.mul_assoc, ← h2, Nat.mul_add, ← Nat.mul_assoc]; omega
    exact Nat.le_trans this (Nat.mul_le_mul_right _ (Nat.div_le_self _ _))
  exact Nat.lt_of_lt_of_le hq ((Nat.le_div_iff_mul_le hd).2 h5)
theorem DivSt.over1 {A b d i a q r : Nat} (hd : 0 < d) (h : DivSt A b d (i + 1) a q r) (hb : 2 ^ i ≤ a) (q' r' : Nat)
    (he : q' * d + r' = (2 * q) * d + 2 * r + b) (hq : 1152921504606846976 < q') : 1152921504606846976 < A * b / d := by
  obtain ⟨rfl, h2, h3, h4⟩ := h
  obtain ⟨e1, e2⟩ := bit_split A i
  rw [if_pos hb] at e1
  have h5 : q' * d ≤ A * b := by
    have : q' * d ≤ A / 2 ^ i * b := by rw [e1, Nat.add_mul, Nat.one_mul, Nat.mul_assoc, ← h2, Nat.mul_add, ← Nat.mul_assoc]; omega
    exact Nat.le_trans this (Nat.mul_le_mul_right _ (Nat.div_le_self _ _))
  exact Nat.lt_of_lt_of_le hq ((Nat.le_div_iff_mul_le hd).2 h5)
theorem DivSt.stop {A b d a q r : Nat} (h : DivSt A b d 0 a q r) : q = A * b / d ∧ r = A * b % d ∧ A * b / d ≤ 1152921504606846976 := by
  obtain ⟨_, h2, h3, h4⟩ := h
  rw [Nat.pow_zero, Nat.div_one] at h2
  have hd : 0 < d := by omega
  have e : A * b = r + d * q := by rw [← h2, Nat.mul_comm d]; omega
  rw [e, Nat.add_mul_div_left _ _ hd, Nat.add_mul_mod_self_left, Nat.div_eq_of_lt h3, Nat.mod_eq_of_lt h3]
  omega

/-! ## the comparison of fractions -/
def cmp4 (a b c d : Nat) : Int := if a * d < c * b then -1 else if c * b < a * d then 1 else 0
theorem cmp4_whole_lt {a b c d : Nat} (hb : 0 < b) (hd : 0 < d) (h : a / b < c / d) : cmp4 a b c d = -1 := by
  unfold cmp4
  rw [if_pos]
  have h1 : a < (a / b + 1) * b := by rw [Nat.add_mul, Nat.one_mul]; have := Nat.div_add_mod' a b; have := Nat.mod_lt a hb; omega
  have h2 : c / d * d ≤ c := Nat.div_mul_le_self c d
  have h3 : (a / b + 1) * b * d ≤ c * b := by
    have : (a / b + 1) * d ≤ c := Nat.le_trans (Nat.mul_le_mul_right _ h) h2
    rw [Nat.mul_right_comm]
    exact Nat.mul_le_mul_right _ this
  exact Nat.lt_of_lt_of_le (Nat.mul_lt_mul_of_pos_right h1 hd) h3
theorem cmp4_swap (a b c d : Nat) : cmp4 c d a b = -cmp4 a b c d := by
  unfold cmp4
  by_cases h1 : a * d < c * b
  · rw [if_neg (by omega), if_pos h1, if_pos h1]; rfl
  · by_cases h2 : c * b < a * d
    · rw [if_pos h2, if_neg h1, if_pos h2]
    · rw [if_neg h2, if_neg h1, if_neg h1, if_neg h2]; rfl
theorem cmp4_whole_gt {a b c d : Nat} (hb : 0 < b) (hd : 0 < d) (h : c / d < a / b) : cmp4 a b c d = 1 := by
  have := cmp4_whole_lt hd hb h
  rw [cmp4_swap] at this
  omega
theorem cmp4_rest {a b c d : Nat} (h : a / b = c / d) : cmp4 a b c d = cmp4 (a % b) b (c % d) d := by
  have h1 := Nat.div_add_mod' a b
  have h2 := Nat.div_add_mod' c d
  rw [← h] at h2
  generalize a / b = k at *
  generalize a % b = p at *
  generalize c % d = q at *
  unfold cmp4
  have e1 : a * d = k * (b * d) + p * d := by rw [← h1, Nat.add_mul, Nat.mul_assoc]
  have e2 : c * b = k * (b * d) + q * b := by rw [← h2, Nat.add_mul, Nat.mul_assoc, Nat.mul_comm d b]
  rw [e1, e2]
  simp only [Nat.add_lt_add_iff_left]
theorem cmp4_flip {a b c d : Nat} : cmp4 a b c d = -cmp4 b a d c := by
  rw [← cmp4_swap]
  unfold cmp4
  rw [Nat.mul_comm a d, Nat.mul_comm c b]
theorem cmp4_00 {b d : Nat} : cmp4 0 b 0 d = 0 := by simp [cmp4]
theorem cmp4_0p {b c d : Nat} (hb : 0 < b) (hc : 0 < c) : cmp4 0 b c d = -1 := by
  unfold cmp4; rw [if_pos (by rw [Nat.zero_mul]; exact Nat.mul_pos hc hb)]
theorem cmp4_p0 {a b d : Nat} (ha : 0 < a) (hd : 0 < d) : cmp4 a b 0 d = 1 := by
  have := cmp4_0p (d := b) hd ha
  rw [cmp4_swap] at this
  omega
theorem cmp4_range (a b c d : Nat) : cmp4 a b c d = -1 ∨ cmp4 a b c d = 0 ∨ cmp4 a b c d = 1 := by
  unfold cmp4; split
  · exact .inl rfl
  · split
    · exact .inr (.inr rfl)
    · exact .inr (.inl rfl)
theorem cmp4_mul {k a b : Nat} : cmp4 a b (k * a) (k * b) = 0 := by
  unfold cmp4
  have : a * (k * b) = k * a * b := by rw [← Nat.mul_assoc, Nat.mul_comm a k]
  rw [if_neg (by omega), if_neg (by omega)]
theorem cmp4_le {a b c d : Nat} : cmp4 a b c d ≤ 0 ↔ a * d ≤ c * b := by
  unfold cmp4
  by_cases h1 : a * d < c * b
  · rw [if_pos h1]; constructor <;> intro _ <;> omega
  · by_cases h2 : c * b < a * d
    · rw [if_neg h1, if_pos h2]; constructor <;> intro _ <;> omega
    · rw [if_neg h1, if_neg h2]; constructor <;> intro _ <;> omega
theorem frac_trans {a b c d e f : Nat} (hd : 0 < d) (h1 : a * d ≤ c * b) (h2 : c * f ≤ e * d) : a * f ≤ e * b := by
  have e1 : a * f * d ≤ e * b * d := by
    calc a * f * d = a * d * f := Nat.mul_right_comm ..
      _ ≤ c * b * f := Nat.mul_le_mul_right _ h1
      _ = c * f * b := Nat.mul_right_comm ..
      _ ≤ e * d * b := Nat.mul_le_mul_right _ h2
      _ = e * b * d := Nat.mul_right_comm ..
  exact Nat.le_of_mul_le_mul_right e1 hd
theorem cmp4_trans {a b c d e f : Nat} (hd : 0 < d) (h1 : cmp4 a b c d ≤ 0) (h2 : cmp4 c d e f ≤ 0) : cmp4 a b e f ≤ 0 :=
  cmp4_le.2 (frac_trans hd (cmp4_le.1 h1) (cmp4_le.1 h2))
theorem cmp4_trans' {a b c d e f : Nat} (hd : 0 < d) (h1 : 0 ≤ cmp4 a b c d) (h2 : 0 ≤ cmp4 c d e f) : 0 ≤ cmp4 a b e f := by
  have := cmp4_trans (a := e) (b := f) (c := c) (d := d) (e := a) (f := b) hd (by rw [cmp4_swap]; omega) (by rw [cmp4_swap]; omega)
  rw [cmp4_swap] at this
  omega
/-- by the two halves of the products -/
theorem cmp4_halves (a b c d K : Nat) (hK : 0 < K) : cmp4 a b c d = if a * d / K < c * b / K then -1 else if c * b / K < a * d / K then 1 else if a * d % K < c * b % K then -1 else if c * b % K < a * d % K then 1 else 0 := by
  unfold cmp4
  have h1 := Nat.div_add_mod' (a * d) K
  have h2 := Nat.div_add_mod' (c * b) K
  have h3 := Nat.mod_lt (a * d) hK
  have h4 := Nat.mod_lt (c * b) hK
  have hdiv : ∀ x y : Nat, x / K < y / K → x < y := fun x y h => by
    by_cases hxy : x < y
    · exact hxy
    · have := Nat.div_le_div_right (c := K) (show y ≤ x by omega); omega
  generalize a * d = x at *
  generalize c * b = y at *
  by_cases hl : x / K < y / K
  · rw [if_pos hl, if_pos (hdiv _ _ hl)]
  · rw [if_neg hl]
    by_cases hg : y / K < x / K
    · have := hdiv _ _ hg
      rw [if_pos hg, if_neg (by omega), if_pos this]
    · have he : x / K = y / K := by omega
      rw [if_neg hg]
      rw [he] at h1
      generalize y / K * K = z at *
      by_cases hm : x % K < y % K
      · rw [if_pos hm, if_pos (by omega)]
      · by_cases hm' : y % K < x % K
        · rw [if_neg hm, if_pos hm', if_neg (by omega), if_pos (by omega)]
        · rw [if_neg hm, if_neg hm', if_neg (by omega), if_neg (by omega)]
end Go.Proofs.Ytedjmpifkgonhaa.Sm
