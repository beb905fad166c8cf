/- What package share answers: amounts and fractions, divide, Part, Ceil, Compare. -/
import Derived.Test.YtedjmpifkgonhaaSlib
namespace Go.Proofs.Ytedjmpifkgonhaa
open Go.RowKit Hb Sm

def isFr (n d : Int) : Bool := isLg n && (isLg d && decide (d ≠ 0))
def okArgs (t n d : Int) : Bool := isAm t && isFr n d
def partV (t n d : Nat) : Int × Int := if t * n / d ≤ 1099511627776 then (((t * n / d : Nat) : Int), 0) else (0, 5)
def ceilQ (t n d : Nat) : Nat := t * n / d + (if 0 < t * n % d then 1 else 0)
def ceilV (t n d : Nat) : Int × Int := if ceilQ t n d ≤ 1099511627776 then ((ceilQ t n d : Int), 0) else (0, 5)
def partS (t n d : Int) : Int × Int := if okArgs t n d = true then partV t.toNat n.toNat d.toNat else (0, 1)
def ceilS (t n d : Int) : Int × Int := if okArgs t n d = true then ceilV t.toNat n.toNat d.toNat else (0, 1)
def pair (p : Int × Int) : Ending := .returned (.tuple #[.int .i64 p.1, .int .i64 p.2])
theorem isFr_t {n d : Int} (h : isFr n d = true) : (0 ≤ n ∧ n ≤ 1152921504606846976) ∧ 0 < d ∧ d ≤ 1152921504606846976 := by
  unfold isFr at h
  simp only [Bool.and_eq_true, decide_eq_true_eq] at h
  have h1 := isLg_t h.1
  have h2 := isLg_t h.2.1
  exact ⟨h1, by omega, h2.2⟩
theorem okArgs_t {t n d : Int} (h : okArgs t n d = true) : (0 ≤ t ∧ t ≤ 1099511627776) ∧ (0 ≤ n ∧ n ≤ 1152921504606846976) ∧ 0 < d ∧ d ≤ 1152921504606846976 := by
  unfold okArgs at h
  simp only [Bool.and_eq_true] at h
  exact ⟨isAm_t h.1, isFr_t h.2⟩
theorem okArgs_nat {t n d : Int} (h : okArgs t n d = true) : ∃ T N D : Nat, t = (T : Int) ∧ n = (N : Int) ∧ d = (D : Int) ∧ T ≤ 1099511627776 ∧ N ≤ 1152921504606846976 ∧ 0 < D ∧ D ≤ 1152921504606846976 := by
  have := okArgs_t h
  exact ⟨t.toNat, n.toNat, d.toNat, by omega, by omega, by omega, by omega, by omega, by omega, by omega⟩
theorem isFr_nat {n d : Int} (h : isFr n d = true) : ∃ N D : Nat, n = (N : Int) ∧ d = (D : Int) ∧ N ≤ 1152921504606846976 ∧ 0 < D ∧ D ≤ 1152921504606846976 := by
  have := isFr_t h
  exact ⟨n.toNat, d.toNat, by omega, by omega, by omega, by omega, by omega⟩

theorem samount (n : Int) (w : World) : Calls Try.prog 39 #[.int .i64 n] w fun e w' => e = .returned (.bool (isAm n)) ∧ w = w' := by
  unfold isAm
  by_cases h0 : 0 ≤ n
  · by_cases h1 : n ≤ 1099511627776
    · go_enter Try.func39, Try.ntmps39
      go_wp2
      go_ret
      exact ⟨ret_bool (decide_eq_true ⟨h0, h1⟩).symm, rfl⟩
    · go_enter Try.func39, Try.ntmps39
      go_wp2
      go_ret
      exact ⟨ret_bool (by simp; omega), rfl⟩
  · go_enter Try.func39, Try.ntmps39
    go_wp2
    go_ret
    exact ⟨ret_bool (by simp; omega), rfl⟩
theorem slarge (n : Int) (w : World) : Calls Try.prog 53 #[.int .i64 n] w fun e w' => e = .returned (.bool (isLg n)) ∧ w = w' := by
  unfold isLg
  by_cases h0 : 0 ≤ n
  · by_cases h1 : n ≤ 1152921504606846976
    · go_enter Try.func53, Try.ntmps53
      go_wp2
      go_ret
      exact ⟨ret_bool (decide_eq_true ⟨h0, h1⟩).symm, rfl⟩
    · go_enter Try.func53, Try.ntmps53
      go_wp2
      go_ret
      exact ⟨ret_bool (by simp; omega), rfl⟩
  · go_enter Try.func53, Try.ntmps53
    go_wp2
    go_ret
    exact ⟨ret_bool (by simp; omega), rfl⟩

theorem sfraction (n d : Int) (w : World) : Calls Try.prog 41 #[.int .i64 n, .int .i64 d] w fun e w' => e = .returned (.bool (isFr n d)) ∧ w = w' := by
  have c1 := slarge n w
  have c2 := slarge d w
  obtain ⟨f, hf⟩ : ∃ f, f = isFr n d := ⟨_, rfl⟩
  rw [← hf]
  unfold isFr at hf
  generalize isLg n = b1 at *
  generalize isLg d = b2 at *
  cases b1 with
  | false =>
    have HF := Lib.hid hf
    clear hf
    go_enter Try.func41, Try.ntmps41
    go_wp2_with fail
    refine c1.mono ?_
    rintro e W ⟨rfl, rfl⟩
    go_wp2_with fail
    go_ret
    exact ⟨ret_bool (by rw [HF.out]; rfl), rfl⟩
  | true =>
    cases b2 with
    | false =>
      have HF := Lib.hid hf
      clear hf
      go_enter Try.func41, Try.ntmps41
      go_wp2_with fail
      refine c1.mono ?_
      rintro e W ⟨rfl, rfl⟩
      go_wp2_with fail
      refine c2.mono ?_
      rintro e W ⟨rfl, rfl⟩
      go_wp2_with fail
      go_ret
      exact ⟨ret_bool (by rw [HF.out]; rfl), rfl⟩
    | true =>
      obtain ⟨b, hb⟩ : ∃ b, (d != 0) = b := ⟨_, rfl⟩
      have hb' : decide (d ≠ 0) = b := by rw [← hb]; by_cases h : d = 0 <;> simp [h]
      rw [hb'] at hf
      have HF := Lib.hid hf
      clear hf hb'
      cases b with
      | true =>
        go_enter Try.func41, Try.ntmps41
        go_wp2_with fail
        refine c1.mono ?_
        rintro e W ⟨rfl, rfl⟩
        go_wp2_with fail
        refine c2.mono ?_
        rintro e W ⟨rfl, rfl⟩
        go_wp2_with fail
        go_ret
        exact ⟨ret_bool (by rw [HF.out]; rfl), rfl⟩
      | false =>
        go_enter Try.func41, Try.ntmps41
        go_wp2_with fail
        refine c1.mono ?_
        rintro e W ⟨rfl, rfl⟩
        go_wp2_with fail
        refine c2.mono ?_
        rintro e W ⟨rfl, rfl⟩
        go_wp2_with fail
        go_ret
        exact ⟨ret_bool (by rw [HF.out]; rfl), rfl⟩
theorem sshare (t n d : Int) (w : World) : Calls Try.prog 32 #[.int .i64 t, .int .i64 n, .int .i64 d] w fun e w' => e = .returned (.bool (okArgs t n d)) ∧ w = w' := by
  have c1 := samount t w
  have c2 := sfraction n d w
  obtain ⟨f, hf⟩ : ∃ f, f = okArgs t n d := ⟨_, rfl⟩
  rw [← hf]
  unfold okArgs at hf
  generalize isAm t = b1 at *
  generalize isFr n d = b2 at *
  have HF := Lib.hid hf
  clear hf
  cases b1 with
  | false =>
    go_enter Try.func32, Try.ntmps32
    go_wp2_with fail
    refine c1.mono ?_
    rintro e W ⟨rfl, rfl⟩
    go_wp2_with fail
    go_ret
    exact ⟨ret_bool (by rw [HF.out]; rfl), rfl⟩
  | true =>
    go_enter Try.func32, Try.ntmps32
    go_wp2_with fail
    refine c1.mono ?_
    rintro e W ⟨rfl, rfl⟩
    go_wp2_with fail
    refine c2.mono ?_
    rintro e W ⟨rfl, rfl⟩
    go_wp2_with fail
    go_ret
    exact ⟨ret_bool (by rw [HF.out]; rfl), rfl⟩
theorem sinrange (n : Nat) (w : World) : Calls Try.prog 34 #[.int .i64 n] w fun e w' => e = pair (if n ≤ 1099511627776 then ((n : Int), 0) else (0, 5)) ∧ w = w' := by
  by_cases h : n ≤ 1099511627776
  · rw [if_pos h]
    go_enter Try.func34, Try.ntmps34
    go_wp2
    go_ret2
    exact ⟨rfl, rfl⟩
  · rw [if_neg h]
    go_enter Try.func34, Try.ntmps34
    go_wp2
    go_ret2
    exact ⟨rfl, rfl⟩
theorem smultiply (a b : Nat) (ha : a ≤ 1152921504606846976) (hb : b ≤ 1152921504606846976) (w : World) :
    Calls Try.prog 42 #[.int .i64 a, .int .i64 b] w fun e w' => (∃ h l : Nat, e = .returned (.tuple #[.int .u64 h, .int .u64 l]) ∧ h = a * b / 18446744073709551616 ∧ l = a * b % 18446744073709551616) ∧ w = w' := by
  go_enter Try.func42, Try.ntmps42
  go_wp2_with fail
  refine (mul64 a b (by omega) (by omega) w).mono ?_
  rintro e W ⟨⟨h, l, rfl, hh, hl⟩, rfl⟩
  have H := Lib.hid (And.intro hh hl)
  clear hh hl
  go_wp2_with fail
  go_ret2
  exact ⟨⟨h, l, rfl, H.out⟩, rfl⟩
/-- divide: the quotient, or tooMuch, and the remainder -/
theorem sdivide (t n d : Nat) (ht : t ≤ 1099511627776) (hn : n ≤ 1152921504606846976) (hd : 0 < d) (hd2 : d ≤ 1152921504606846976) (w : World) :
    Calls Try.prog 33 #[.int .i64 t, .int .i64 n, .int .i64 d] w fun e w' => (∃ q r : Nat, e = .returned (.tuple #[.int .i64 q, .int .i64 r]) ∧ q ≤ 1099511627777 ∧ r ≤ 1152921504606846976 ∧
      ((t * n / d ≤ 1099511627776 ∧ q = t * n / d ∧ r = t * n % d) ∨ (1099511627776 < t * n / d ∧ q = 1099511627777))) ∧ Quiet w w' := by
  go_enter Try.func33, Try.ntmps33
  go_wp2_with fail
  refine (smultiply t n (by omega) hn w).mono ?_
  rintro e W ⟨⟨h, l, rfl, hh, hl⟩, rfl⟩
  have hv : h * 18446744073709551616 + l = t * n := by omega
  have hl' : l < 18446744073709551616 := by omega
  have hhl : h < 18446744073709551616 := by
    have : t * n ≤ 1099511627776 * 1152921504606846976 := Nat.mul_le_mul ht hn
    omega
  clear hh hl
  by_cases hd' : d ≤ h
  · have HB := Lib.hid (show 1099511627776 < t * n / d from by
      have : 1099511627777 ≤ t * n / d := by
        rw [Nat.le_div_iff_mul_le hd, ← hv]
        omega
      omega)
    clear hv
    go_wp2_with fail
    go_ret2
    exact ⟨⟨1099511627777, 0, rfl, Nat.le_refl _, Nat.zero_le _, .inr ⟨HB.out, rfl⟩⟩, 0, rfl⟩
  · have c := div64 h l d (by omega) hd2 hl' w
    rw [hv] at c
    have HV := Lib.hid hv
    clear hv
    go_wp2_with fail
    refine c.mono ?_
    rintro e W ⟨⟨q, r, rfl, hq, hr⟩, hQ⟩
    have hrd : r < d := by rw [hr]; exact Nat.mod_lt _ hd
    have hq64 : q < 18446744073709551616 := by
      rw [hq, Nat.div_lt_iff_lt_mul hd, ← HV.out]
      have := Nat.mul_le_mul_left 18446744073709551616 (show h + 1 ≤ d by omega)
      omega
    have HH := Lib.hid (And.intro hq hr)
    have HQ := Lib.hid hQ
    clear hq hr hQ
    rcases Nat.lt_or_ge q 1099511627777 with hqm | hqm
    · have m1 : min (q : Int) 1099511627777 = (q : Int) := by omega
      go_wp2_with fail
      go_ret2
      exact ⟨⟨q, r, rfl, by omega, by omega, .inl ⟨by rw [← HH.out.1]; omega, HH.out.1, HH.out.2⟩⟩, HQ.out⟩
    · have m1 : min (q : Int) 1099511627777 = 1099511627777 := by omega
      go_wp2_with fail
      go_ret2
      exact ⟨⟨1099511627777, r, rfl, by omega, by omega, .inr ⟨by rw [← HH.out.1]; omega, rfl⟩⟩, HQ.out⟩

theorem spart (t n d : Int) (w : World) : Calls Try.prog 13 #[.int .i64 t, .int .i64 n, .int .i64 d] w fun e w' => e = pair (partS t n d) ∧ Quiet w w' := by
  have c1 := sshare t n d w
  obtain ⟨p, hp⟩ : ∃ p, p = partS t n d := ⟨_, rfl⟩
  rw [← hp]
  unfold partS at hp
  obtain ⟨b, hb⟩ : ∃ b, b = okArgs t n d := ⟨_, rfl⟩
  rw [← hb] at c1 hp
  cases b with
  | false =>
    have HP := Lib.hid hp
    clear hp hb
    go_enter Try.func13, Try.ntmps13
    go_wp2_with fail
    refine c1.mono ?_
    rintro e W ⟨rfl, rfl⟩
    go_wp2_with fail
    go_ret2
    exact ⟨by rw [HP.out]; rfl, 0, rfl⟩
  | true =>
    obtain ⟨T, N, D, rfl, rfl, rfl, hT, hN, hD, hD2⟩ := okArgs_nat hb.symm
    rw [if_pos rfl] at hp
    simp only [Int.toNat_natCast] at hp
    have HP := Lib.hid hp
    clear hp hb
    go_enter Try.func13, Try.ntmps13
    go_wp2_with fail
    refine c1.mono ?_
    rintro e W ⟨rfl, rfl⟩
    go_wp2_with fail
    refine (sdivide T N D hT hN hD hD2 w).mono ?_
    rintro e W ⟨⟨q, r, rfl, hq, hr, hqr⟩, hQ⟩
    have key : p = if q ≤ 1099511627776 then ((q : Int), 0) else (0, 5) := by
      rw [HP.out]
      unfold partV
      rcases hqr with ⟨h1, h2, h3⟩ | ⟨h1, h2⟩
      · rw [h2]
      · rw [if_neg (by omega), if_neg (by omega)]
    have KEY := Lib.hid key
    have HQ := Lib.hid hQ
    clear key hqr hQ
    go_wp2_with fail
    refine (sinrange q W).mono ?_
    rw [← KEY.out]
    rintro e W' ⟨rfl, rfl⟩
    unfold pair
    go_wp2_with fail
    go_ret2
    exact ⟨rfl, HQ.out⟩
theorem sceil (t n d : Int) (w : World) : Calls Try.prog 15 #[.int .i64 t, .int .i64 n, .int .i64 d] w fun e w' => e = pair (ceilS t n d) ∧ Quiet w w' := by
  have c1 := sshare t n d w
  obtain ⟨p, hp⟩ : ∃ p, p = ceilS t n d := ⟨_, rfl⟩
  rw [← hp]
  unfold ceilS at hp
  obtain ⟨b, hb⟩ : ∃ b, b = okArgs t n d := ⟨_, rfl⟩
  rw [← hb] at c1 hp
  cases b with
  | false =>
    have HP := Lib.hid hp
    clear hp hb
    go_enter Try.func15, Try.ntmps15
    go_wp2_with fail
    refine c1.mono ?_
    rintro e W ⟨rfl, rfl⟩
    go_wp2_with fail
    go_ret2
    exact ⟨by rw [HP.out]; rfl, 0, rfl⟩
  | true =>
    obtain ⟨T, N, D, rfl, rfl, rfl, hT, hN, hD, hD2⟩ := okArgs_nat hb.symm
    rw [if_pos rfl] at hp
    simp only [Int.toNat_natCast] at hp
    have HP := Lib.hid hp
    clear hp hb
    go_enter Try.func15, Try.ntmps15
    go_wp2_with fail
    refine c1.mono ?_
    rintro e W ⟨rfl, rfl⟩
    go_wp2_with fail
    refine (sdivide T N D hT hN hD hD2 w).mono ?_
    rintro e W ⟨⟨q, r, rfl, hq, hr, hqr⟩, hQ⟩
    rcases Nat.eq_zero_or_pos r with hr0 | hr0
    · subst hr0
      have key : p = if q ≤ 1099511627776 then ((q : Int), 0) else (0, 5) := by
        rw [HP.out]
        unfold ceilV ceilQ
        rcases hqr with ⟨h1, h2, h3⟩ | ⟨h1, h2⟩
        · rw [← h2, ← h3, if_neg (Nat.lt_irrefl 0), Nat.add_zero]
        · rw [if_neg (by omega), if_neg (by omega)]
      have KEY := Lib.hid key
      have HQ := Lib.hid hQ
      clear key hqr hQ
      have c := sinrange q W
      rw [← KEY.out] at c
      unfold pair at c
      go_wp2_with fail
      refine c.mono ?_
      rintro e W' ⟨rfl, rfl⟩
      go_wp2_with fail
      go_ret2
      exact ⟨rfl, HQ.out⟩
    · have key : p = if q + 1 ≤ 1099511627776 then (((q + 1 : Nat) : Int), 0) else (0, 5) := by
        rw [HP.out]
        unfold ceilV ceilQ
        rcases hqr with ⟨h1, h2, h3⟩ | ⟨h1, h2⟩
        · rw [← h2, ← h3, if_pos hr0]
        · rw [if_neg (by omega), if_neg (by omega)]
      have d1 : decide ((r : Int) > 0) = true := decide_eq_true (by omega)
      have KEY := Lib.hid key
      have HQ := Lib.hid hQ
      clear key hqr hQ
      have c := sinrange (q + 1) W
      rw [← KEY.out] at c
      unfold pair at c
      go_wp2_with fail
      refine c.mono ?_
      rintro e W' ⟨rfl, rfl⟩
      go_wp2_with fail
      go_ret2
      exact ⟨rfl, HQ.out⟩
end Go.Proofs.Ytedjmpifkgonhaa
