/- What the reference model of package share answers: Part, Ceil, Compare. -/
import Derived.Test.YtedjmpifkgonhaaSshare
namespace Go.Proofs.Ytedjmpifkgonhaa
open Go.RowKit Hb Sm
theorem Quiet.n {w w' : World} (h : Quiet w w') (k : Nat) : Quiet w (w'.drewN k) := by
  obtain ⟨n, rfl⟩ := h
  exact ⟨_, World.drewN_drewN ..⟩

theorem rpart (t n d : Int) (w : World) : Calls Try.prog 14 #[.int .i64 t, .int .i64 n, .int .i64 d] w fun e w' => e = pair (partS t n d) ∧ w = w' := by
  have c1 := ramount t w
  have c2 := rlarge n w
  have c3 := rlarge d w
  obtain ⟨p, hp⟩ : ∃ p, p = partS t n d := ⟨_, rfl⟩
  rw [← hp]
  unfold partS at hp
  by_cases hok : okArgs t n d = true
  · rw [if_pos hok] at hp
    have h1 := hok
    unfold okArgs isFr at h1
    simp only [Bool.and_eq_true, decide_eq_true_eq] at h1
    rw [h1.1] at c1
    rw [h1.2.1] at c2
    rw [h1.2.2.1] at c3
    obtain ⟨T, N, D, rfl, rfl, rfl, hT, hN, hD, hD2⟩ := okArgs_nat hok
    simp only [Int.toNat_natCast] at hp
    have HP := Lib.hid hp
    have hD0 : ((D : Int) == 0) = false := by simp; omega
    clear hp hok h1
    go_enter Try.func14, Try.ntmps14
    go_wp2_with fail
    refine c1.mono ?_
    rintro e W ⟨rfl, rfl⟩
    go_wp2_with fail
    refine c2.mono ?_
    rintro e W ⟨rfl, rfl⟩
    go_wp2_with fail
    refine c3.mono ?_
    rintro e W ⟨rfl, rfl⟩
    go_wp2_with fail
    refine (rdivide T N D (by omega) hN hD hD2 w).mono ?_
    rintro e W ⟨hc, rfl⟩
    rcases hc with ⟨hq, rfl⟩ | ⟨hq, rfl⟩
    · rcases Nat.lt_or_ge 1099511627776 (T * N / D) with hq2 | hq2
      · have KEY := Lib.hid (show p = (0, 5) from by rw [HP.out]; unfold partV; rw [if_neg (by omega)])
        obtain ⟨Q, hQ⟩ : ∃ Q, Q = T * N / D := ⟨_, rfl⟩
        obtain ⟨R, hR⟩ : ∃ R, R = T * N % D := ⟨_, rfl⟩
        rw [← hQ] at hq hq2
        simp only [← hQ, ← hR]
        have d1 : decide ((Q : Int) > 1099511627776) = true := decide_eq_true (by omega)
        clear hQ hR
        go_wp2_with fail
        go_ret2
        exact ⟨by rw [KEY.out]; rfl, rfl⟩
      · have KEY := Lib.hid (show p = (((T * N / D : Nat) : Int), 0) from by rw [HP.out]; unfold partV; rw [if_pos hq2])
        obtain ⟨Q, hQ⟩ : ∃ Q, Q = T * N / D := ⟨_, rfl⟩
        obtain ⟨R, hR⟩ : ∃ R, R = T * N % D := ⟨_, rfl⟩
        rw [← hQ] at hq hq2 KEY
        simp only [← hQ, ← hR]
        have d1 : decide ((Q : Int) > 1099511627776) = false := decide_eq_false (by omega)
        clear hQ hR
        go_wp2_with fail
        go_ret2
        exact ⟨by rw [KEY.out]; rfl, rfl⟩
    · have KEY := Lib.hid (show p = (0, 5) from by rw [HP.out]; unfold partV; rw [if_neg (by omega)])
      clear hq
      go_wp2_with fail
      go_ret2
      exact ⟨by rw [KEY.out]; rfl, rfl⟩
  · rw [if_neg hok] at hp
    have HP := Lib.hid hp
    unfold okArgs isFr at hok
    have hd : ∃ b, (d == 0) = b := ⟨_, rfl⟩
    obtain ⟨b, hb⟩ := hd
    have hb' : decide (d ≠ 0) = !b := by rw [← hb]; by_cases h : d = 0 <;> simp [h]
    rw [hb'] at hok
    generalize isAm t = b1 at *
    generalize isLg n = b2 at *
    generalize isLg d = b3 at *
    have HOK := Lib.hid hok
    clear hp hok hb'
    cases b1 <;> cases b2 <;> cases b3 <;> cases b <;> first
      | exact absurd rfl HOK.out
      | (go_enter Try.func14, Try.ntmps14
         go_wp2_with fail
         refine c1.mono ?_
         rintro e W ⟨rfl, rfl⟩
         go_wp2_with fail
         refine c2.mono ?_
         rintro e W ⟨rfl, rfl⟩
         go_wp2_with fail
         refine c3.mono ?_
         rintro e W ⟨rfl, rfl⟩
         go_wp2_with fail
         go_ret2
         exact ⟨by rw [HP.out]; rfl, rfl⟩)
theorem rceil (t n d : Int) (w : World) : Calls Try.prog 16 #[.int .i64 t, .int .i64 n, .int .i64 d] w fun e w' => e = pair (ceilS t n d) ∧ w = w' := by
  have c1 := rpart t n d w
  obtain ⟨p, hp⟩ : ∃ p, p = ceilS t n d := ⟨_, rfl⟩
  rw [← hp]
  unfold ceilS at hp
  unfold partS at c1
  by_cases hok : okArgs t n d = true
  · rw [if_pos hok] at hp c1
    obtain ⟨T, N, D, rfl, rfl, rfl, hT, hN, hD, hD2⟩ := okArgs_nat hok
    simp only [Int.toNat_natCast] at hp c1
    unfold partV at c1
    rcases Nat.lt_or_ge 1099511627776 (T * N / D) with hq2 | hq2
    · rw [if_neg (by omega)] at c1
      have KEY := Lib.hid (show p = (0, 5) from by rw [hp]; unfold ceilV ceilQ; rw [if_neg (by omega)])
      unfold pair at c1
      clear hp hok hq2
      go_enter Try.func16, Try.ntmps16
      go_wp2_with fail
      refine c1.mono ?_
      rintro e W ⟨rfl, rfl⟩
      go_wp2_with fail
      go_ret2
      exact ⟨by rw [KEY.out]; rfl, rfl⟩
    · rw [if_pos hq2] at c1
      have HP := Lib.hid hp
      have c2 := rdivide T N D (by omega) hN hD hD2 w
      obtain ⟨Q, hQ⟩ : ∃ Q, Q = T * N / D := ⟨_, rfl⟩
      obtain ⟨R, hR⟩ : ∃ R, R = T * N % D := ⟨_, rfl⟩
      rw [← hQ] at c1 hq2
      simp only [← hQ, ← hR] at c2
      rcases Nat.eq_zero_or_pos R with hr0 | hr0
      · have KEY := Lib.hid (show p = ((Q : Int), 0) from by rw [HP.out]; unfold ceilV ceilQ; have e0 : (if 0 < R then 1 else 0) = 0 := if_neg (by omega); rw [← hQ, ← hR, e0, Nat.add_zero, if_pos hq2])
        subst hr0
        unfold pair at c1
        clear hp hok hQ hR
        go_enter Try.func16, Try.ntmps16
        go_wp2_with fail
        refine c1.mono ?_
        rintro e W ⟨rfl, rfl⟩
        go_wp2_with fail
        refine c2.mono ?_
        rintro e W ⟨hc, rfl⟩
        rcases hc with ⟨-, rfl⟩ | ⟨h, rfl⟩
        · go_wp2_with fail
          go_ret2
          exact ⟨by rw [KEY.out]; rfl, rfl⟩
        · exact absurd hq2 (by omega)
      · have hp2 : p = if Q + 1 ≤ 1099511627776 then (((Q + 1 : Nat) : Int), 0) else (0, 5) := by rw [HP.out]; unfold ceilV ceilQ; rw [← hQ, ← hR, if_pos hr0]
        have d1 : decide ((R : Int) > 0) = true := decide_eq_true (by omega)
        unfold pair at c1
        obtain ⟨Z, hZ⟩ : ∃ Z, Z = Q + 1 := ⟨_, rfl⟩
        have hZ' : (Q : Int) + 1 = (Z : Int) := by omega
        rw [← hZ] at hp2
        clear hp hok hQ hR
        rcases Nat.lt_or_ge 1099511627776 Z with hz | hz
        · rw [if_neg (by omega)] at hp2
          have KEY := Lib.hid hp2
          have d2 : decide ((Z : Int) > 1099511627776) = true := decide_eq_true (by omega)
          clear hp2 hZ
          go_enter Try.func16, Try.ntmps16
          go_wp2_with fail
          refine c1.mono ?_
          rintro e W ⟨rfl, rfl⟩
          go_wp2_with fail
          refine c2.mono ?_
          rintro e W ⟨hc, rfl⟩
          rcases hc with ⟨-, rfl⟩ | ⟨h, rfl⟩
          · go_wp2_with fail
            go_ret2
            exact ⟨by rw [KEY.out]; rfl, rfl⟩
          · exact absurd hq2 (by omega)
        · rw [if_pos hz] at hp2
          have KEY := Lib.hid hp2
          have d2 : decide ((Z : Int) > 1099511627776) = false := decide_eq_false (by omega)
          clear hp2 hZ
          go_enter Try.func16, Try.ntmps16
          go_wp2_with fail
          refine c1.mono ?_
          rintro e W ⟨rfl, rfl⟩
          go_wp2_with fail
          refine c2.mono ?_
          rintro e W ⟨hc, rfl⟩
          rcases hc with ⟨-, rfl⟩ | ⟨h, rfl⟩
          · go_wp2_with fail
            go_ret2
            exact ⟨by rw [KEY.out]; rfl, rfl⟩
          · exact absurd hq2 (by omega)
  · rw [if_neg hok] at hp c1
    have HP := Lib.hid hp
    unfold pair at c1
    clear hp hok
    go_enter Try.func16, Try.ntmps16
    go_wp2_with fail
    refine c1.mono ?_
    rintro e W ⟨rfl, rfl⟩
    go_wp2_with fail
    go_ret2
    exact ⟨by rw [HP.out]; rfl, rfl⟩

def okComp (a b c d : Int) : Bool := isFr a b && isFr c d
def compS (a b c d : Int) : Int × Int := if okComp a b c d = true then (cmp4 a.toNat b.toNat c.toNat d.toNat, 0) else (0, 1)
set_option maxHeartbeats 2000000 in
theorem rcompare (a b c d : Int) (w : World) : Calls Try.prog 25 #[.int .i64 a, .int .i64 b, .int .i64 c, .int .i64 d] w fun e w' => e = pair (compS a b c d) ∧ Quiet w w' := by
  have c1 := rlarge a w
  have c2 := rlarge b w
  have c3 := rlarge c w
  have c4 := rlarge d w
  obtain ⟨p, hp⟩ : ∃ p, p = compS a b c d := ⟨_, rfl⟩
  rw [← hp]
  unfold compS at hp
  by_cases hok : okComp a b c d = true
  · rw [if_pos hok] at hp
    have h1 := hok
    unfold okComp isFr at h1
    simp only [Bool.and_eq_true, decide_eq_true_eq] at h1
    rw [h1.1.1] at c1
    rw [h1.1.2.1] at c2
    rw [h1.2.1] at c3
    rw [h1.2.2.1] at c4
    have hok' : isFr a b = true ∧ isFr c d = true := by simpa [okComp] using hok
    obtain ⟨A, B, rfl, rfl, hA, hB, hB2⟩ := isFr_nat hok'.1
    obtain ⟨C, D, rfl, rfl, hC, hD, hD2⟩ := isFr_nat hok'.2
    simp only [Int.toNat_natCast] at hp
    have HP := Lib.hid hp
    have hB0 : ((B : Int) == 0) = false := by simp; omega
    have hD0 : ((D : Int) == 0) = false := by simp; omega
    clear hp hok h1 hok'
    go_enter Try.func25, Try.ntmps25
    go_wp2_with fail
    refine c1.mono ?_
    rintro e W ⟨rfl, rfl⟩
    go_wp2_with fail
    refine c2.mono ?_
    rintro e W ⟨rfl, rfl⟩
    go_wp2_with fail
    refine c3.mono ?_
    rintro e W ⟨rfl, rfl⟩
    go_wp2_with fail
    refine c4.mono ?_
    rintro e W ⟨rfl, rfl⟩
    go_wp2_with fail
    clear c1 c2 c3 c4 hB0 hD0
    go_loopw [0, 1, 2, 3, 14] (fun av bv cv dv sv wx => ∃ (a b c d : Nat) (s : Int), av = .int .i64 a ∧ bv = .int .i64 b ∧ cv = .int .i64 c ∧ dv = .int .i64 d ∧ sv = .int .i64 s ∧ (a ≤ 1152921504606846976 ∧ 0 < b ∧ b ≤ 1152921504606846976 ∧ c ≤ 1152921504606846976 ∧ 0 < d ∧ d ≤ 1152921504606846976) ∧ -1 ≤ s ∧ s ≤ 1 ∧ Hid (s * cmp4 a b c d = cmp4 A B C D) ∧ Quiet w wx) (fun _ bv _ _ _ _ => (intOf bv).toNat)
    case atStart => exact ⟨A, B, C, D, 1, rfl, rfl, rfl, rfl, rfl, ⟨hA, hB, hB2, hC, hD, hD2⟩, by omega, by omega, Int.one_mul _, 0, rfl⟩
    case round =>
      clear hA hB hB2 hC hD hD2
      obtain ⟨a, b, c, d, s, rfl, rfl, rfl, rfl, rfl, ⟨ha, hb, hb2, hc, hd, hd2⟩, hs1, hs2, HS, hq0⟩ := hrel
      have HQ0 := Lib.hid hq0
      clear hq0
      obtain ⟨u, hu⟩ : ∃ u, u = a / b := ⟨_, rfl⟩
      obtain ⟨v, hv⟩ : ∃ v, v = c / d := ⟨_, rfl⟩
      have f1 : (a : Int) / (b : Int) = (u : Int) := by rw [hu]; exact (Int.natCast_ediv _ _).symm
      have f2 : (c : Int) / (d : Int) = (v : Int) := by rw [hv]; exact (Int.natCast_ediv _ _).symm
      have g1 : (a : Int).tdiv (b : Int) = (u : Int) := by rw [Int.tdiv_eq_ediv_of_nonneg (by omega), f1]
      have g2 : (c : Int).tdiv (d : Int) = (v : Int) := by rw [Int.tdiv_eq_ediv_of_nonneg (by omega), f2]
      have hu2 : u ≤ 1152921504606846976 := by rw [hu]; exact Nat.le_trans (Nat.div_le_self _ _) ha
      have hv2 : v ≤ 1152921504606846976 := by rw [hv]; exact Nat.le_trans (Nat.div_le_self _ _) hc
      have wu : IntKind.i64.wrap (u : Int) = (u : Int) := by rw [IntKind.wrap_i64]; omega
      have wv : IntKind.i64.wrap (v : Int) = (v : Int) := by rw [IntKind.wrap_i64]; omega
      have HU := Lib.hid hu
      have HV := Lib.hid hv
      clear hu hv
      rcases Nat.lt_trichotomy u v with h | h | h
      · have n1 : ((u : Int) != (v : Int)) = true := by simp; omega
        have n2 : decide ((u : Int) > (v : Int)) = false := decide_eq_false (by omega)
        have KEY := Lib.hid (show p = (-s, 0) from by
          rw [HP.out, ← HS.out, cmp4_whole_lt hb hd (by rw [← HU.out, ← HV.out]; exact h)]
          congr 1
          omega)
        go_wp2_with fail
        go_quiet (fail)
        go_wp2_with fail
        go_quiet (fail)
        go_wp2_with fail
        go_ret2
        exact ⟨by rw [KEY.out]; rfl, by first | exact HQ0.out.n _ | exact (HQ0.out.n _).n _⟩
      · have n1 : ((u : Int) != (v : Int)) = false := by simp; omega
        have HC := Lib.hid (cmp4_rest (a := a) (b := b) (c := c) (d := d) (by rw [← HU.out, ← HV.out]; exact h))
        obtain ⟨x, hx⟩ : ∃ x, x = a % b := ⟨_, rfl⟩
        obtain ⟨y, hy⟩ : ∃ y, y = c % d := ⟨_, rfl⟩
        have f3 : (a : Int) % (b : Int) = (x : Int) := by rw [hx]; exact (Int.natCast_emod _ _).symm
        have f4 : (c : Int) % (d : Int) = (y : Int) := by rw [hy]; exact (Int.natCast_emod _ _).symm
        have hxb : x < b := by rw [hx]; exact Nat.mod_lt _ hb
        have hyd : y < d := by rw [hy]; exact Nat.mod_lt _ hd
        rw [← hx, ← hy] at HC
        clear hx hy h f1 f2
        rcases Nat.eq_zero_or_pos x with hx0 | hx0
        · rcases Nat.eq_zero_or_pos y with hy0 | hy0
          · have KEY := Lib.hid (show p = (0, 0) from by
              rw [HP.out, ← HS.out, HC.out, hx0, hy0, cmp4_00, Int.mul_zero])
            have z1 : ((x : Int) == 0) = true := by simp; omega
            have z2 : ((y : Int) == 0) = true := by simp; omega
            go_wp2_with fail
            go_quiet (fail)
            go_wp2_with fail
            go_ret2
            exact ⟨by rw [KEY.out]; rfl, HQ0.out.n _⟩
          · have KEY := Lib.hid (show p = (-s, 0) from by
              rw [HP.out, ← HS.out, HC.out, hx0, cmp4_0p hb hy0]
              congr 1
              omega)
            have z1 : ((x : Int) == 0) = true := by simp; omega
            have z2 : ((y : Int) == 0) = false := by simp; omega
            go_wp2_with fail
            go_quiet (fail)
            go_wp2_with fail
            go_ret2
            exact ⟨by rw [KEY.out]; rfl, HQ0.out.n _⟩
        · have z1 : ((x : Int) == 0) = false := by simp; omega
          rcases Nat.eq_zero_or_pos y with hy0 | hy0
          · have KEY := Lib.hid (show p = (s, 0) from by
              rw [HP.out, ← HS.out, HC.out, hy0, cmp4_p0 hx0 hd]
              congr 1
              omega)
            have z2 : ((y : Int) == 0) = true := by simp; omega
            go_wp2_with fail
            go_quiet (fail)
            go_wp2_with fail
            go_ret2
            exact ⟨by rw [KEY.out]; rfl, HQ0.out.n _⟩
          · have z2 : ((y : Int) == 0) = false := by simp; omega
            have KEY := Lib.hid (show -s * cmp4 b x d y = cmp4 A B C D from by
              rw [← HS.out, HC.out, cmp4_flip (a := x) (b := b) (c := y) (d := d), Int.mul_neg, Int.neg_mul])
            go_wp2_with fail
            go_quiet (fail)
            go_wp2_with fail
            go_roundw
            case rel => exact ⟨b, x, d, y, -s, rfl, by first | rfl | rw [f3], rfl, by first | rfl | rw [f4], by go_num, ⟨hb2, hx0, by omega, hd2, hy0, by omega⟩, by omega, by omega, KEY, HQ0.out.n _⟩
            case measure => simp [intOf]; omega
      · have n1 : ((u : Int) != (v : Int)) = true := by simp; omega
        have n2 : decide ((u : Int) > (v : Int)) = true := decide_eq_true (by omega)
        have KEY := Lib.hid (show p = (s, 0) from by
          rw [HP.out, ← HS.out, cmp4_whole_gt hb hd (by rw [← HU.out, ← HV.out]; exact h)]
          congr 1
          omega)
        go_wp2_with fail
        go_quiet (fail)
        go_wp2_with fail
        go_quiet (fail)
        go_wp2_with fail
        go_ret2
        exact ⟨by rw [KEY.out]; rfl, by first | exact HQ0.out.n _ | exact (HQ0.out.n _).n _⟩
  · rw [if_neg hok] at hp
    have HP := Lib.hid hp
    unfold okComp isFr at hok
    obtain ⟨b5, hb5⟩ : ∃ x, (b == 0) = x := ⟨_, rfl⟩
    obtain ⟨b6, hb6⟩ : ∃ x, (d == 0) = x := ⟨_, rfl⟩
    have e5 : decide (b ≠ 0) = !b5 := by rw [← hb5]; by_cases h : b = 0 <;> simp [h]
    have e6 : decide (d ≠ 0) = !b6 := by rw [← hb6]; by_cases h : d = 0 <;> simp [h]
    rw [e5, e6] at hok
    generalize isLg a = b1 at *
    generalize isLg b = b2 at *
    generalize isLg c = b3 at *
    generalize isLg d = b4 at *
    have HOK := Lib.hid hok
    clear hp hok e5 e6
    cases b1 <;> cases b2 <;> cases b3 <;> cases b4 <;> cases b5 <;> cases b6 <;> first
      | exact absurd rfl HOK.out
      | (go_enter Try.func25, Try.ntmps25
         go_wp2_with fail
         refine c1.mono ?_
         rintro e W ⟨rfl, rfl⟩
         go_wp2_with fail
         refine c2.mono ?_
         rintro e W ⟨rfl, rfl⟩
         go_wp2_with fail
         refine c3.mono ?_
         rintro e W ⟨rfl, rfl⟩
         go_wp2_with fail
         refine c4.mono ?_
         rintro e W ⟨rfl, rfl⟩
         go_wp2_with fail
         go_ret2
         exact ⟨by rw [HP.out]; rfl, 0, rfl⟩)

end Go.Proofs.Ytedjmpifkgonhaa
