/- cmp.Compare, cmp.Or; share.Compare. -/
import Derived.Test.YtedjmpifkgonhaaSref2
import Derived.Sort.Grow
namespace Go.Proofs.Ytedjmpifkgonhaa
open Go.RowKit Hb Sm

def cmpI (a b : Int) : Int := if a < b then -1 else if b < a then 1 else 0
theorem cmpI_range (a b : Int) : cmpI a b = -1 ∨ cmpI a b = 0 ∨ cmpI a b = 1 := by
  unfold cmpI; split
  · exact .inl rfl
  · split
    · exact .inr (.inr rfl)
    · exact .inr (.inl rfl)
def orI (a b : Int) : Int := if a = 0 then b else a
theorem orI_range {a b : Int} (ha : a = -1 ∨ a = 0 ∨ a = 1) (hb : b = -1 ∨ b = 0 ∨ b = 1) : -1 ≤ orI a b ∧ orI a b ≤ 1 := by
  unfold orI; split <;> omega

theorem nan_i64 (x : Int) (w : World) : Calls Try.prog 66 #[.int .i64 x] w fun e w' => e = .returned (.bool false) ∧ w = w' := by
  have h : (x != x) = false := by simp
  go_enter Try.func66, Try.ntmps66
  go_wp2
  go_ret
  exact ⟨rfl, rfl⟩
theorem cmp_i64 (x y : Int) (w : World) : Calls Try.prog 56 #[.int .i64 x, .int .i64 y] w fun e w' => e = .returned (.int .i64 (cmpI x y)) ∧ w = w' := by
  have c1 := nan_i64 x w
  have c2 := nan_i64 y w
  obtain ⟨r, hr⟩ : ∃ r, r = cmpI x y := ⟨_, rfl⟩
  rw [← hr]
  unfold cmpI at hr
  by_cases h : x < y
  · rw [if_pos h] at hr
    have d1 : decide (x < y) = true := decide_eq_true h
    subst hr
    go_enter Try.func56, Try.ntmps56
    go_wp2_with fail
    refine c1.mono ?_
    rintro e W ⟨rfl, rfl⟩
    go_wp2_with fail
    refine c2.mono ?_
    rintro e W ⟨rfl, rfl⟩
    go_wp2_with fail
    go_ret
    exact ⟨rfl, rfl⟩
  · rw [if_neg h] at hr
    have d1 : decide (x < y) = false := decide_eq_false h
    by_cases h2 : y < x
    · rw [if_pos h2] at hr
      have d2 : decide (x > y) = true := decide_eq_true h2
      subst hr
      go_enter Try.func56, Try.ntmps56
      go_wp2_with fail
      refine c1.mono ?_
      rintro e W ⟨rfl, rfl⟩
      go_wp2_with fail
      refine c2.mono ?_
      rintro e W ⟨rfl, rfl⟩
      go_wp2_with fail
      go_ret
      exact ⟨rfl, rfl⟩
    · rw [if_neg h2] at hr
      have d2 : decide (x > y) = false := decide_eq_false h2
      subst hr
      go_enter Try.func56, Try.ntmps56
      go_wp2_with fail
      refine c1.mono ?_
      rintro e W ⟨rfl, rfl⟩
      go_wp2_with fail
      refine c2.mono ?_
      rintro e W ⟨rfl, rfl⟩
      go_wp2_with fail
      go_ret
      exact ⟨rfl, rfl⟩
theorem nan_u64 (x : Int) (w : World) : Calls Try.prog 58 #[.int .u64 x] w fun e w' => e = .returned (.bool false) ∧ w = w' := by
  have h : (x != x) = false := by simp
  go_enter Try.func58, Try.ntmps58
  go_wp2
  go_ret
  exact ⟨rfl, rfl⟩
theorem cmp_u64 (x y : Int) (w : World) : Calls Try.prog 44 #[.int .u64 x, .int .u64 y] w fun e w' => e = .returned (.int .i64 (cmpI x y)) ∧ w = w' := by
  have c1 := nan_u64 x w
  have c2 := nan_u64 y w
  obtain ⟨r, hr⟩ : ∃ r, r = cmpI x y := ⟨_, rfl⟩
  rw [← hr]
  unfold cmpI at hr
  by_cases h : x < y
  · rw [if_pos h] at hr
    have d1 : decide (x < y) = true := decide_eq_true h
    subst hr
    go_enter Try.func44, Try.ntmps44
    go_wp2_with fail
    refine c1.mono ?_
    rintro e W ⟨rfl, rfl⟩
    go_wp2_with fail
    refine c2.mono ?_
    rintro e W ⟨rfl, rfl⟩
    go_wp2_with fail
    go_ret
    exact ⟨rfl, rfl⟩
  · rw [if_neg h] at hr
    have d1 : decide (x < y) = false := decide_eq_false h
    by_cases h2 : y < x
    · rw [if_pos h2] at hr
      have d2 : decide (x > y) = true := decide_eq_true h2
      subst hr
      go_enter Try.func44, Try.ntmps44
      go_wp2_with fail
      refine c1.mono ?_
      rintro e W ⟨rfl, rfl⟩
      go_wp2_with fail
      refine c2.mono ?_
      rintro e W ⟨rfl, rfl⟩
      go_wp2_with fail
      go_ret
      exact ⟨rfl, rfl⟩
    · rw [if_neg h2] at hr
      have d2 : decide (x > y) = false := decide_eq_false h2
      subst hr
      go_enter Try.func44, Try.ntmps44
      go_wp2_with fail
      refine c1.mono ?_
      rintro e W ⟨rfl, rfl⟩
      go_wp2_with fail
      refine c2.mono ?_
      rintro e W ⟨rfl, rfl⟩
      go_wp2_with fail
      go_ret
      exact ⟨rfl, rfl⟩

/-- cmp.Or of two: the first that is not 0 -/
theorem or_any (b : Nat) (x y : Int) (w : World) (h0 : w.cell? ⟨b, 0, none⟩ = some (.int .i64 x)) (h1 : w.cell? ⟨b, 1, none⟩ = some (.int .i64 y)) :
    Calls Try.prog 43 #[.slice (some ⟨b, 0, none⟩) 2 2] w fun e w' => e = .returned (.int .i64 (orI x y)) ∧ w = w' := by
  obtain ⟨r, hr⟩ : ∃ r, r = orI x y := ⟨_, rfl⟩
  rw [← hr]
  unfold orI at hr
  by_cases hx : x = 0
  · subst hx
    rw [if_pos rfl] at hr
    subst hr
    by_cases hy : r = 0
    · subst hy
      go_enter Try.func43, Try.ntmps43
      go_wp2
      refine wp_loop_rounds 3 ?_
      rw [rounds_succ]
      go_wp2
      rw [rounds_succ]
      go_wp2
      rw [rounds_succ]
      go_wp2
      go_ret
      exact ⟨rfl, rfl⟩
    · have d1 : (r != 0) = true := by simpa using hy
      go_enter Try.func43, Try.ntmps43
      go_wp2
      refine wp_loop_rounds 3 ?_
      rw [rounds_succ]
      go_wp2
      rw [rounds_succ]
      go_wp2
      go_ret
      exact ⟨rfl, rfl⟩
  · rw [if_neg hx] at hr
    subst hr
    have d1 : (r != 0) = true := by simpa using hx
    go_enter Try.func43, Try.ntmps43
    go_wp2
    refine wp_loop_rounds 3 ?_
    rw [rounds_succ]
    go_wp2
    go_ret
    exact ⟨rfl, rfl⟩

theorem comp_key (A B C D h l h' l' : Nat) (hh : h = A * D / 18446744073709551616) (hl : l = A * D % 18446744073709551616) (hh' : h' = C * B / 18446744073709551616) (hl' : l' = C * B % 18446744073709551616) :
    (cmp4 A B C D, (0 : Int)) = (orI (cmpI h h') (cmpI l l'), 0) := by
  rw [cmp4_halves A B C D 18446744073709551616 (by decide), ← hh, ← hl, ← hh', ← hl']
  congr 1
  unfold orI cmpI
  simp only [Int.ofNat_lt]
  by_cases k1 : h < h'
  · simp [k1]
  · by_cases k2 : h' < h
    · simp [k1, k2]
    · simp [k1, k2]
set_option maxHeartbeats 1000000 in
theorem scompare (a b c d : Int) (w : World) : Calls Try.prog 24 #[.int .i64 a, .int .i64 b, .int .i64 c, .int .i64 d] w fun e w' => e = pair (compS a b c d) ∧ ∃ os, w' = Go.Sort.grow w os := by
  have c1 := sfraction a b w
  have c2 := sfraction c d w
  obtain ⟨p, hp⟩ : ∃ p, p = compS a b c d := ⟨_, rfl⟩
  rw [← hp]
  unfold compS at hp
  by_cases hok : okComp a b c d = true
  · rw [if_pos hok] at hp
    have hok' : isFr a b = true ∧ isFr c d = true := by simpa [okComp] using hok
    rw [hok'.1] at c1
    rw [hok'.2] at c2
    obtain ⟨A, B, rfl, rfl, hA, hB, hB2⟩ := isFr_nat hok'.1
    obtain ⟨C, D, rfl, rfl, hC, hD, hD2⟩ := isFr_nat hok'.2
    simp only [Int.toNat_natCast] at hp
    have HP := Lib.hid hp
    clear hp hok hok'
    go_enter Try.func24, Try.ntmps24
    go_wp2_with fail
    refine c1.mono ?_
    rintro e W ⟨rfl, rfl⟩
    go_wp2_with fail
    refine c2.mono ?_
    rintro e W ⟨rfl, rfl⟩
    go_wp2_with fail
    refine (smultiply A D hA hD2 w).mono ?_
    rintro e W ⟨⟨h, l, rfl, hh, hl⟩, rfl⟩
    have HH := Lib.hid (And.intro hh hl)
    clear hh hl
    go_wp2_with fail
    refine (smultiply C B hC hB2 w).mono ?_
    rintro e W ⟨⟨h', l', rfl, hh', hl'⟩, rfl⟩
    have KEY := Lib.hid (HP.out.trans (comp_key A B C D h l h' l' HH.out.1 HH.out.2 hh' hl'))
    clear hh' hl'
    go_wp2_with fail
    refine (cmp_u64 h h' w).mono ?_
    rintro e W ⟨rfl, rfl⟩
    go_wp2_with fail
    refine (cmp_u64 l l' w).mono ?_
    rintro e W ⟨rfl, rfl⟩
    obtain ⟨x, hx⟩ : ∃ x, x = cmpI h h' := ⟨_, rfl⟩
    obtain ⟨y, hy⟩ : ∃ y, y = cmpI l l' := ⟨_, rfl⟩
    rw [← hx, ← hy] at KEY
    simp only [← hx, ← hy]
    clear c1 c2 hx hy
    go_wp2_with fail
    refine (or_any w.heap.size x y _ (by simp) (by simp)).mono ?_
    rintro e W ⟨rfl, rfl⟩
    go_wp2_with fail
    go_ret2
    exact ⟨by rw [KEY.out]; rfl, #[_], Go.Sort.alloc_eq_grow _ _⟩
  · rw [if_neg hok] at hp
    have HP := Lib.hid hp
    unfold okComp at hok
    generalize isFr a b = b1 at *
    generalize isFr c d = b2 at *
    have HOK := Lib.hid hok
    clear hp hok
    cases b1 <;> cases b2 <;> first
      | exact absurd rfl HOK.out
      | (go_enter Try.func24, Try.ntmps24
         go_wp2_with fail
         refine c1.mono ?_
         rintro e W ⟨rfl, rfl⟩
         go_wp2_with fail
         refine c2.mono ?_
         rintro e W ⟨rfl, rfl⟩
         go_wp2_with fail
         go_ret2
         exact ⟨by rw [HP.out]; rfl, #[], (Go.Sort.grow_empty _).symm⟩)
      | (go_enter Try.func24, Try.ntmps24
         go_wp2_with fail
         refine c1.mono ?_
         rintro e W ⟨rfl, rfl⟩
         go_wp2_with fail
         go_ret2
         exact ⟨by rw [HP.out]; rfl, #[], (Go.Sort.grow_empty _).symm⟩)
end Go.Proofs.Ytedjmpifkgonhaa
