/- The law WideFrom, walked. -/
import Derived.Test.YtmpdoikdadjneaaDoorCL
import Derived.Test.YtmpdoikdadjneaaDoorCUnum
import Derived.Test.YtmpdoikdadjneaaDoorCUnear
import Derived.Test.YtmpdoikdadjneaaDoorCUsmall
import Derived.Test.YtmpdoikdadjneaaDoorCUelem
namespace Go.Proofs.YtmpdoikdadjneaaDoor
open Go.RowKit Go.Shelf Hb Vm Ds Vr

theorem wf_range {m : Int} (h : (Lit.int .i64 m).wf = true) : -9223372036854775808 ≤ m ∧ m ≤ 9223372036854775807 := bounds_i64 h
theorem fits_of {m : Int} (h : -9223372036854775808 ≤ m ∧ m ≤ 9223372036854775807) : Fits m := ⟨h.1, by omega⟩
theorem near_63 (r1 r2 : Nat) (z : Int) (h1 : r1 < 7) (h : Sm z (nearE (aroundI (4 * (r1 : Int) + 3 + 28 * (r2 : Int)) 28).toNat + 2)) : Sm z 820 := by
  have e : (aroundI (4 * (r1 : Int) + 3 + 28 * (r2 : Int)) 28).toNat = 4 * r1 + 3 := by
    unfold aroundI
    rw [if_neg (by omega)]
    omega
  rw [e] at h
  have e2 : nearE (4 * r1 + 3) = 63 := by
    unfold nearE
    rw [if_neg (by omega), if_neg (by omega), if_neg (by omega)]
  rw [e2] at h
  exact h.mono (by decide)

set_option maxRecDepth 100000 in
set_option maxHeartbeats 16000000 in
theorem WideFrom_walk (w : World) (m : Int) (wm : (Lit.int .i64 m).wf = true) (a0 : Option Addr) (n c : Nat) (xs : List Int) (r : Rd w w.heap.size a0 n (xs.map iv)) (bd : ∀ y ∈ xs, -9223372036854775808 ≤ y ∧ y ≤ 9223372036854775807) (hnc : n ≤ c) (hc : c ≤ maxLen) (k : Int) (wk : (Lit.int .i64 k).wf = true) :
    Calls Tryd.prog 4 #[.int .i64 m, .slice a0 n c, .int .i64 k] w fun e W' => e = .returned (.bool true) ∧ Below w.heap.size w W' := by
  have low : Below w.heap.size w w := Below.refl _ _
  have hn : n ≤ maxLen := by omega
  have BD := Lib.hid bd
  have HM := Lib.hid (wf_range wm)
  have HK' := Lib.hid (wf_range wk)
  clear bd wm wk
  go_enter Tryd.func4, Tryd.ntmps4
  go_wp2_with fail
  refine (from_any m HM.out.1 (Int.lt_add_one_of_le HM.out.2) w).mono ?_
  rintro e V1 ⟨⟨u_x, rfl, h_x⟩, hB⟩
  replace low := low.trans (hB.mono low.size)
  clear hB
  obtain ⟨s_x, A_x, n_x, c_x, rfl⟩ := h_x.form
  have x_x := WB.new h_x
  replace h_x := h_x.later (alloc_low (V1) (.cells #[.bool s_x, .slice A_x n_x c_x] 33)) (alloc_low (V1) (.cells #[.bool s_x, .slice A_x n_x c_x] 33)).size
  replace low := low.trans ((alloc_low (V1) (.cells #[.bool s_x, .slice A_x n_x c_x] 33)).mono low.size)
  go_wp2_with fail
  clear h_x
  obtain ⟨V2, hV⟩ : ∃ V2, V2 = (V1).alloc (.cells #[.bool s_x, .slice A_x n_x c_x] 33) := ⟨_, rfl⟩
  rw [← hV] at x_x low ⊢
  clear hV
  obtain ⟨p2, hp⟩ : ∃ p2, p2 = V1.heap.size := ⟨_, rfl⟩
  rw [← hp] at x_x ⊢
  clear hp
  refine (small_any m _ V2 x_x.2).mono ?_
  rintro e V3 ⟨rfl, hB⟩
  replace x_x := x_x.later hB
  replace low := low.trans (hB.mono low.size)
  clear hB
  unfold smallE
  rw [if_pos (fits_of HM.out), decide_eq_true (fits_of HM.out)]
  have HIm := Lib.hid (inR_sm (z := m) ((sm_small (k := 64) (b := 18446744073709551616) rfl (by have := HM.out; omega)).mono (by decide)))
  go_wp2_with fail
  have hk : ∀ V, Below V3.heap.size V3 V → V.cell? ⟨p2, 0, none⟩ = some (.bool s_x) ∧ V.cell? ⟨p2, 1, none⟩ = some (.slice A_x n_x c_x) ∧ Below V3.heap.size V3 V := fun V hV => ⟨(x_x.later hV).cells.1, (x_x.later hV).cells.2.1, hV⟩
  have HK := Lib.hid hk
  clear hk
  have hst : Below V3.heap.size V3 V3.drew := (Below.refl _ _).drew
  have hc1 : ∀ V, Below V3.heap.size V3 V → Calls Tryd.prog 23 #[.int .i64 m] V fun e W' => (∃ u, e = .returned u ∧ Ni W' W'.heap.size u m) ∧ Below V3.heap.size V3 W' := fun V hV => (of_any m HM.out V).mono fun _ _ ⟨he, h⟩ => ⟨he, hV.trans (h.mono hV.size)⟩
  have HC1 := Lib.hid hc1
  clear hc1
  have hc2 : ∀ V, Below V3.heap.size V3 V → ∀ v, Ni V V.heap.size v m → Calls Tryd.prog 18 #[.agg #[.bool s_x, .slice A_x n_x c_x], v] V fun e W' => (e = .returned (.bool true)) ∧ Below V3.heap.size V3 W' := fun V hV v hv => (equal_t m m rfl _ v V (x_x.later hV).2 hv HIm.out).mono fun _ _ ⟨he, h⟩ => ⟨he, hV.trans (h.mono hV.size)⟩
  have HC2 := Lib.hid hc2
  clear hc2
  go_region_held3 (fun w' => w'.cell? ⟨p2, 0, none⟩ = some (.bool s_x) ∧ w'.cell? ⟨p2, 1, none⟩ = some (.slice A_x n_x c_x) ∧ Below V3.heap.size V3 w')
    (first
      | exact HK.out _ hst
      | exact HK.out _ hB2
      | exact HK.out _ hB1)
    (first
      | (go_at_call 23; refine (HC1.out _ (by assumption)).mono ?_; rintro e U1 ⟨⟨u1, rfl, hu1⟩, hB1⟩)
      | (go_at_call_of 18 n_x; refine (HC2.out _ (by assumption) _ hu1).mono ?_; rintro e U2 ⟨rfl, hB2⟩))
  clear HK hst HC1 HC2 hu1 hB1 HIm x_x
  replace low := low.trans (hB2.mono low.size)
  clear hB2
  go_wp2_with fail
  refine (number_any a0 n c xs BD.out 0 0 rfl (by decide) hn U2 (r.later low low.size)).mono ?_
  rintro e V4 ⟨⟨u_a, za, rfl, h_a, hza⟩, hB⟩
  replace low := low.trans (hB.mono low.size)
  clear hB
  have HSa : Hid (Sm za 820) := Lib.hid (hza.mono (by decide))
  clear hza
  go_wp2_with fail
  refine (around_any (k) 7 (HK'.out) (by omega) V4).mono ?_
  rintro e w' ⟨rfl, rfl⟩
  obtain ⟨g0, g1⟩ := aroundI_range (k) 7 (by omega)
  obtain ⟨r1, hr1⟩ := Int.eq_ofNat_of_zero_le g0
  rw [hr1] at g1 ⊢
  have lr1 : r1 < 7 := by omega
  clear g0 g1 hr1
  go_wp2_with fail
  rw [show wrap64 (k.tdiv 7) = k.tdiv 7 from by have h1 := HK'.out; have h2 : (k.tdiv 7).natAbs = k.natAbs / 7 := Int.natAbs_tdiv k 7; unfold wrap64; omega]
  refine (around_any (k.tdiv 7) 2 (by have h1 := HK'.out; have h2 : (k.tdiv 7).natAbs = k.natAbs / 7 := Int.natAbs_tdiv k 7; omega) (by omega) V4).mono ?_
  rintro e w' ⟨rfl, rfl⟩
  obtain ⟨g0, g1⟩ := aroundI_range (k.tdiv 7) 2 (by omega)
  obtain ⟨r2, hr2⟩ := Int.eq_ofNat_of_zero_le g0
  rw [hr2] at g1 ⊢
  have lr2 : r2 < 2 := by omega
  clear g0 g1 hr2
  go_wp2_with fail
  refine (near_any (4 * (r1 : Int) + 3 + 28 * (r2 : Int)) (by omega) V4).mono ?_
  rintro e V5 ⟨⟨u_b, zb, rfl, h_b, hzb⟩, hB⟩
  replace h_a := h_a.later hB hB.size
  replace low := low.trans (hB.mono low.size)
  clear hB
  have HSb : Hid (Sm zb 820) := Lib.hid (near_63 r1 r2 zb lr1 hzb)
  clear hzb
  obtain ⟨s_a, A_a, n_a, c_a, rfl⟩ := h_a.form
  obtain ⟨s_b, A_b, n_b, c_b, rfl⟩ := h_b.form
  go_wp2_with fail
  have hrow := Row.new V5 25 [.bool s_a, .slice A_a n_a c_a, .bool s_b, .slice A_b n_b c_b]
  have hBn := alloc_low V5 (.cells #[.bool s_a, .slice A_a n_a c_a, .bool s_b, .slice A_b n_b c_b] 25)
  have E0 : NE (V5.alloc (.cells #[.bool s_a, .slice A_a n_a c_a, .bool s_b, .slice A_b n_b c_b] 25)) V5.heap.size 0 s_a A_a n_a c_a za := NE.of_row hrow rfl rfl (h_a.later hBn hBn.size)
  have E1 : NE (V5.alloc (.cells #[.bool s_a, .slice A_a n_a c_a, .bool s_b, .slice A_b n_b c_b] 25)) V5.heap.size 1 s_b A_b n_b c_b zb := NE.of_row hrow rfl rfl (h_b.later hBn hBn.size)
  replace low := low.trans (hBn.mono low.size)
  clear hrow hBn h_a h_b
  obtain ⟨VA, hVA⟩ : ∃ VA, VA = V5.alloc (.cells #[.bool s_a, .slice A_a n_a c_a, .bool s_b, .slice A_b n_b c_b] 25) := ⟨_, rfl⟩
  rw [← hVA] at E0 E1 low ⊢
  clear hVA
  obtain ⟨g, hg⟩ : ∃ g, g = V5.heap.size := ⟨_, rfl⟩
  rw [← hg] at E0 E1 ⊢
  clear hg
  go_loopw [11] (fun iv W => ∃ i : Nat, iv = .int .i64 i ∧ i ≤ 2 ∧ NE W g 0 s_a A_a n_a c_a za ∧ NE W g 1 s_b A_b n_b c_b zb ∧ Below w.heap.size w W) (fun iv _ => 2 - (intOf iv).toNat)
  case atStart => exact ⟨0, rfl, by omega, E0, E1, low⟩
  case round =>
    clear E0 E1 low
    obtain ⟨i, rfl, hi, E0, E1, low⟩ := hrel
    by_cases hi2 : i = 2
    · skip
      subst hi2
      have hlt : ¬ ((2 : Nat) : Int) < 2 := by decide
      clear E0 E1
      go_wp2_with fail
      refine (lives_any wr).mono ?_
      rintro e V6 ⟨rfl, hB⟩
      replace low := low.trans (hB.mono low.size)
      clear hB
      go_wp2_with fail
      go_ret
      exact ⟨rfl, low⟩
    · skip
      have hlt : (i : Int) < 2 := by omega
      have hi0 : (0 : Int) ≤ (i : Int) := by omega
      obtain ⟨s, A, n', c', z, hE, hsz⟩ : ∃ s A n c z, NE wr g i s A n c z ∧ Sm z 820 := by
        have h : i = 0 ∨ i = 1 := by omega
        rcases h with h | h <;> subst h
        · exact ⟨_, _, _, _, _, E0, HSa.out⟩
        · exact ⟨_, _, _, _, _, E1, HSb.out⟩
      have HIz := Lib.hid (inR_sm (hsz.mono (show 820 ≤ 16384 by decide)))
      have HSz := Lib.hid hsz
      clear hsz
      obtain ⟨m0, m1⟩ : wr.cell? ⟨g, i * 2, none⟩ = some (.bool s) ∧ wr.cell? ⟨g, i * 2 + 1, none⟩ = some (.slice A n' c') := ⟨hE.2.1, hE.2.2.1⟩
      go_wp2_with fail
      clear m0 m1
      refine (wider_ok z _ wr hE.2.2.2 HIz.out).mono ?_
      rintro e V6 ⟨⟨u_y, rfl, h_y⟩, hB⟩
      replace E0 := E0.later hB
      replace E1 := E1.later hB
      replace hE := hE.later hB
      replace low := low.trans (hB.mono low.size)
      clear hB
      obtain ⟨s_y, A_y, n_y, c_y, rfl⟩ := h_y.form
      have x_y := WB.new h_y
      replace h_y := h_y.later (alloc_low (V6) (.cells #[.bool s_y, .slice A_y n_y c_y] 33)) (alloc_low (V6) (.cells #[.bool s_y, .slice A_y n_y c_y] 33)).size
      replace E0 := E0.later (alloc_low (V6) (.cells #[.bool s_y, .slice A_y n_y c_y] 33))
      replace E1 := E1.later (alloc_low (V6) (.cells #[.bool s_y, .slice A_y n_y c_y] 33))
      replace hE := hE.later (alloc_low (V6) (.cells #[.bool s_y, .slice A_y n_y c_y] 33))
      replace low := low.trans ((alloc_low (V6) (.cells #[.bool s_y, .slice A_y n_y c_y] 33)).mono low.size)
      go_wp2_with fail
      clear h_y
      obtain ⟨V7, hV⟩ : ∃ V7, V7 = (V6).alloc (.cells #[.bool s_y, .slice A_y n_y c_y] 33) := ⟨_, rfl⟩
      rw [← hV] at x_y E0 E1 hE low ⊢
      clear hV
      obtain ⟨p7, hp⟩ : ∃ p7, p7 = V6.heap.size := ⟨_, rfl⟩
      rw [← hp] at x_y ⊢
      clear hp
      obtain ⟨fz, hfz⟩ : ∃ fz : Int, fz = if Fits z then z else 0 := ⟨_, rfl⟩
      obtain ⟨bz, hbz⟩ : ∃ bz : Bool, bz = decide (Fits z) := ⟨_, rfl⟩
      have hsE : smallE z = .returned (.tuple #[.int .i64 fz, .bool bz]) := by unfold smallE; rw [hfz, hbz]
      have HSE := Lib.hid hsE
      clear hfz hbz hsE
      refine (small_any z _ V7 x_y.2).mono ?_
      rintro e V8 ⟨rfl, hB⟩
      replace x_y := x_y.later hB
      replace E0 := E0.later hB
      replace E1 := E1.later hB
      replace hE := hE.later hB
      replace low := low.trans (hB.mono low.size)
      clear hB
      rw [HSE.out]
      obtain ⟨m0, m1⟩ := (⟨hE.2.1, hE.2.2.1⟩ : _ ∧ _)
      go_wp2_with fail
      clear m0 m1
      refine (nsmall_any z _ V8 hE.2.2.2 (Nat.le_trans (ds_two HSz.out) (by decide))).mono ?_
      rintro e V9 ⟨rfl, hB⟩
      replace x_y := x_y.later hB
      replace E0 := E0.later hB
      replace E1 := E1.later hB
      replace hE := hE.later hB
      replace low := low.trans (hB.mono low.size)
      clear hB
      rw [HSE.out]
      go_wp2_with fail
      go_roundw
      case rel => exact ⟨i + 1, by first | rfl | go_num, by omega, E0, E1, low⟩
      case measure => simp [intOf]; omega
end Go.Proofs.YtmpdoikdadjneaaDoor
