/- The law WideProducts, walked. -/
import Derived.Test.YtmpdoikdadjneaaDoorCL
import Derived.Test.YtmpdoikdadjneaaDoorCUnum
namespace Go.Proofs.YtmpdoikdadjneaaDoor
open Go.RowKit Go.Shelf Hb Vm Ds Vr

set_option maxRecDepth 100000 in
set_option maxHeartbeats 16000000 in
theorem WideProducts_walk (w : World) (a0 : Option Addr) (n c : Nat) (xs : List Int) (r : Rd w w.heap.size a0 n (xs.map iv)) (bd : ∀ y ∈ xs, -9223372036854775808 ≤ y ∧ y ≤ 9223372036854775807) (hnc : n ≤ c) (hc : c ≤ maxLen) :
    Calls Tryd.prog 6 #[.slice a0 n c] w fun e W' => e = .returned (.bool true) ∧ Below w.heap.size w W' := by
  have low : Below w.heap.size w w := Below.refl _ _
  have hn : n ≤ maxLen := by omega
  have BD := Lib.hid bd
  clear bd
  go_enter Tryd.func6, Tryd.ntmps6
  go_wp2_with fail
  refine (number_any a0 n c xs BD.out 0 0 rfl (by decide) hn w (r.later low low.size)).mono ?_
  rintro e V1 ⟨⟨u_a, za, rfl, h_a, hza⟩, hB⟩
  replace low := low.trans (hB.mono low.size)
  clear hB
  obtain ⟨s_a, A_a, n_a, c_a, rfl⟩ := h_a.form
  have x_a := NB.new h_a
  replace h_a := h_a.later (alloc_low (V1) (.cells #[.bool s_a, .slice A_a n_a c_a] 25)) (alloc_low (V1) (.cells #[.bool s_a, .slice A_a n_a c_a] 25)).size
  replace low := low.trans ((alloc_low (V1) (.cells #[.bool s_a, .slice A_a n_a c_a] 25)).mono low.size)
  go_wp2_with fail
  clear h_a
  obtain ⟨V2, hV⟩ : ∃ V2, V2 = (V1).alloc (.cells #[.bool s_a, .slice A_a n_a c_a] 25) := ⟨_, rfl⟩
  rw [← hV] at x_a low ⊢
  clear hV
  obtain ⟨p2, hp⟩ : ∃ p2, p2 = V1.heap.size := ⟨_, rfl⟩
  rw [← hp] at x_a ⊢
  clear hp
  refine (number_any a0 n c xs BD.out 6 6 rfl (by decide) hn V2 (r.later low low.size)).mono ?_
  rintro e V3 ⟨⟨u_b, zb, rfl, h_b, hzb⟩, hB⟩
  replace x_a := x_a.later hB
  replace low := low.trans (hB.mono low.size)
  clear hB
  obtain ⟨s_b, A_b, n_b, c_b, rfl⟩ := h_b.form
  have x_b := NB.new h_b
  replace x_a := x_a.later (alloc_low (V3) (.cells #[.bool s_b, .slice A_b n_b c_b] 25))
  replace h_b := h_b.later (alloc_low (V3) (.cells #[.bool s_b, .slice A_b n_b c_b] 25)) (alloc_low (V3) (.cells #[.bool s_b, .slice A_b n_b c_b] 25)).size
  replace low := low.trans ((alloc_low (V3) (.cells #[.bool s_b, .slice A_b n_b c_b] 25)).mono low.size)
  obtain ⟨k_a0, k_a1, -, -⟩ := x_a.cells
  go_wp2_with fail
  clear k_a0 k_a1
  clear h_b
  obtain ⟨V4, hV⟩ : ∃ V4, V4 = (V3).alloc (.cells #[.bool s_b, .slice A_b n_b c_b] 25) := ⟨_, rfl⟩
  rw [← hV] at x_a x_b low ⊢
  clear hV
  obtain ⟨p4, hp⟩ : ∃ p4, p4 = V3.heap.size := ⟨_, rfl⟩
  rw [← hp] at x_b ⊢
  clear hp
  have HIA := Lib.hid (inR_sm (hza.mono (by decide)))
  have HIB := Lib.hid (inR_sm (hzb.mono (by decide)))
  have HIP := Lib.hid (inR_sm ((hza.mul hzb).mono (by decide)))
  have HLA := Lib.hid (Nat.le_trans (ds_two hza) (show 270 ≤ 100000 by decide))
  have HLB := Lib.hid (Nat.le_trans (ds_two hzb) (show 270 ≤ 100000 by decide))
  clear hza hzb
  refine (wider_ok za _ V4 x_a.2 HIA.out).mono ?_
  rintro e V5 ⟨⟨u_x, rfl, h_x⟩, hB⟩
  replace x_a := x_a.later hB
  replace x_b := x_b.later hB
  replace low := low.trans (hB.mono low.size)
  clear hB
  obtain ⟨s_x, A_x, n_x, c_x, rfl⟩ := h_x.form
  have x_x := WB.new h_x
  replace x_a := x_a.later (alloc_low (V5) (.cells #[.bool s_x, .slice A_x n_x c_x] 33))
  replace x_b := x_b.later (alloc_low (V5) (.cells #[.bool s_x, .slice A_x n_x c_x] 33))
  replace h_x := h_x.later (alloc_low (V5) (.cells #[.bool s_x, .slice A_x n_x c_x] 33)) (alloc_low (V5) (.cells #[.bool s_x, .slice A_x n_x c_x] 33)).size
  replace low := low.trans ((alloc_low (V5) (.cells #[.bool s_x, .slice A_x n_x c_x] 33)).mono low.size)
  obtain ⟨k_b0, k_b1, -, -⟩ := x_b.cells
  go_wp2_with fail
  clear k_b0 k_b1
  clear h_x
  obtain ⟨V6, hV⟩ : ∃ V6, V6 = (V5).alloc (.cells #[.bool s_x, .slice A_x n_x c_x] 33) := ⟨_, rfl⟩
  rw [← hV] at x_a x_b x_x low ⊢
  clear hV
  obtain ⟨p6, hp⟩ : ∃ p6, p6 = V5.heap.size := ⟨_, rfl⟩
  rw [← hp] at x_x ⊢
  clear hp
  refine (wider_ok zb _ V6 x_b.2 HIB.out).mono ?_
  rintro e V7 ⟨⟨u_y, rfl, h_y⟩, hB⟩
  replace x_a := x_a.later hB
  replace x_b := x_b.later hB
  replace x_x := x_x.later hB
  replace low := low.trans (hB.mono low.size)
  clear hB
  obtain ⟨s_y, A_y, n_y, c_y, rfl⟩ := h_y.form
  have x_y := WB.new h_y
  replace x_a := x_a.later (alloc_low (V7) (.cells #[.bool s_y, .slice A_y n_y c_y] 33))
  replace x_b := x_b.later (alloc_low (V7) (.cells #[.bool s_y, .slice A_y n_y c_y] 33))
  replace x_x := x_x.later (alloc_low (V7) (.cells #[.bool s_y, .slice A_y n_y c_y] 33))
  replace h_y := h_y.later (alloc_low (V7) (.cells #[.bool s_y, .slice A_y n_y c_y] 33)) (alloc_low (V7) (.cells #[.bool s_y, .slice A_y n_y c_y] 33)).size
  replace low := low.trans ((alloc_low (V7) (.cells #[.bool s_y, .slice A_y n_y c_y] 33)).mono low.size)
  obtain ⟨k_x0, k_x1, -, -⟩ := x_x.cells
  go_wp2_with fail
  clear k_x0 k_x1
  clear h_y
  obtain ⟨V8, hV⟩ : ∃ V8, V8 = (V7).alloc (.cells #[.bool s_y, .slice A_y n_y c_y] 33) := ⟨_, rfl⟩
  rw [← hV] at x_a x_b x_x x_y low ⊢
  clear hV
  obtain ⟨p8, hp⟩ : ∃ p8, p8 = V7.heap.size := ⟨_, rfl⟩
  rw [← hp] at x_y ⊢
  clear hp
  refine (mul_ok za zb _ _ V8 x_x.2 x_y.2 HIA.out HIB.out HIP.out).mono ?_
  rintro e V9 ⟨⟨u_p, rfl, h_p⟩, hB⟩
  replace x_a := x_a.later hB
  replace x_b := x_b.later hB
  replace x_x := x_x.later hB
  replace x_y := x_y.later hB
  replace low := low.trans (hB.mono low.size)
  clear hB
  obtain ⟨s_p, A_p, n_p, c_p, rfl⟩ := h_p.form
  have x_p := WB.new h_p
  replace x_a := x_a.later (alloc_low (V9) (.cells #[.bool s_p, .slice A_p n_p c_p] 33))
  replace x_b := x_b.later (alloc_low (V9) (.cells #[.bool s_p, .slice A_p n_p c_p] 33))
  replace x_x := x_x.later (alloc_low (V9) (.cells #[.bool s_p, .slice A_p n_p c_p] 33))
  replace x_y := x_y.later (alloc_low (V9) (.cells #[.bool s_p, .slice A_p n_p c_p] 33))
  replace h_p := h_p.later (alloc_low (V9) (.cells #[.bool s_p, .slice A_p n_p c_p] 33)) (alloc_low (V9) (.cells #[.bool s_p, .slice A_p n_p c_p] 33)).size
  replace low := low.trans ((alloc_low (V9) (.cells #[.bool s_p, .slice A_p n_p c_p] 33)).mono low.size)
  go_wp2_with fail
  clear h_p
  obtain ⟨V10, hV⟩ : ∃ V10, V10 = (V9).alloc (.cells #[.bool s_p, .slice A_p n_p c_p] 33) := ⟨_, rfl⟩
  rw [← hV] at x_a x_b x_x x_y x_p low ⊢
  clear hV
  obtain ⟨p10, hp⟩ : ∃ p10, p10 = V9.heap.size := ⟨_, rfl⟩
  rw [← hp] at x_p ⊢
  clear hp
  have hk : ∀ V, Below V10.heap.size V10 V → V.cell? ⟨p10, 0, none⟩ = some (.bool s_p) ∧ V.cell? ⟨p10, 1, none⟩ = some (.slice A_p n_p c_p) ∧ V.cell? ⟨p2, 0, none⟩ = some (.bool s_a) ∧ V.cell? ⟨p2, 1, none⟩ = some (.slice A_a n_a c_a) ∧ V.cell? ⟨p4, 0, none⟩ = some (.bool s_b) ∧ V.cell? ⟨p4, 1, none⟩ = some (.slice A_b n_b c_b) ∧ Below V10.heap.size V10 V := fun V hV => ⟨(x_p.later hV).cells.1, (x_p.later hV).cells.2.1, (x_a.later hV).cells.1, (x_a.later hV).cells.2.1, (x_b.later hV).cells.1, (x_b.later hV).cells.2.1, hV⟩
  have HK := Lib.hid hk
  clear hk
  have hst : Below V10.heap.size V10 V10.drew := (Below.refl _ _).drew
  have hc1 : ∀ V, Below V10.heap.size V10 V → Calls Tryd.prog 32 #[.agg #[.bool s_a, .slice A_a n_a c_a], .agg #[.bool s_b, .slice A_b n_b c_b]] V fun e W' => (∃ u, e = .returned u ∧ Ni W' W'.heap.size u (za * zb)) ∧ Below V10.heap.size V10 W' := fun V hV => (nmul_any za zb _ _ V (x_a.later hV).2 (x_b.later hV).2 HLA.out HLB.out).mono fun _ _ ⟨he, h⟩ => ⟨he, hV.trans (h.mono hV.size)⟩
  have HC1 := Lib.hid hc1
  clear hc1
  have hc2 : ∀ V, Below V10.heap.size V10 V → ∀ v, Ni V V.heap.size v (za * zb) → Calls Tryd.prog 18 #[.agg #[.bool s_p, .slice A_p n_p c_p], v] V fun e W' => (e = .returned (.bool true)) ∧ Below V10.heap.size V10 W' := fun V hV v hv => (equal_t (za * zb) (za * zb) rfl _ v V (x_p.later hV).2 hv HIP.out).mono fun _ _ ⟨he, h⟩ => ⟨he, hV.trans (h.mono hV.size)⟩
  have HC2 := Lib.hid hc2
  clear hc2
  have hc3 : ∀ V, Below V10.heap.size V10 V → Calls Tryd.prog 20 #[] V fun e W' => (e = .returned (.bool true)) ∧ Below V10.heap.size V10 W' := fun V hV => (lives_any V).mono fun _ _ ⟨he, h⟩ => ⟨he, hV.trans (h.mono hV.size)⟩
  have HC3 := Lib.hid hc3
  clear hc3
  clear x_p x_x x_y x_a x_b
  go_region_held3 (fun w' => w'.cell? ⟨p10, 0, none⟩ = some (.bool s_p) ∧ w'.cell? ⟨p10, 1, none⟩ = some (.slice A_p n_p c_p) ∧ w'.cell? ⟨p2, 0, none⟩ = some (.bool s_a) ∧ w'.cell? ⟨p2, 1, none⟩ = some (.slice A_a n_a c_a) ∧ w'.cell? ⟨p4, 0, none⟩ = some (.bool s_b) ∧ w'.cell? ⟨p4, 1, none⟩ = some (.slice A_b n_b c_b) ∧ Below V10.heap.size V10 w')
    (first
      | exact HK.out _ hst
      | exact HK.out _ hB3
      | exact HK.out _ hB2
      | exact HK.out _ hB1)
    (first
      | (go_at_call_of 32 n_a; refine (HC1.out _ (by assumption)).mono ?_; rintro e U1 ⟨⟨u1, rfl, hu1⟩, hB1⟩)
      | (go_at_call_of 18 n_p; refine (HC2.out _ (by assumption) _ hu1).mono ?_; rintro e U2 ⟨rfl, hB2⟩)
      | (go_at_call 20; refine (HC3.out _ (by assumption)).mono ?_; rintro e U3 ⟨rfl, hB3⟩))
  all_goals
    go_wp2_with fail
    go_ret
    first
      | exact ⟨rfl, low.trans (hB3.mono low.size)⟩
      | exact ⟨rfl, low.trans (hB2.mono low.size)⟩
      | exact ⟨rfl, low.trans (hB1.mono low.size)⟩
end Go.Proofs.YtmpdoikdadjneaaDoor
