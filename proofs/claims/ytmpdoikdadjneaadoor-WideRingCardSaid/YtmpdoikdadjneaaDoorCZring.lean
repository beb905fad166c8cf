/- The law WideRing, walked. -/
import Derived.Test.YtmpdoikdadjneaaDoorCL
import Derived.Test.YtmpdoikdadjneaaDoorCUnum
namespace Go.Proofs.YtmpdoikdadjneaaDoor
open Go.RowKit Go.Shelf Hb Vm Ds Vr

set_option maxRecDepth 100000 in
set_option maxHeartbeats 16000000 in
theorem WideRing_walk (w : World) (a0 : Option Addr) (n c : Nat) (xs : List Int) (r : Rd w w.heap.size a0 n (xs.map iv)) (bd : ∀ y ∈ xs, -9223372036854775808 ≤ y ∧ y ≤ 9223372036854775807) (hnc : n ≤ c) (hc : c ≤ maxLen) :
    Calls Tryd.prog 10 #[.slice a0 n c] w fun e W' => e = .returned (.bool true) ∧ Below w.heap.size w W' := by
  have low : Below w.heap.size w w := Below.refl _ _
  have hn : n ≤ maxLen := by omega
  have BD := Lib.hid bd
  clear bd
  go_enter Tryd.func10, Tryd.ntmps10
  go_wp2_with fail
  refine (number_any a0 n c xs BD.out 0 0 rfl (by decide) hn w (r.later low low.size)).mono ?_
  rintro e V1 ⟨⟨u_ax, zax, rfl, h_ax, hzax⟩, hB⟩
  replace low := low.trans (hB.mono low.size)
  clear hB
  have HIx := Lib.hid (inR_sm (hzax.mono (by decide)))
  go_wp2_with fail
  refine (wider_ok zax _ V1 h_ax HIx.out).mono ?_
  rintro e V2 ⟨⟨u_x, rfl, h_x⟩, hB⟩
  replace h_ax := h_ax.later hB hB.size
  replace low := low.trans (hB.mono low.size)
  clear hB
  clear h_ax
  obtain ⟨s_x, A_x, n_x, c_x, rfl⟩ := h_x.form
  have x_x := WB.new h_x
  replace h_x := h_x.later (alloc_low (V2) (.cells #[.bool s_x, .slice A_x n_x c_x] 33)) (alloc_low (V2) (.cells #[.bool s_x, .slice A_x n_x c_x] 33)).size
  replace low := low.trans ((alloc_low (V2) (.cells #[.bool s_x, .slice A_x n_x c_x] 33)).mono low.size)
  go_wp2_with fail
  clear h_x
  obtain ⟨V3, hV⟩ : ∃ V3, V3 = (V2).alloc (.cells #[.bool s_x, .slice A_x n_x c_x] 33) := ⟨_, rfl⟩
  rw [← hV] at x_x low ⊢
  clear hV
  obtain ⟨p3, hp⟩ : ∃ p3, p3 = V2.heap.size := ⟨_, rfl⟩
  rw [← hp] at x_x ⊢
  clear hp
  refine (number_any a0 n c xs BD.out 6 6 rfl (by decide) hn V3 (r.later low low.size)).mono ?_
  rintro e V4 ⟨⟨u_ay, zay, rfl, h_ay, hzay⟩, hB⟩
  replace x_x := x_x.later hB
  replace low := low.trans (hB.mono low.size)
  clear hB
  have HIy := Lib.hid (inR_sm (hzay.mono (by decide)))
  go_wp2_with fail
  refine (wider_ok zay _ V4 h_ay HIy.out).mono ?_
  rintro e V5 ⟨⟨u_y, rfl, h_y⟩, hB⟩
  replace x_x := x_x.later hB
  replace h_ay := h_ay.later hB hB.size
  replace low := low.trans (hB.mono low.size)
  clear hB
  clear h_ay
  obtain ⟨s_y, A_y, n_y, c_y, rfl⟩ := h_y.form
  have x_y := WB.new h_y
  replace x_x := x_x.later (alloc_low (V5) (.cells #[.bool s_y, .slice A_y n_y c_y] 33))
  replace h_y := h_y.later (alloc_low (V5) (.cells #[.bool s_y, .slice A_y n_y c_y] 33)) (alloc_low (V5) (.cells #[.bool s_y, .slice A_y n_y c_y] 33)).size
  replace low := low.trans ((alloc_low (V5) (.cells #[.bool s_y, .slice A_y n_y c_y] 33)).mono low.size)
  go_wp2_with fail
  clear h_y
  obtain ⟨V6, hV⟩ : ∃ V6, V6 = (V5).alloc (.cells #[.bool s_y, .slice A_y n_y c_y] 33) := ⟨_, rfl⟩
  rw [← hV] at x_x x_y low ⊢
  clear hV
  obtain ⟨p6, hp⟩ : ∃ p6, p6 = V5.heap.size := ⟨_, rfl⟩
  rw [← hp] at x_y ⊢
  clear hp
  refine (number_any a0 n c xs BD.out 12 12 rfl (by decide) hn V6 (r.later low low.size)).mono ?_
  rintro e V7 ⟨⟨u_az, zaz, rfl, h_az, hzaz⟩, hB⟩
  replace x_x := x_x.later hB
  replace x_y := x_y.later hB
  replace low := low.trans (hB.mono low.size)
  clear hB
  have HIz := Lib.hid (inR_sm (hzaz.mono (by decide)))
  go_wp2_with fail
  refine (wider_ok zaz _ V7 h_az HIz.out).mono ?_
  rintro e V8 ⟨⟨u_z, rfl, h_z⟩, hB⟩
  replace x_x := x_x.later hB
  replace x_y := x_y.later hB
  replace h_az := h_az.later hB hB.size
  replace low := low.trans (hB.mono low.size)
  clear hB
  clear h_az
  obtain ⟨s_z, A_z, n_z, c_z, rfl⟩ := h_z.form
  have x_z := WB.new h_z
  replace x_x := x_x.later (alloc_low (V8) (.cells #[.bool s_z, .slice A_z n_z c_z] 33))
  replace x_y := x_y.later (alloc_low (V8) (.cells #[.bool s_z, .slice A_z n_z c_z] 33))
  replace h_z := h_z.later (alloc_low (V8) (.cells #[.bool s_z, .slice A_z n_z c_z] 33)) (alloc_low (V8) (.cells #[.bool s_z, .slice A_z n_z c_z] 33)).size
  replace low := low.trans ((alloc_low (V8) (.cells #[.bool s_z, .slice A_z n_z c_z] 33)).mono low.size)
  obtain ⟨k_x0, k_x1, -, -⟩ := x_x.cells
  obtain ⟨k_y0, k_y1, -, -⟩ := x_y.cells
  go_wp2_with fail
  clear k_x0 k_x1 k_y0 k_y1
  clear h_z
  obtain ⟨V9, hV⟩ : ∃ V9, V9 = (V8).alloc (.cells #[.bool s_z, .slice A_z n_z c_z] 33) := ⟨_, rfl⟩
  rw [← hV] at x_x x_y x_z low ⊢
  clear hV
  obtain ⟨p9, hp⟩ : ∃ p9, p9 = V8.heap.size := ⟨_, rfl⟩
  rw [← hp] at x_z ⊢
  clear hp
  have hSa : Sm (zax + zay) 271 := hzax.add hzay
  have HIa := Lib.hid (inR_sm (hSa.mono (by decide)))
  have hSb : Sm (zay + zax) 271 := hzay.add hzax
  have HIb := Lib.hid (inR_sm (hSb.mono (by decide)))
  have hSc : Sm ((zax + zay) * zaz) 541 := hSa.mul hzaz
  have HIc := Lib.hid (inR_sm (hSc.mono (by decide)))
  have hSd : Sm (zax * zaz) 540 := hzax.mul hzaz
  have HId := Lib.hid (inR_sm (hSd.mono (by decide)))
  have hSi : Sm (zaz * zay) 540 := hzaz.mul hzay
  have HIi := Lib.hid (inR_sm (hSi.mono (by decide)))
  have hSk : Sm (zax * zaz + zaz * zay) 541 := hSd.add hSi
  have HIk := Lib.hid (inR_sm (hSk.mono (by decide)))
  have hSn : Sm (zax + zay - zay) 272 := hSa.sub (hzay.mono (by decide))
  have HIn := Lib.hid (inR_sm (hSn.mono (by decide)))
  have HSc := Lib.hid hSc
  have HSy := Lib.hid hzay
  clear hSa hSb hSc hSd hSi hSk hSn hzax hzay hzaz
  refine (add_ok (zax) (zay) _ _ V9 x_x.2 x_y.2 HIx.out HIy.out HIa.out).mono ?_
  rintro e V10 ⟨⟨u_a, rfl, h_a⟩, hB⟩
  replace x_x := x_x.later hB
  replace x_y := x_y.later hB
  replace x_z := x_z.later hB
  replace low := low.trans (hB.mono low.size)
  clear hB
  obtain ⟨s_a, A_a, n_a, c_a, rfl⟩ := h_a.form
  have x_a := WB.new h_a
  replace x_x := x_x.later (alloc_low (V10) (.cells #[.bool s_a, .slice A_a n_a c_a] 33))
  replace x_y := x_y.later (alloc_low (V10) (.cells #[.bool s_a, .slice A_a n_a c_a] 33))
  replace x_z := x_z.later (alloc_low (V10) (.cells #[.bool s_a, .slice A_a n_a c_a] 33))
  replace h_a := h_a.later (alloc_low (V10) (.cells #[.bool s_a, .slice A_a n_a c_a] 33)) (alloc_low (V10) (.cells #[.bool s_a, .slice A_a n_a c_a] 33)).size
  replace low := low.trans ((alloc_low (V10) (.cells #[.bool s_a, .slice A_a n_a c_a] 33)).mono low.size)
  obtain ⟨k_y0, k_y1, -, -⟩ := x_y.cells
  obtain ⟨k_x0, k_x1, -, -⟩ := x_x.cells
  go_wp2_with fail
  clear k_y0 k_y1 k_x0 k_x1
  clear h_a
  obtain ⟨V11, hV⟩ : ∃ V11, V11 = (V10).alloc (.cells #[.bool s_a, .slice A_a n_a c_a] 33) := ⟨_, rfl⟩
  rw [← hV] at x_x x_y x_z x_a low ⊢
  clear hV
  obtain ⟨p11, hp⟩ : ∃ p11, p11 = V10.heap.size := ⟨_, rfl⟩
  rw [← hp] at x_a ⊢
  clear hp
  refine (add_ok (zay) (zax) _ _ V11 x_y.2 x_x.2 HIy.out HIx.out HIb.out).mono ?_
  rintro e V12 ⟨⟨u_b, rfl, h_b⟩, hB⟩
  replace x_x := x_x.later hB
  replace x_y := x_y.later hB
  replace x_z := x_z.later hB
  replace x_a := x_a.later hB
  replace low := low.trans (hB.mono low.size)
  clear hB
  obtain ⟨s_b, A_b, n_b, c_b, rfl⟩ := h_b.form
  have x_b := WB.new h_b
  replace x_x := x_x.later (alloc_low (V12) (.cells #[.bool s_b, .slice A_b n_b c_b] 33))
  replace x_y := x_y.later (alloc_low (V12) (.cells #[.bool s_b, .slice A_b n_b c_b] 33))
  replace x_z := x_z.later (alloc_low (V12) (.cells #[.bool s_b, .slice A_b n_b c_b] 33))
  replace x_a := x_a.later (alloc_low (V12) (.cells #[.bool s_b, .slice A_b n_b c_b] 33))
  replace h_b := h_b.later (alloc_low (V12) (.cells #[.bool s_b, .slice A_b n_b c_b] 33)) (alloc_low (V12) (.cells #[.bool s_b, .slice A_b n_b c_b] 33)).size
  replace low := low.trans ((alloc_low (V12) (.cells #[.bool s_b, .slice A_b n_b c_b] 33)).mono low.size)
  obtain ⟨k_a0, k_a1, -, -⟩ := x_a.cells
  obtain ⟨k_z0, k_z1, -, -⟩ := x_z.cells
  go_wp2_with fail
  clear k_a0 k_a1 k_z0 k_z1
  clear h_b
  obtain ⟨V13, hV⟩ : ∃ V13, V13 = (V12).alloc (.cells #[.bool s_b, .slice A_b n_b c_b] 33) := ⟨_, rfl⟩
  rw [← hV] at x_x x_y x_z x_a x_b low ⊢
  clear hV
  obtain ⟨p13, hp⟩ : ∃ p13, p13 = V12.heap.size := ⟨_, rfl⟩
  rw [← hp] at x_b ⊢
  clear hp
  refine (mul_ok (zax + zay) (zaz) _ _ V13 x_a.2 x_z.2 HIa.out HIz.out HIc.out).mono ?_
  rintro e V14 ⟨⟨u_c, rfl, h_c⟩, hB⟩
  replace x_x := x_x.later hB
  replace x_y := x_y.later hB
  replace x_z := x_z.later hB
  replace x_a := x_a.later hB
  replace x_b := x_b.later hB
  replace low := low.trans (hB.mono low.size)
  clear hB
  obtain ⟨s_c, A_c, n_c, c_c, rfl⟩ := h_c.form
  have x_c := WB.new h_c
  replace x_x := x_x.later (alloc_low (V14) (.cells #[.bool s_c, .slice A_c n_c c_c] 33))
  replace x_y := x_y.later (alloc_low (V14) (.cells #[.bool s_c, .slice A_c n_c c_c] 33))
  replace x_z := x_z.later (alloc_low (V14) (.cells #[.bool s_c, .slice A_c n_c c_c] 33))
  replace x_a := x_a.later (alloc_low (V14) (.cells #[.bool s_c, .slice A_c n_c c_c] 33))
  replace x_b := x_b.later (alloc_low (V14) (.cells #[.bool s_c, .slice A_c n_c c_c] 33))
  replace h_c := h_c.later (alloc_low (V14) (.cells #[.bool s_c, .slice A_c n_c c_c] 33)) (alloc_low (V14) (.cells #[.bool s_c, .slice A_c n_c c_c] 33)).size
  replace low := low.trans ((alloc_low (V14) (.cells #[.bool s_c, .slice A_c n_c c_c] 33)).mono low.size)
  obtain ⟨k_x0, k_x1, -, -⟩ := x_x.cells
  obtain ⟨k_z0, k_z1, -, -⟩ := x_z.cells
  go_wp2_with fail
  clear k_x0 k_x1 k_z0 k_z1
  clear h_c
  obtain ⟨V15, hV⟩ : ∃ V15, V15 = (V14).alloc (.cells #[.bool s_c, .slice A_c n_c c_c] 33) := ⟨_, rfl⟩
  rw [← hV] at x_x x_y x_z x_a x_b x_c low ⊢
  clear hV
  obtain ⟨p15, hp⟩ : ∃ p15, p15 = V14.heap.size := ⟨_, rfl⟩
  rw [← hp] at x_c ⊢
  clear hp
  refine (mul_ok (zax) (zaz) _ _ V15 x_x.2 x_z.2 HIx.out HIz.out HId.out).mono ?_
  rintro e V16 ⟨⟨u_d, rfl, h_d⟩, hB⟩
  replace x_x := x_x.later hB
  replace x_y := x_y.later hB
  replace x_z := x_z.later hB
  replace x_a := x_a.later hB
  replace x_b := x_b.later hB
  replace x_c := x_c.later hB
  replace low := low.trans (hB.mono low.size)
  clear hB
  obtain ⟨s_d, A_d, n_d, c_d, rfl⟩ := h_d.form
  have x_d := WB.new h_d
  replace x_x := x_x.later (alloc_low (V16) (.cells #[.bool s_d, .slice A_d n_d c_d] 33))
  replace x_y := x_y.later (alloc_low (V16) (.cells #[.bool s_d, .slice A_d n_d c_d] 33))
  replace x_z := x_z.later (alloc_low (V16) (.cells #[.bool s_d, .slice A_d n_d c_d] 33))
  replace x_a := x_a.later (alloc_low (V16) (.cells #[.bool s_d, .slice A_d n_d c_d] 33))
  replace x_b := x_b.later (alloc_low (V16) (.cells #[.bool s_d, .slice A_d n_d c_d] 33))
  replace x_c := x_c.later (alloc_low (V16) (.cells #[.bool s_d, .slice A_d n_d c_d] 33))
  replace h_d := h_d.later (alloc_low (V16) (.cells #[.bool s_d, .slice A_d n_d c_d] 33)) (alloc_low (V16) (.cells #[.bool s_d, .slice A_d n_d c_d] 33)).size
  replace low := low.trans ((alloc_low (V16) (.cells #[.bool s_d, .slice A_d n_d c_d] 33)).mono low.size)
  obtain ⟨k_z0, k_z1, -, -⟩ := x_z.cells
  obtain ⟨k_y0, k_y1, -, -⟩ := x_y.cells
  go_wp2_with fail
  clear k_z0 k_z1 k_y0 k_y1
  clear h_d
  obtain ⟨V17, hV⟩ : ∃ V17, V17 = (V16).alloc (.cells #[.bool s_d, .slice A_d n_d c_d] 33) := ⟨_, rfl⟩
  rw [← hV] at x_x x_y x_z x_a x_b x_c x_d low ⊢
  clear hV
  obtain ⟨p17, hp⟩ : ∃ p17, p17 = V16.heap.size := ⟨_, rfl⟩
  rw [← hp] at x_d ⊢
  clear hp
  refine (mul_ok (zaz) (zay) _ _ V17 x_z.2 x_y.2 HIz.out HIy.out HIi.out).mono ?_
  rintro e V18 ⟨⟨u_i, rfl, h_i⟩, hB⟩
  replace x_x := x_x.later hB
  replace x_y := x_y.later hB
  replace x_z := x_z.later hB
  replace x_a := x_a.later hB
  replace x_b := x_b.later hB
  replace x_c := x_c.later hB
  replace x_d := x_d.later hB
  replace low := low.trans (hB.mono low.size)
  clear hB
  obtain ⟨s_i, A_i, n_i, c_i, rfl⟩ := h_i.form
  have x_i := WB.new h_i
  replace x_x := x_x.later (alloc_low (V18) (.cells #[.bool s_i, .slice A_i n_i c_i] 33))
  replace x_y := x_y.later (alloc_low (V18) (.cells #[.bool s_i, .slice A_i n_i c_i] 33))
  replace x_z := x_z.later (alloc_low (V18) (.cells #[.bool s_i, .slice A_i n_i c_i] 33))
  replace x_a := x_a.later (alloc_low (V18) (.cells #[.bool s_i, .slice A_i n_i c_i] 33))
  replace x_b := x_b.later (alloc_low (V18) (.cells #[.bool s_i, .slice A_i n_i c_i] 33))
  replace x_c := x_c.later (alloc_low (V18) (.cells #[.bool s_i, .slice A_i n_i c_i] 33))
  replace x_d := x_d.later (alloc_low (V18) (.cells #[.bool s_i, .slice A_i n_i c_i] 33))
  replace h_i := h_i.later (alloc_low (V18) (.cells #[.bool s_i, .slice A_i n_i c_i] 33)) (alloc_low (V18) (.cells #[.bool s_i, .slice A_i n_i c_i] 33)).size
  replace low := low.trans ((alloc_low (V18) (.cells #[.bool s_i, .slice A_i n_i c_i] 33)).mono low.size)
  obtain ⟨k_d0, k_d1, -, -⟩ := x_d.cells
  obtain ⟨k_i0, k_i1, -, -⟩ := x_i.cells
  go_wp2_with fail
  clear k_d0 k_d1 k_i0 k_i1
  clear h_i
  obtain ⟨V19, hV⟩ : ∃ V19, V19 = (V18).alloc (.cells #[.bool s_i, .slice A_i n_i c_i] 33) := ⟨_, rfl⟩
  rw [← hV] at x_x x_y x_z x_a x_b x_c x_d x_i low ⊢
  clear hV
  obtain ⟨p19, hp⟩ : ∃ p19, p19 = V18.heap.size := ⟨_, rfl⟩
  rw [← hp] at x_i ⊢
  clear hp
  refine (add_ok (zax * zaz) (zaz * zay) _ _ V19 x_d.2 x_i.2 HId.out HIi.out HIk.out).mono ?_
  rintro e V20 ⟨⟨u_k, rfl, h_k⟩, hB⟩
  replace x_x := x_x.later hB
  replace x_y := x_y.later hB
  replace x_z := x_z.later hB
  replace x_a := x_a.later hB
  replace x_b := x_b.later hB
  replace x_c := x_c.later hB
  replace x_d := x_d.later hB
  replace x_i := x_i.later hB
  replace low := low.trans (hB.mono low.size)
  clear hB
  obtain ⟨s_k, A_k, n_k, c_k, rfl⟩ := h_k.form
  have x_k := WB.new h_k
  replace x_x := x_x.later (alloc_low (V20) (.cells #[.bool s_k, .slice A_k n_k c_k] 33))
  replace x_y := x_y.later (alloc_low (V20) (.cells #[.bool s_k, .slice A_k n_k c_k] 33))
  replace x_z := x_z.later (alloc_low (V20) (.cells #[.bool s_k, .slice A_k n_k c_k] 33))
  replace x_a := x_a.later (alloc_low (V20) (.cells #[.bool s_k, .slice A_k n_k c_k] 33))
  replace x_b := x_b.later (alloc_low (V20) (.cells #[.bool s_k, .slice A_k n_k c_k] 33))
  replace x_c := x_c.later (alloc_low (V20) (.cells #[.bool s_k, .slice A_k n_k c_k] 33))
  replace x_d := x_d.later (alloc_low (V20) (.cells #[.bool s_k, .slice A_k n_k c_k] 33))
  replace x_i := x_i.later (alloc_low (V20) (.cells #[.bool s_k, .slice A_k n_k c_k] 33))
  replace h_k := h_k.later (alloc_low (V20) (.cells #[.bool s_k, .slice A_k n_k c_k] 33)) (alloc_low (V20) (.cells #[.bool s_k, .slice A_k n_k c_k] 33)).size
  replace low := low.trans ((alloc_low (V20) (.cells #[.bool s_k, .slice A_k n_k c_k] 33)).mono low.size)
  obtain ⟨k_a0, k_a1, -, -⟩ := x_a.cells
  obtain ⟨k_y0, k_y1, -, -⟩ := x_y.cells
  go_wp2_with fail
  clear k_a0 k_a1 k_y0 k_y1
  clear h_k
  obtain ⟨V21, hV⟩ : ∃ V21, V21 = (V20).alloc (.cells #[.bool s_k, .slice A_k n_k c_k] 33) := ⟨_, rfl⟩
  rw [← hV] at x_x x_y x_z x_a x_b x_c x_d x_i x_k low ⊢
  clear hV
  obtain ⟨p21, hp⟩ : ∃ p21, p21 = V20.heap.size := ⟨_, rfl⟩
  rw [← hp] at x_k ⊢
  clear hp
  refine (sub_ok (zax + zay) (zay) _ _ V21 x_a.2 x_y.2 HIa.out HIy.out HIn.out).mono ?_
  rintro e V22 ⟨⟨u_n, rfl, h_n⟩, hB⟩
  replace x_x := x_x.later hB
  replace x_y := x_y.later hB
  replace x_z := x_z.later hB
  replace x_a := x_a.later hB
  replace x_b := x_b.later hB
  replace x_c := x_c.later hB
  replace x_d := x_d.later hB
  replace x_i := x_i.later hB
  replace x_k := x_k.later hB
  replace low := low.trans (hB.mono low.size)
  clear hB
  obtain ⟨s_n, A_n, n_n, c_n, rfl⟩ := h_n.form
  have x_n := WB.new h_n
  replace x_x := x_x.later (alloc_low (V22) (.cells #[.bool s_n, .slice A_n n_n c_n] 33))
  replace x_y := x_y.later (alloc_low (V22) (.cells #[.bool s_n, .slice A_n n_n c_n] 33))
  replace x_z := x_z.later (alloc_low (V22) (.cells #[.bool s_n, .slice A_n n_n c_n] 33))
  replace x_a := x_a.later (alloc_low (V22) (.cells #[.bool s_n, .slice A_n n_n c_n] 33))
  replace x_b := x_b.later (alloc_low (V22) (.cells #[.bool s_n, .slice A_n n_n c_n] 33))
  replace x_c := x_c.later (alloc_low (V22) (.cells #[.bool s_n, .slice A_n n_n c_n] 33))
  replace x_d := x_d.later (alloc_low (V22) (.cells #[.bool s_n, .slice A_n n_n c_n] 33))
  replace x_i := x_i.later (alloc_low (V22) (.cells #[.bool s_n, .slice A_n n_n c_n] 33))
  replace x_k := x_k.later (alloc_low (V22) (.cells #[.bool s_n, .slice A_n n_n c_n] 33))
  replace h_n := h_n.later (alloc_low (V22) (.cells #[.bool s_n, .slice A_n n_n c_n] 33)) (alloc_low (V22) (.cells #[.bool s_n, .slice A_n n_n c_n] 33)).size
  replace low := low.trans ((alloc_low (V22) (.cells #[.bool s_n, .slice A_n n_n c_n] 33)).mono low.size)
  go_wp2_with fail
  clear h_n
  obtain ⟨V23, hV⟩ : ∃ V23, V23 = (V22).alloc (.cells #[.bool s_n, .slice A_n n_n c_n] 33) := ⟨_, rfl⟩
  rw [← hV] at x_x x_y x_z x_a x_b x_c x_d x_i x_k x_n low ⊢
  clear hV
  obtain ⟨p23, hp⟩ : ∃ p23, p23 = V22.heap.size := ⟨_, rfl⟩
  rw [← hp] at x_n ⊢
  clear hp
  have e1 : cmpI (zax + zay) (zay + zax) = 0 := cmpI_eq (Int.add_comm _ _)
  have e2 : cmpI ((zax + zay) * zaz) (zax * zaz + zaz * zay) = 0 := cmpI_eq (by rw [Int.add_mul, Int.mul_comm zay zaz])
  have e3 : cmpI (zax + zay - zay) zax = 0 := cmpI_eq (by omega)
  have e4 : decS (zay + zax) = decS (zax + zay) := by rw [Int.add_comm]
  obtain ⟨ta, hta⟩ : ∃ ta, ta = decS (zax + zay) := ⟨_, rfl⟩
  have hbq : (ta.toList == ta.toList) = true := beq_self_eq_true _
  have hk : ∀ V, Below V23.heap.size V23 V → V.cell? ⟨p11, 0, none⟩ = some (.bool s_a) ∧ V.cell? ⟨p11, 1, none⟩ = some (.slice A_a n_a c_a) ∧ V.cell? ⟨p13, 0, none⟩ = some (.bool s_b) ∧ V.cell? ⟨p13, 1, none⟩ = some (.slice A_b n_b c_b) ∧ V.cell? ⟨p15, 0, none⟩ = some (.bool s_c) ∧ V.cell? ⟨p15, 1, none⟩ = some (.slice A_c n_c c_c) ∧ V.cell? ⟨p21, 0, none⟩ = some (.bool s_k) ∧ V.cell? ⟨p21, 1, none⟩ = some (.slice A_k n_k c_k) ∧ V.cell? ⟨p23, 0, none⟩ = some (.bool s_n) ∧ V.cell? ⟨p23, 1, none⟩ = some (.slice A_n n_n c_n) ∧ V.cell? ⟨p3, 0, none⟩ = some (.bool s_x) ∧ V.cell? ⟨p3, 1, none⟩ = some (.slice A_x n_x c_x) ∧ V.cell? ⟨p6, 0, none⟩ = some (.bool s_y) ∧ V.cell? ⟨p6, 1, none⟩ = some (.slice A_y n_y c_y) ∧ Below V23.heap.size V23 V := fun V hV => ⟨(x_a.later hV).cells.1, (x_a.later hV).cells.2.1, (x_b.later hV).cells.1, (x_b.later hV).cells.2.1, (x_c.later hV).cells.1, (x_c.later hV).cells.2.1, (x_k.later hV).cells.1, (x_k.later hV).cells.2.1, (x_n.later hV).cells.1, (x_n.later hV).cells.2.1, (x_x.later hV).cells.1, (x_x.later hV).cells.2.1, (x_y.later hV).cells.1, (x_y.later hV).cells.2.1, hV⟩
  have HK := Lib.hid hk
  clear hk
  have hst : Below V23.heap.size V23 V23.drew := (Below.refl _ _).drew
  have hc1 : ∀ V, Below V23.heap.size V23 V → Calls Tryd.prog 37 #[.agg #[.bool s_a, .slice A_a n_a c_a], .agg #[.bool s_b, .slice A_b n_b c_b]] V fun e W' => (e = .returned (.int .i64 0)) ∧ Below V23.heap.size V23 W' := fun V hV => (compare_any (zax + zay) (zay + zax) _ _ V (x_a.later hV).2 (x_b.later hV).2 (by have := HIa.out.len; omega) (by have := HIb.out.len; omega)).mono fun _ _ ⟨he, h⟩ => ⟨by rw [he, e1], hV.trans (h.mono hV.size)⟩
  have HC1 := Lib.hid hc1
  clear hc1
  have hc2 : ∀ V, Below V23.heap.size V23 V → Calls Tryd.prog 37 #[.agg #[.bool s_c, .slice A_c n_c c_c], .agg #[.bool s_k, .slice A_k n_k c_k]] V fun e W' => (e = .returned (.int .i64 0)) ∧ Below V23.heap.size V23 W' := fun V hV => (compare_any ((zax + zay) * zaz) (zax * zaz + zaz * zay) _ _ V (x_c.later hV).2 (x_k.later hV).2 (by have := HIc.out.len; omega) (by have := HIk.out.len; omega)).mono fun _ _ ⟨he, h⟩ => ⟨by rw [he, e2], hV.trans (h.mono hV.size)⟩
  have HC2 := Lib.hid hc2
  clear hc2
  have hc3 : ∀ V, Below V23.heap.size V23 V → Calls Tryd.prog 37 #[.agg #[.bool s_n, .slice A_n n_n c_n], .agg #[.bool s_x, .slice A_x n_x c_x]] V fun e W' => (e = .returned (.int .i64 0)) ∧ Below V23.heap.size V23 W' := fun V hV => (compare_any (zax + zay - zay) (zax) _ _ V (x_n.later hV).2 (x_x.later hV).2 (by have := HIn.out.len; omega) (by have := HIx.out.len; omega)).mono fun _ _ ⟨he, h⟩ => ⟨by rw [he, e3], hV.trans (h.mono hV.size)⟩
  have HC3 := Lib.hid hc3
  clear hc3
  have hc4 : ∀ V, Below V23.heap.size V23 V → Calls Tryd.prog 19 #[.agg #[.bool s_a, .slice A_a n_a c_a]] V fun e W' => (e = .returned (.string ta)) ∧ Below V23.heap.size V23 W' := fun V hV => (str_ok (zax + zay) ta hta.symm _ V (x_a.later hV).2 HIa.out).mono fun _ _ ⟨he, h⟩ => ⟨he, hV.trans (h.mono hV.size)⟩
  have HC4 := Lib.hid hc4
  clear hc4
  have hc5 : ∀ V, Below V23.heap.size V23 V → Calls Tryd.prog 19 #[.agg #[.bool s_b, .slice A_b n_b c_b]] V fun e W' => (e = .returned (.string ta)) ∧ Below V23.heap.size V23 W' := fun V hV => (str_ok (zay + zax) ta (e4.trans hta.symm) _ V (x_b.later hV).2 HIb.out).mono fun _ _ ⟨he, h⟩ => ⟨he, hV.trans (h.mono hV.size)⟩
  have HC5 := Lib.hid hc5
  clear hc5
  clear hta e1 e2 e3 e4
  go_region_held3 (fun w' => w'.cell? ⟨p11, 0, none⟩ = some (.bool s_a) ∧ w'.cell? ⟨p11, 1, none⟩ = some (.slice A_a n_a c_a) ∧ w'.cell? ⟨p13, 0, none⟩ = some (.bool s_b) ∧ w'.cell? ⟨p13, 1, none⟩ = some (.slice A_b n_b c_b) ∧ w'.cell? ⟨p15, 0, none⟩ = some (.bool s_c) ∧ w'.cell? ⟨p15, 1, none⟩ = some (.slice A_c n_c c_c) ∧ w'.cell? ⟨p21, 0, none⟩ = some (.bool s_k) ∧ w'.cell? ⟨p21, 1, none⟩ = some (.slice A_k n_k c_k) ∧ w'.cell? ⟨p23, 0, none⟩ = some (.bool s_n) ∧ w'.cell? ⟨p23, 1, none⟩ = some (.slice A_n n_n c_n) ∧ w'.cell? ⟨p3, 0, none⟩ = some (.bool s_x) ∧ w'.cell? ⟨p3, 1, none⟩ = some (.slice A_x n_x c_x) ∧ w'.cell? ⟨p6, 0, none⟩ = some (.bool s_y) ∧ w'.cell? ⟨p6, 1, none⟩ = some (.slice A_y n_y c_y) ∧ Below V23.heap.size V23 w')
    (first
      | exact HK.out _ hst
      | exact HK.out _ hB5
      | exact HK.out _ hB4
      | exact HK.out _ hB3
      | exact HK.out _ hB2
      | exact HK.out _ hB1)
    (first
      | (go_at_call_of 37 n_a; refine (HC1.out _ (by assumption)).mono ?_; rintro e U1 ⟨rfl, hB1⟩)
      | (go_at_call_of 37 n_c; refine (HC2.out _ (by assumption)).mono ?_; rintro e U2 ⟨rfl, hB2⟩)
      | (go_at_call_of 37 n_n; refine (HC3.out _ (by assumption)).mono ?_; rintro e U3 ⟨rfl, hB3⟩)
      | (go_at_call_of 19 n_a; refine (HC4.out _ (by assumption)).mono ?_; rintro e U4 ⟨rfl, hB4⟩)
      | (go_at_call_of 19 n_b; refine (HC5.out _ (by assumption)).mono ?_; rintro e U5 ⟨rfl, hB5⟩))
  all_goals
    first
      | (obtain ⟨VA, hVA⟩ : ∃ VA, VA = U5 := ⟨_, rfl⟩
         rw [← hVA] at hB5 ⊢
         have hBA := hB5)
      | (obtain ⟨VA, hVA⟩ : ∃ VA, VA = U4 := ⟨_, rfl⟩
         rw [← hVA] at hB4 ⊢
         have hBA := hB4)
    clear hVA hB1 hB2 hB3 hB4 hB5 hst hbq HC1 HC2 HC3 HC4 HC5 HK
    clear x_x
    clear x_z
    clear x_a
    clear x_b
    clear x_d
    clear x_i
    clear x_k
    clear x_n
    skip
    replace x_y := x_y.later hBA
    replace x_c := x_c.later hBA
    replace low := low.trans (hBA.mono low.size)
    clear hBA
    obtain ⟨k_c0, k_c1, -, -⟩ := x_c.cells
    obtain ⟨k_y0, k_y1, -, -⟩ := x_y.cells
    go_wp2_with fail
    clear k_c0 k_c1 k_y0 k_y1
    by_cases hy0 : zay = 0
    · skip
      have hq := div_any ((zax + zay) * zaz) zay _ _ VA x_c.2 x_y.2 (by have := HIc.out.len; omega) (by have := HIy.out.len; omega)
      unfold DivW at hq
      rw [if_pos hy0, if_pos hy0, if_pos hy0] at hq
      have HQ := Lib.hid hq
      clear hq
      refine (HQ.out).mono ?_
      rintro e V24 ⟨⟨u_q, u_r, rfl, h_q, h_r⟩, hB⟩
      replace x_y := x_y.later hB
      replace x_c := x_c.later hB
      replace low := low.trans (hB.mono low.size)
      clear hB
      clear HQ
      obtain ⟨s_q, A_q, n_q, c_q, rfl⟩ := h_q.form
      have x_q := WB.new h_q
      replace x_y := x_y.later (alloc_low (V24) (.cells #[.bool s_q, .slice A_q n_q c_q] 33))
      replace x_c := x_c.later (alloc_low (V24) (.cells #[.bool s_q, .slice A_q n_q c_q] 33))
      replace h_q := h_q.later (alloc_low (V24) (.cells #[.bool s_q, .slice A_q n_q c_q] 33)) (alloc_low (V24) (.cells #[.bool s_q, .slice A_q n_q c_q] 33)).size
      replace h_r := h_r.later (alloc_low (V24) (.cells #[.bool s_q, .slice A_q n_q c_q] 33)) (alloc_low (V24) (.cells #[.bool s_q, .slice A_q n_q c_q] 33)).size
      replace low := low.trans ((alloc_low (V24) (.cells #[.bool s_q, .slice A_q n_q c_q] 33)).mono low.size)
      obtain ⟨s_r, A_r, n_r, c_r, rfl⟩ := h_r.form
      have x_r := WB.new h_r
      simp only [World.size_alloc] at x_r
      replace x_y := x_y.later (alloc_low ((V24).alloc (.cells #[.bool s_q, .slice A_q n_q c_q] 33)) (.cells #[.bool s_r, .slice A_r n_r c_r] 33))
      replace x_c := x_c.later (alloc_low ((V24).alloc (.cells #[.bool s_q, .slice A_q n_q c_q] 33)) (.cells #[.bool s_r, .slice A_r n_r c_r] 33))
      replace x_q := x_q.later (alloc_low ((V24).alloc (.cells #[.bool s_q, .slice A_q n_q c_q] 33)) (.cells #[.bool s_r, .slice A_r n_r c_r] 33))
      replace h_q := h_q.later (alloc_low ((V24).alloc (.cells #[.bool s_q, .slice A_q n_q c_q] 33)) (.cells #[.bool s_r, .slice A_r n_r c_r] 33)) (alloc_low ((V24).alloc (.cells #[.bool s_q, .slice A_q n_q c_q] 33)) (.cells #[.bool s_r, .slice A_r n_r c_r] 33)).size
      replace h_r := h_r.later (alloc_low ((V24).alloc (.cells #[.bool s_q, .slice A_q n_q c_q] 33)) (.cells #[.bool s_r, .slice A_r n_r c_r] 33)) (alloc_low ((V24).alloc (.cells #[.bool s_q, .slice A_q n_q c_q] 33)) (.cells #[.bool s_r, .slice A_r n_r c_r] 33)).size
      replace low := low.trans ((alloc_low ((V24).alloc (.cells #[.bool s_q, .slice A_q n_q c_q] 33)) (.cells #[.bool s_r, .slice A_r n_r c_r] 33)).mono low.size)
      obtain ⟨k_y0, k_y1, -, -⟩ := x_y.cells
      go_wp2_with fail
      clear k_y0 k_y1
      clear h_q
      clear h_r
      obtain ⟨V25, hV⟩ : ∃ V25, V25 = ((V24).alloc (.cells #[.bool s_q, .slice A_q n_q c_q] 33)).alloc (.cells #[.bool s_r, .slice A_r n_r c_r] 33) := ⟨_, rfl⟩
      rw [← hV] at x_y x_c x_q x_r low ⊢
      clear hV
      obtain ⟨p25, hp⟩ : ∃ p25, p25 = V24.heap.size := ⟨_, rfl⟩
      rw [← hp] at x_q x_r ⊢
      clear hp
      refine (sign_any zay _ V25 x_y.2).mono ?_
      rintro e V26 ⟨rfl, hB⟩
      replace x_y := x_y.later hB
      replace x_c := x_c.later hB
      replace x_q := x_q.later hB
      replace x_r := x_r.later hB
      replace low := low.trans (hB.mono low.size)
      clear hB
      rw [cmpI_eq hy0]
      clear hy0
      go_wp2_with fail
      refine (lives_any V26).mono ?_
      rintro e V27 ⟨rfl, hB⟩
      replace x_y := x_y.later hB
      replace x_c := x_c.later hB
      replace x_q := x_q.later hB
      replace x_r := x_r.later hB
      replace low := low.trans (hB.mono low.size)
      clear hB
      go_wp2_with fail
      go_ret
      exact ⟨rfl, low⟩
    · skip
      obtain ⟨zq, hzq⟩ : ∃ zq, zq = ((zax + zay) * zaz) / zay := ⟨_, rfl⟩
      obtain ⟨zr, hzr⟩ : ∃ zr, zr = ((zax + zay) * zaz) % zay := ⟨_, rfl⟩
      have hqr : zq * zay = ((zax + zay) * zaz) - zr := by rw [hzq, hzr]; have := Int.ediv_mul_add_emod ((zax + zay) * zaz) zay; omega
      have hr0 : 0 ≤ zr := by rw [hzr]; exact Int.emod_nonneg _ hy0
      have hr1 : zr < (zay.natAbs : Int) := by rw [hzr]; exact Int.emod_lt _ hy0
      have hSr : Sm zr 270 := by unfold Sm at *; have := HSy.out; unfold Sm at this; omega
      have hSp : Sm (zq * zay) 542 := by rw [hqr]; exact HSc.out.sub (hSr.mono (by decide))
      have hSq : Sm zq 542 := by
        unfold Sm at hSp ⊢
        rw [Int.natAbs_mul] at hSp
        have h1 : 1 ≤ zay.natAbs := by omega
        exact Nat.lt_of_le_of_lt (Nat.le_mul_of_pos_right _ h1) hSp
      have HIq := Lib.hid (inR_sm (hSq.mono (by decide)))
      have HIr := Lib.hid (inR_sm (hSr.mono (by decide)))
      have HIp := Lib.hid (inR_sm (hSp.mono (by decide)))
      have HPR : Hid (zq * zay + zr = (zax + zay) * zaz) := Lib.hid (by omega)
      have hq := div_ok ((zax + zay) * zaz) zay _ _ VA x_c.2 x_y.2 HIc.out HIy.out hy0
      rw [← hzq, ← hzr] at hq
      have HQ := Lib.hid hq
      have HIu : Hid (InR (zq * zay + zr)) := Lib.hid (by rw [HPR.out]; exact HIc.out)
      have HR0 := Lib.hid hr0
      have HR1 := Lib.hid hr1
      clear hq hzq hzr hqr hr0 hr1 hSr hSp hSq
      refine (HQ.out).mono ?_
      rintro e V24 ⟨⟨u_q, u_r, rfl, h_q, h_r⟩, hB⟩
      replace x_y := x_y.later hB
      replace x_c := x_c.later hB
      replace low := low.trans (hB.mono low.size)
      clear hB
      clear HQ
      obtain ⟨s_q, A_q, n_q, c_q, rfl⟩ := h_q.form
      have x_q := WB.new h_q
      replace x_y := x_y.later (alloc_low (V24) (.cells #[.bool s_q, .slice A_q n_q c_q] 33))
      replace x_c := x_c.later (alloc_low (V24) (.cells #[.bool s_q, .slice A_q n_q c_q] 33))
      replace h_q := h_q.later (alloc_low (V24) (.cells #[.bool s_q, .slice A_q n_q c_q] 33)) (alloc_low (V24) (.cells #[.bool s_q, .slice A_q n_q c_q] 33)).size
      replace h_r := h_r.later (alloc_low (V24) (.cells #[.bool s_q, .slice A_q n_q c_q] 33)) (alloc_low (V24) (.cells #[.bool s_q, .slice A_q n_q c_q] 33)).size
      replace low := low.trans ((alloc_low (V24) (.cells #[.bool s_q, .slice A_q n_q c_q] 33)).mono low.size)
      obtain ⟨s_r, A_r, n_r, c_r, rfl⟩ := h_r.form
      have x_r := WB.new h_r
      simp only [World.size_alloc] at x_r
      replace x_y := x_y.later (alloc_low ((V24).alloc (.cells #[.bool s_q, .slice A_q n_q c_q] 33)) (.cells #[.bool s_r, .slice A_r n_r c_r] 33))
      replace x_c := x_c.later (alloc_low ((V24).alloc (.cells #[.bool s_q, .slice A_q n_q c_q] 33)) (.cells #[.bool s_r, .slice A_r n_r c_r] 33))
      replace x_q := x_q.later (alloc_low ((V24).alloc (.cells #[.bool s_q, .slice A_q n_q c_q] 33)) (.cells #[.bool s_r, .slice A_r n_r c_r] 33))
      replace h_q := h_q.later (alloc_low ((V24).alloc (.cells #[.bool s_q, .slice A_q n_q c_q] 33)) (.cells #[.bool s_r, .slice A_r n_r c_r] 33)) (alloc_low ((V24).alloc (.cells #[.bool s_q, .slice A_q n_q c_q] 33)) (.cells #[.bool s_r, .slice A_r n_r c_r] 33)).size
      replace h_r := h_r.later (alloc_low ((V24).alloc (.cells #[.bool s_q, .slice A_q n_q c_q] 33)) (.cells #[.bool s_r, .slice A_r n_r c_r] 33)) (alloc_low ((V24).alloc (.cells #[.bool s_q, .slice A_q n_q c_q] 33)) (.cells #[.bool s_r, .slice A_r n_r c_r] 33)).size
      replace low := low.trans ((alloc_low ((V24).alloc (.cells #[.bool s_q, .slice A_q n_q c_q] 33)) (.cells #[.bool s_r, .slice A_r n_r c_r] 33)).mono low.size)
      obtain ⟨k_y0, k_y1, -, -⟩ := x_y.cells
      go_wp2_with fail
      clear k_y0 k_y1
      clear h_q
      clear h_r
      obtain ⟨V25, hV⟩ : ∃ V25, V25 = ((V24).alloc (.cells #[.bool s_q, .slice A_q n_q c_q] 33)).alloc (.cells #[.bool s_r, .slice A_r n_r c_r] 33) := ⟨_, rfl⟩
      rw [← hV] at x_y x_c x_q x_r low ⊢
      clear hV
      obtain ⟨p25, hp⟩ : ∃ p25, p25 = V24.heap.size := ⟨_, rfl⟩
      rw [← hp] at x_q x_r ⊢
      clear hp
      refine (mul_ok zq zay _ _ V25 x_q.2 x_y.2 HIq.out HIy.out HIp.out).mono ?_
      rintro e V26 ⟨⟨u_p, rfl, h_p⟩, hB⟩
      replace x_y := x_y.later hB
      replace x_c := x_c.later hB
      replace x_q := x_q.later hB
      replace x_r := x_r.later hB
      replace low := low.trans (hB.mono low.size)
      clear hB
      obtain ⟨s_p, A_p, n_p, c_p, rfl⟩ := h_p.form
      have x_p := WB.new h_p
      replace x_y := x_y.later (alloc_low (V26) (.cells #[.bool s_p, .slice A_p n_p c_p] 33))
      replace x_c := x_c.later (alloc_low (V26) (.cells #[.bool s_p, .slice A_p n_p c_p] 33))
      replace x_q := x_q.later (alloc_low (V26) (.cells #[.bool s_p, .slice A_p n_p c_p] 33))
      replace x_r := x_r.later (alloc_low (V26) (.cells #[.bool s_p, .slice A_p n_p c_p] 33))
      replace h_p := h_p.later (alloc_low (V26) (.cells #[.bool s_p, .slice A_p n_p c_p] 33)) (alloc_low (V26) (.cells #[.bool s_p, .slice A_p n_p c_p] 33)).size
      replace low := low.trans ((alloc_low (V26) (.cells #[.bool s_p, .slice A_p n_p c_p] 33)).mono low.size)
      obtain ⟨k_r0, k_r1, -, -⟩ := x_r.cells
      go_wp2_with fail
      clear k_r0 k_r1
      clear h_p
      obtain ⟨V27, hV⟩ : ∃ V27, V27 = (V26).alloc (.cells #[.bool s_p, .slice A_p n_p c_p] 33) := ⟨_, rfl⟩
      rw [← hV] at x_y x_c x_q x_r x_p low ⊢
      clear hV
      obtain ⟨p27, hp⟩ : ∃ p27, p27 = V26.heap.size := ⟨_, rfl⟩
      rw [← hp] at x_p ⊢
      clear hp
      refine (add_ok (zq * zay) zr _ _ V27 x_p.2 x_r.2 HIp.out HIr.out HIu.out).mono ?_
      rintro e V28 ⟨⟨u_u, rfl, h_u⟩, hB⟩
      replace x_y := x_y.later hB
      replace x_c := x_c.later hB
      replace x_q := x_q.later hB
      replace x_r := x_r.later hB
      replace x_p := x_p.later hB
      replace low := low.trans (hB.mono low.size)
      clear hB
      skip
      clear x_q
      clear x_p
      have lt_c := x_c.lt
      have lt_r := x_r.lt
      have lt_w := low.size
      obtain ⟨s_u, A_u, n_u, c_u, rfl⟩ := h_u.form
      have x_u := WB.new h_u
      replace x_y := x_y.later (alloc_low (V28) (.cells #[.bool s_u, .slice A_u n_u c_u] 33))
      replace x_c := x_c.later (alloc_low (V28) (.cells #[.bool s_u, .slice A_u n_u c_u] 33))
      replace x_r := x_r.later (alloc_low (V28) (.cells #[.bool s_u, .slice A_u n_u c_u] 33))
      replace h_u := h_u.later (alloc_low (V28) (.cells #[.bool s_u, .slice A_u n_u c_u] 33)) (alloc_low (V28) (.cells #[.bool s_u, .slice A_u n_u c_u] 33)).size
      replace low := low.trans ((alloc_low (V28) (.cells #[.bool s_u, .slice A_u n_u c_u] 33)).mono low.size)
      obtain ⟨m_y0, m_y1, -, -⟩ := x_y.cells
      have h_sz := x_y.2
      have x_sz := WB.new h_sz
      simp only [World.size_alloc] at x_sz
      replace x_y := x_y.later (alloc_low ((V28).alloc (.cells #[.bool s_u, .slice A_u n_u c_u] 33)) (.cells #[.bool s_y, .slice A_y n_y c_y] 33))
      replace x_c := x_c.later (alloc_low ((V28).alloc (.cells #[.bool s_u, .slice A_u n_u c_u] 33)) (.cells #[.bool s_y, .slice A_y n_y c_y] 33))
      replace x_r := x_r.later (alloc_low ((V28).alloc (.cells #[.bool s_u, .slice A_u n_u c_u] 33)) (.cells #[.bool s_y, .slice A_y n_y c_y] 33))
      replace x_u := x_u.later (alloc_low ((V28).alloc (.cells #[.bool s_u, .slice A_u n_u c_u] 33)) (.cells #[.bool s_y, .slice A_y n_y c_y] 33))
      replace low := low.trans ((alloc_low ((V28).alloc (.cells #[.bool s_u, .slice A_u n_u c_u] 33)) (.cells #[.bool s_y, .slice A_y n_y c_y] 33)).mono low.size)
      clear h_sz
      obtain ⟨k_y0, k_y1, -, -⟩ := x_y.cells
      go_wp2_with fail
      clear k_y0 k_y1 m_y0 m_y1
      obtain ⟨V29, hV⟩ : ∃ V29, V29 = ((V28).alloc (.cells #[.bool s_u, .slice A_u n_u c_u] 33)).alloc (.cells #[.bool s_y, .slice A_y n_y c_y] 33) := ⟨_, rfl⟩
      rw [← hV] at x_c x_y x_r x_u x_sz low ⊢
      clear hV h_u
      obtain ⟨p29, hp⟩ : ∃ p29, p29 = V28.heap.size := ⟨_, rfl⟩
      rw [← hp] at x_u x_sz lt_c lt_r lt_w ⊢
      clear hp
      refine (sign_any zay _ V29 x_y.2).mono ?_
      rintro e V30 ⟨rfl, hB⟩
      replace x_y := x_y.later hB
      replace x_c := x_c.later hB
      replace x_r := x_r.later hB
      replace x_u := x_u.later hB
      replace x_sz := x_sz.later hB
      replace low := low.trans (hB.mono low.size)
      clear hB
      by_cases hneg : zay < 0
      · skip
        have HZS : Hid (zr < -zay) := Lib.hid (by have := HR1.out; omega)
        rw [cmpI_lt hneg]
        clear hneg hy0
        obtain ⟨k_y0, k_y1, -, -⟩ := x_y.cells
        go_wp2_with fail
        clear k_y0 k_y1
        refine (neg_any zay _ V30 x_y.2 (by have := HIy.out.len; omega)).mono ?_
        rintro e V31 ⟨⟨u_ng, rfl, h_ng⟩, hB⟩
        replace x_y := x_y.later hB
        replace x_c := x_c.later hB
        replace x_r := x_r.later hB
        replace x_u := x_u.later hB
        replace x_sz := x_sz.later hB
        replace low := low.trans (hB.mono low.size)
        clear hB
        obtain ⟨s_ng, A_ng, n_ng, c_ng, rfl⟩ := h_ng.form
        obtain ⟨z0, z1, z2, z3⟩ := x_sz.cells
        have bt := But.set2 V31.heap.size (p29 + 1) V31 (.bool s_ng) (.slice A_ng n_ng c_ng)
        replace x_u := x_u.but x_sz.1 bt (by omega)
        replace x_c := x_c.but x_sz.1 bt (by omega)
        replace x_r := x_r.but x_sz.1 bt (by omega)
        replace x_sz := x_sz.put h_ng
        replace low := low.trans (bt.low.mono (by omega))
        clear bt h_ng x_y
        obtain ⟨k_u0, k_u1, -, -⟩ := x_u.cells
        obtain ⟨k_c0, k_c1, -, -⟩ := x_c.cells
        go_wp2_with fail
        clear k_u0 k_u1 k_c0 k_c1 z0 z1 z2 z3
        obtain ⟨V32, hV⟩ : ∃ V32, V32 = (((V31).setCell ⟨p29 + 1, 0, none⟩ (.bool s_ng)).setCell ⟨p29 + 1, 1, none⟩ (.slice A_ng n_ng c_ng)) := ⟨_, rfl⟩
        rw [← hV] at x_c x_r x_u x_sz low ⊢
        clear hV
        refine (compare_any (zq * zay + zr) ((zax + zay) * zaz) _ _ V32 x_u.2 x_c.2 (by have := HIu.out.len; omega) (by have := HIc.out.len; omega)).mono ?_
        rintro e V33 ⟨rfl, hB⟩
        replace x_c := x_c.later hB
        replace x_r := x_r.later hB
        replace x_u := x_u.later hB
        replace x_sz := x_sz.later hB
        replace low := low.trans (hB.mono low.size)
        clear hB
        rw [cmpI_eq HPR.out]
        obtain ⟨k_r0, k_r1, -, -⟩ := x_r.cells
        go_wp2_with fail
        clear k_r0 k_r1
        refine (sign_any zr _ V33 x_r.2).mono ?_
        rintro e V34 ⟨rfl, hB⟩
        replace x_c := x_c.later hB
        replace x_r := x_r.later hB
        replace x_u := x_u.later hB
        replace x_sz := x_sz.later hB
        replace low := low.trans (hB.mono low.size)
        clear hB
        obtain ⟨cv, hcv⟩ : ∃ cv, cv = cmpI zr 0 := ⟨_, rfl⟩
        have hcv0 : (0 : Int) ≤ cv := by rw [hcv]; rcases cmpI_cases zr 0 with ⟨h1, h2⟩ | ⟨h1, h2⟩ | ⟨h1, h2⟩ <;> (have := HR0.out; omega)
        rw [← hcv]
        clear hcv
        obtain ⟨k_r0, k_r1, -, -⟩ := x_r.cells
        obtain ⟨k_sz0, k_sz1, -, -⟩ := x_sz.cells
        go_wp2_with fail
        clear k_r0 k_r1 k_sz0 k_sz1
        refine (compare_any zr (-zay) _ _ V34 x_r.2 x_sz.2 (by have := HIr.out.len; omega) (by rw [Int.natAbs_neg]; have := HIy.out.len; omega)).mono ?_
        rintro e V35 ⟨rfl, hB⟩
        replace x_c := x_c.later hB
        replace x_r := x_r.later hB
        replace x_u := x_u.later hB
        replace x_sz := x_sz.later hB
        replace low := low.trans (hB.mono low.size)
        clear hB
        rw [cmpI_lt HZS.out]
        clear HZS
        go_wp2_with fail
        refine (lives_any V35).mono ?_
        rintro e V36 ⟨rfl, hB⟩
        replace x_c := x_c.later hB
        replace x_r := x_r.later hB
        replace x_u := x_u.later hB
        replace x_sz := x_sz.later hB
        replace low := low.trans (hB.mono low.size)
        clear hB
        go_wp2_with fail
        go_ret
        exact ⟨rfl, low⟩
      · skip
        have HZS : Hid (zr < zay) := Lib.hid (by have := HR1.out; omega)
        rw [cmpI_gt (show 0 < zay by omega)]
        clear hneg hy0 lt_c lt_r lt_w
        obtain ⟨k_u0, k_u1, -, -⟩ := x_u.cells
        obtain ⟨k_c0, k_c1, -, -⟩ := x_c.cells
        go_wp2_with fail
        clear k_u0 k_u1 k_c0 k_c1
        refine (compare_any (zq * zay + zr) ((zax + zay) * zaz) _ _ V30 x_u.2 x_c.2 (by have := HIu.out.len; omega) (by have := HIc.out.len; omega)).mono ?_
        rintro e V31 ⟨rfl, hB⟩
        replace x_y := x_y.later hB
        replace x_c := x_c.later hB
        replace x_r := x_r.later hB
        replace x_u := x_u.later hB
        replace x_sz := x_sz.later hB
        replace low := low.trans (hB.mono low.size)
        clear hB
        rw [cmpI_eq HPR.out]
        obtain ⟨k_r0, k_r1, -, -⟩ := x_r.cells
        go_wp2_with fail
        clear k_r0 k_r1
        refine (sign_any zr _ V31 x_r.2).mono ?_
        rintro e V32 ⟨rfl, hB⟩
        replace x_y := x_y.later hB
        replace x_c := x_c.later hB
        replace x_r := x_r.later hB
        replace x_u := x_u.later hB
        replace x_sz := x_sz.later hB
        replace low := low.trans (hB.mono low.size)
        clear hB
        obtain ⟨cv, hcv⟩ : ∃ cv, cv = cmpI zr 0 := ⟨_, rfl⟩
        have hcv0 : (0 : Int) ≤ cv := by rw [hcv]; rcases cmpI_cases zr 0 with ⟨h1, h2⟩ | ⟨h1, h2⟩ | ⟨h1, h2⟩ <;> (have := HR0.out; omega)
        rw [← hcv]
        clear hcv
        obtain ⟨k_r0, k_r1, -, -⟩ := x_r.cells
        obtain ⟨k_sz0, k_sz1, -, -⟩ := x_sz.cells
        go_wp2_with fail
        clear k_r0 k_r1 k_sz0 k_sz1
        refine (compare_any zr (zay) _ _ V32 x_r.2 x_sz.2 (by have := HIr.out.len; omega) (by have := HIy.out.len; omega)).mono ?_
        rintro e V33 ⟨rfl, hB⟩
        replace x_y := x_y.later hB
        replace x_c := x_c.later hB
        replace x_r := x_r.later hB
        replace x_u := x_u.later hB
        replace x_sz := x_sz.later hB
        replace low := low.trans (hB.mono low.size)
        clear hB
        rw [cmpI_lt HZS.out]
        clear HZS
        go_wp2_with fail
        refine (lives_any V33).mono ?_
        rintro e V34 ⟨rfl, hB⟩
        replace x_y := x_y.later hB
        replace x_c := x_c.later hB
        replace x_r := x_r.later hB
        replace x_u := x_u.later hB
        replace x_sz := x_sz.later hB
        replace low := low.trans (hB.mono low.size)
        clear hB
        go_wp2_with fail
        go_ret
        exact ⟨rfl, low⟩
end Go.Proofs.YtmpdoikdadjneaaDoor
