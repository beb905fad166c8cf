/- The law WideOrder, walked. -/
import Derived.Test.YtmpdoikdadjneaaDoorCL
import Derived.Test.YtmpdoikdadjneaaDoorCUnum
import Derived.Test.YtmpdoikdadjneaaDoorCUnear
import Derived.Test.YtmpdoikdadjneaaDoorCUelem
namespace Go.Proofs.YtmpdoikdadjneaaDoor
open Go.RowKit Go.Shelf Hb Vm Ds Vr

set_option maxRecDepth 100000 in
set_option maxHeartbeats 16000000 in
theorem WideOrder_walk (w : World) (a0 : Option Addr) (n c : Nat) (xs : List Int) (r : Rd w w.heap.size a0 n (xs.map iv)) (bd : ∀ y ∈ xs, -9223372036854775808 ≤ y ∧ y ≤ 9223372036854775807) (hnc : n ≤ c) (hc : c ≤ maxLen) (a1 : Int) (wa1 : (Lit.int .i64 a1).wf = true) :
    Calls Tryd.prog 8 #[.slice a0 n c, .int .i64 a1] w fun e W' => e = .returned (.bool true) ∧ Below w.heap.size w W' := by
  have low : Below w.heap.size w w := Below.refl _ _
  have hn : n ≤ maxLen := by omega
  have BD := Lib.hid bd
  clear bd
  go_enter Tryd.func8, Tryd.ntmps8
  go_wp2_with fail
  have HA1 := Lib.hid (bounds_i64 wa1)
  clear wa1
  refine (number_any a0 n c xs BD.out 0 0 rfl (by decide) hn w (r.later low low.size)).mono ?_
  rintro e V1 ⟨⟨u_a, za, rfl, h_a, hza⟩, hB⟩
  replace low := low.trans (hB.mono low.size)
  clear hB
  obtain ⟨s_a, A_a, n_a, c_a, rfl⟩ := h_a.form
  have x_a := NB.new h_a
  replace h_a := h_a.later (alloc_low (V1) (.cells #[.bool s_a, .slice A_a n_a c_a] 25)) (alloc_low (V1) (.cells #[.bool s_a, .slice A_a n_a c_a] 25)).size
  replace low := low.trans ((alloc_low (V1) (.cells #[.bool s_a, .slice A_a n_a c_a] 25)).mono low.size)
  go_wp2_with fail
  clear h_a
  obtain ⟨V2, hV⟩ : ∃ V2, V2 = (V1).alloc (.cells #[.bool s_a, .slice A_a n_a c_a] 25) := ⟨_, rfl⟩
  rw [← hV] at x_a low ⊢
  clear hV
  obtain ⟨p2, hp⟩ : ∃ p2, p2 = V1.heap.size := ⟨_, rfl⟩
  rw [← hp] at x_a ⊢
  clear hp
  have HSa := Lib.hid hza
  have HLa := Lib.hid (Nat.le_trans (ds_two hza) (show 270 ≤ 100000 by decide))
  have HIa := Lib.hid (inR_sm (hza.mono (show 270 ≤ 16384 by decide)))
  clear hza
  have hk : ∀ V, Below V2.heap.size V2 V → V.cell? ⟨p2, 0, none⟩ = some (.bool s_a) ∧ V.cell? ⟨p2, 1, none⟩ = some (.slice A_a n_a c_a) ∧ Below V2.heap.size V2 V := fun V hV => ⟨(x_a.later hV).cells.1, (x_a.later hV).cells.2.1, hV⟩
  have HK := Lib.hid hk
  clear hk
  have hst : Below V2.heap.size V2 V2.drew := (Below.refl _ _).drew
  have hc1 : ∀ V, Below V2.heap.size V2 V → Calls Tryd.prog 13 #[.slice a0 n c, .int .i64 6] V fun e W' => (∃ u z, e = .returned u ∧ Ni W' W'.heap.size u z ∧ Sm z 270 ∧ Below V.heap.size V W') ∧ Below V2.heap.size V2 W' := fun V hV => (number_any a0 n c xs BD.out 6 6 rfl (by decide) hn V (r.later (low.trans (hV.mono low.size)) (low.trans (hV.mono low.size)).size)).mono fun _ _ ⟨⟨u, z, he, hu, hz⟩, h⟩ => ⟨⟨u, z, he, hu, hz, h⟩, hV.trans (h.mono hV.size)⟩
  have HC1 := Lib.hid hc1
  clear hc1
  have hc2 : ∀ V, Below V2.heap.size V2 V → Calls Tryd.prog 35 #[.int .i64 a1, .int .i64 1] V fun e W' => (∃ z : Int, e = .returned (.int .i64 z) ∧ (-1 ≤ z ∧ z ≤ 1) ∧ Below V.heap.size V W') ∧ Below V2.heap.size V2 W' := fun V hV => (bound_any a1 1 HA1.out (by decide) V).mono fun _ W' ⟨⟨z, he, h1, h2⟩, hw⟩ => ⟨⟨z, he, ⟨h1, h2⟩, hw ▸ Below.refl _ _⟩, hw ▸ hV⟩
  have HC2 := Lib.hid hc2
  clear hc2
  have hc3 : ∀ V, Below V2.heap.size V2 V → ∀ z : Int, -1 ≤ z ∧ z ≤ 1 → Calls Tryd.prog 23 #[.int .i64 z] V fun e W' => (∃ u, e = .returned u ∧ Ni W' W'.heap.size u z ∧ Below V.heap.size V W') ∧ Below V2.heap.size V2 W' := fun V hV z hz => (of_any z (by omega) V).mono fun _ _ ⟨⟨u, he, hu⟩, h⟩ => ⟨⟨u, he, hu, h⟩, hV.trans (h.mono hV.size)⟩
  have HC3 := Lib.hid hc3
  clear hc3
  have hc4 : ∀ V, Below V2.heap.size V2 V → ∀ v (z : Int), Ni V V.heap.size v z → -1 ≤ z ∧ z ≤ 1 → Calls Tryd.prog 29 #[.agg #[.bool s_a, .slice A_a n_a c_a], v] V fun e W' => (∃ u, e = .returned u ∧ Ni W' W'.heap.size u (za + z) ∧ Below V.heap.size V W') ∧ Below V2.heap.size V2 W' := fun V hV v z hv hz => (nadd_any za z _ v V (x_a.later hV).2 hv HLa.out (Nat.le_trans (ds_two (k := 2) (sm_small (b := 4) rfl (by omega))) (by decide))).mono fun _ _ ⟨⟨u, he, hu⟩, h⟩ => ⟨⟨u, he, hu, h⟩, hV.trans (h.mono hV.size)⟩
  have HC4 := Lib.hid hc4
  clear hc4
  have hc5 : ∀ V, Below V2.heap.size V2 V → Calls Tryd.prog 36 #[.agg #[.bool s_a, .slice A_a n_a c_a]] V fun e W' => (∃ u, e = .returned u ∧ Ni W' W'.heap.size u (-za) ∧ Below V.heap.size V W') ∧ Below V2.heap.size V2 W' := fun V hV => (nneg_any za _ V (x_a.later hV).2 HLa.out).mono fun _ _ ⟨⟨u, he, hu⟩, h⟩ => ⟨⟨u, he, hu, h⟩, hV.trans (h.mono hV.size)⟩
  have HC5 := Lib.hid hc5
  clear hc5
  go_region_held3 (fun w' => w'.cell? ⟨p2, 0, none⟩ = some (.bool s_a) ∧ w'.cell? ⟨p2, 1, none⟩ = some (.slice A_a n_a c_a) ∧ Below V2.heap.size V2 w')
    (first
      | exact HK.out _ hst
      | exact HK.out _ (hB5.alloc hB5.size _)
      | exact HK.out _ hB5
      | exact HK.out _ hB4
      | exact HK.out _ hB3
      | exact HK.out _ hB2
      | exact HK.out _ hB1)
    (first
      | (go_at_call 13; refine (HC1.out _ (by assumption)).mono ?_; rintro e U1 ⟨⟨u1, z1, rfl, hu1, hz1, hD1⟩, hB1⟩; have HZ1 := Lib.hid hz1; clear hz1; obtain ⟨s1, A1, n1, c1, rfl⟩ := hu1.form)
      | (go_at_call 35; refine (HC2.out _ (by assumption)).mono ?_; rintro e U2 ⟨⟨o, rfl, ho, hD2⟩, hB2⟩; replace hu1 := hu1.later hD2 hD2.size; have HO := Lib.hid ho; clear ho)
      | (go_at_call 23; refine (HC3.out _ (by assumption) _ HO.out).mono ?_; rintro e U3 ⟨⟨u3, rfl, hu3, hD3⟩, hB3⟩; replace hu1 := hu1.later hD3 hD3.size)
      | (go_at_call_of 29 n_a; refine (HC4.out _ (by assumption) _ _ hu3 HO.out).mono ?_; rintro e U4 ⟨⟨u4, rfl, hu4, hD4⟩, hB4⟩; replace hu1 := hu1.later hD4 hD4.size; obtain ⟨s4, A4, n4, c4, rfl⟩ := hu4.form)
      | (go_at_call_of 36 n_a; refine (HC5.out _ (by assumption)).mono ?_; rintro e U5 ⟨⟨u5, rfl, hu5, hD5⟩, hB5⟩; replace hu1 := hu1.later hD5 hD5.size; replace hu4 := hu4.later hD5 hD5.size; obtain ⟨s5, A5, n5, c5, rfl⟩ := hu5.form))
  clear HK hst HC1 HC2 HC3 HC4 HC5 hu3 hD1 hD2 hD3 hD4 hD5 hB1 hB2 hB3 hB4
  replace x_a := x_a.later hB5
  replace low := low.trans (hB5.mono low.size)
  clear hB5
  have hrow := Row.new U5 25 [.bool s1, .slice A1 n1 c1, .bool s4, .slice A4 n4 c4, .bool s5, .slice A5 n5 c5]
  have hBn := alloc_low U5 (.cells #[.bool s1, .slice A1 n1 c1, .bool s4, .slice A4 n4 c4, .bool s5, .slice A5 n5 c5] 25)
  have E0 : NE (U5.alloc (.cells #[.bool s1, .slice A1 n1 c1, .bool s4, .slice A4 n4 c4, .bool s5, .slice A5 n5 c5] 25)) U5.heap.size 0 s1 A1 n1 c1 (z1) := NE.of_row hrow rfl rfl (hu1.later hBn hBn.size)
  have E1 : NE (U5.alloc (.cells #[.bool s1, .slice A1 n1 c1, .bool s4, .slice A4 n4 c4, .bool s5, .slice A5 n5 c5] 25)) U5.heap.size 1 s4 A4 n4 c4 (za + o) := NE.of_row hrow rfl rfl (hu4.later hBn hBn.size)
  have E2 : NE (U5.alloc (.cells #[.bool s1, .slice A1 n1 c1, .bool s4, .slice A4 n4 c4, .bool s5, .slice A5 n5 c5] 25)) U5.heap.size 2 s5 A5 n5 c5 (-za) := NE.of_row hrow rfl rfl (hu5.later hBn hBn.size)
  have HS1 : Hid (Sm (za + o) 272) := Lib.hid ((HSa.out.mono (show 270 ≤ 271 by decide)).add (sm_small (k := 2) (b := 4) rfl (by have := HO.out; omega) |>.mono (by decide)))
  clear hu1 hu4 hu5 hrow
  replace x_a := x_a.later hBn
  replace low := low.trans (hBn.mono low.size)
  clear hBn
  obtain ⟨VA, hVA⟩ : ∃ VA, VA = U5.alloc (.cells #[.bool s1, .slice A1 n1 c1, .bool s4, .slice A4 n4 c4, .bool s5, .slice A5 n5 c5] 25) := ⟨_, rfl⟩
  rw [← hVA] at E0 E1 E2 x_a low ⊢
  clear hVA
  obtain ⟨g, hg⟩ : ∃ g, g = U5.heap.size := ⟨_, rfl⟩
  rw [← hg] at E0 E1 E2 ⊢
  clear hg
  obtain ⟨k_a0, k_a1, -, -⟩ := x_a.cells
  go_wp2_with fail
  clear k_a0 k_a1
  refine (wider_ok za _ VA x_a.2 HIa.out).mono ?_
  rintro e V3 ⟨⟨u_x, rfl, h_x⟩, hB⟩
  replace x_a := x_a.later hB
  replace E0 := E0.later hB
  replace E1 := E1.later hB
  replace E2 := E2.later hB
  replace low := low.trans (hB.mono low.size)
  clear hB
  obtain ⟨s_x, A_x, n_x, c_x, rfl⟩ := h_x.form
  have x_x := WB.new h_x
  replace x_a := x_a.later (alloc_low (V3) (.cells #[.bool s_x, .slice A_x n_x c_x] 33))
  replace h_x := h_x.later (alloc_low (V3) (.cells #[.bool s_x, .slice A_x n_x c_x] 33)) (alloc_low (V3) (.cells #[.bool s_x, .slice A_x n_x c_x] 33)).size
  replace E0 := E0.later (alloc_low (V3) (.cells #[.bool s_x, .slice A_x n_x c_x] 33))
  replace E1 := E1.later (alloc_low (V3) (.cells #[.bool s_x, .slice A_x n_x c_x] 33))
  replace E2 := E2.later (alloc_low (V3) (.cells #[.bool s_x, .slice A_x n_x c_x] 33))
  replace low := low.trans ((alloc_low (V3) (.cells #[.bool s_x, .slice A_x n_x c_x] 33)).mono low.size)
  go_wp2_with fail
  clear h_x
  obtain ⟨V4, hV⟩ : ∃ V4, V4 = (V3).alloc (.cells #[.bool s_x, .slice A_x n_x c_x] 33) := ⟨_, rfl⟩
  rw [← hV] at x_a x_x E0 E1 E2 low ⊢
  clear hV
  obtain ⟨p4, hp⟩ : ∃ p4, p4 = V3.heap.size := ⟨_, rfl⟩
  rw [← hp] at x_x ⊢
  clear hp
  go_loopw [9] (fun iv W => ∃ i : Nat, iv = .int .i64 i ∧ i ≤ 3 ∧ NE W g 0 s1 A1 n1 c1 z1 ∧ NE W g 1 s4 A4 n4 c4 (za + o) ∧ NE W g 2 s5 A5 n5 c5 (-za) ∧ NB W p2 s_a A_a n_a c_a za ∧ WB W p4 s_x A_x n_x c_x za ∧ Below w.heap.size w W) (fun iv _ => 3 - (intOf iv).toNat)
  case atStart => exact ⟨0, rfl, by omega, E0, E1, E2, x_a, x_x, low⟩
  case round =>
    clear E0 E1 E2 x_a x_x low
    obtain ⟨i, rfl, hi, E0, E1, E2, x_a, x_x, low⟩ := hrel
    obtain ⟨W0, hW0⟩ : ∃ W0, W0 = wr := ⟨_, rfl⟩
    rw [← hW0] at E0 E1 E2 x_a x_x low ⊢
    clear hW0
    by_cases hi3 : i = 3
    · skip
      subst hi3
      have hlt : ¬ ((3 : Nat) : Int) < 3 := by decide
      clear E0 E1 E2
      go_wp2_with fail
      have hk : ∀ V, Below W0.heap.size W0 V → V.cell? ⟨p4, 0, none⟩ = some (.bool s_x) ∧ V.cell? ⟨p4, 1, none⟩ = some (.slice A_x n_x c_x) ∧ V.cell? ⟨p2, 0, none⟩ = some (.bool s_a) ∧ V.cell? ⟨p2, 1, none⟩ = some (.slice A_a n_a c_a) ∧ Below W0.heap.size W0 V := fun V hV => ⟨(x_x.later hV).cells.1, (x_x.later hV).cells.2.1, (x_a.later hV).cells.1, (x_a.later hV).cells.2.1, hV⟩
      have HK := Lib.hid hk
      clear hk
      have hst : Below W0.heap.size W0 W0.drew := (Below.refl _ _).drew
      obtain ⟨cz, hcz⟩ : ∃ cz, cz = cmpI za 0 := ⟨_, rfl⟩
      have hc1 : ∀ V, Below W0.heap.size W0 V → Calls Tryd.prog 39 #[.agg #[.bool s_x, .slice A_x n_x c_x]] V fun e W' => (e = .returned (.int .i64 cz)) ∧ Below W0.heap.size W0 W' := fun V hV => (sign_any za _ V (x_x.later hV).2).mono fun _ _ ⟨he, h⟩ => ⟨by rw [he, hcz], hV.trans (h.mono hV.size)⟩
      have HC1 := Lib.hid hc1
      clear hc1
      have hc2 : ∀ V, Below W0.heap.size W0 V → Calls Tryd.prog 38 #[.agg #[.bool s_a, .slice A_a n_a c_a], .agg #[.bool false, .slice none 0 0]] V fun e W' => (e = .returned (.int .i64 cz)) ∧ Below W0.heap.size W0 W' := fun V hV => (ncompare_any za 0 _ _ V (x_a.later hV).2 (Ni.zero _ _) HLa.out (by decide)).mono fun _ _ ⟨he, h⟩ => ⟨by rw [he, hcz], hV.trans (h.mono hV.size)⟩
      have HC2 := Lib.hid hc2
      clear hc2
      have hc3 : ∀ V, Below W0.heap.size W0 V → Calls Tryd.prog 40 #[.agg #[.bool s_x, .slice A_x n_x c_x]] V fun e W' => (∃ u, e = .returned u ∧ Wi W' W'.heap.size u (-za) ∧ Below V.heap.size V W') ∧ Below W0.heap.size W0 W' := fun V hV => (neg_any za _ V (x_x.later hV).2 (by have := HIa.out.len; omega)).mono fun _ _ ⟨⟨u, he, hu⟩, h⟩ => ⟨⟨u, he, hu, h⟩, hV.trans (h.mono hV.size)⟩
      have HC3 := Lib.hid hc3
      clear hc3
      have hc4 : ∀ V, Below W0.heap.size W0 V → Calls Tryd.prog 36 #[.agg #[.bool s_a, .slice A_a n_a c_a]] V fun e W' => (∃ u, e = .returned u ∧ Ni W' W'.heap.size u (-za) ∧ Below V.heap.size V W') ∧ Below W0.heap.size W0 W' := fun V hV => (nneg_any za _ V (x_a.later hV).2 HLa.out).mono fun _ _ ⟨⟨u, he, hu⟩, h⟩ => ⟨⟨u, he, hu, h⟩, hV.trans (h.mono hV.size)⟩
      have HC4 := Lib.hid hc4
      clear hc4
      have hc5 : ∀ V, Below W0.heap.size W0 V → ∀ v u, Wi V V.heap.size v (-za) → Ni V V.heap.size u (-za) → Calls Tryd.prog 18 #[v, u] V fun e W' => (e = .returned (.bool true)) ∧ Below W0.heap.size W0 W' := fun V hV v u hv hu => (equal_t (-za) (-za) rfl v u V hv hu (by unfold InR; rw [Int.natAbs_neg]; exact HIa.out)).mono fun _ _ ⟨he, h⟩ => ⟨he, hV.trans (h.mono hV.size)⟩
      have HC5 := Lib.hid hc5
      clear hc5
      have hc6 : ∀ V, Below W0.heap.size W0 V → Calls Tryd.prog 20 #[] V fun e W' => (e = .returned (.bool true)) ∧ Below W0.heap.size W0 W' := fun V hV => (lives_any V).mono fun _ _ ⟨he, h⟩ => ⟨he, hV.trans (h.mono hV.size)⟩
      have HC6 := Lib.hid hc6
      clear hc6
      clear hcz
      clear x_x x_a
      go_region_held3 (fun w' => w'.cell? ⟨p4, 0, none⟩ = some (.bool s_x) ∧ w'.cell? ⟨p4, 1, none⟩ = some (.slice A_x n_x c_x) ∧ w'.cell? ⟨p2, 0, none⟩ = some (.bool s_a) ∧ w'.cell? ⟨p2, 1, none⟩ = some (.slice A_a n_a c_a) ∧ Below W0.heap.size W0 w')
        (first
          | exact HK.out _ hst
          | exact HK.out _ hB6
          | exact HK.out _ hB5
          | exact HK.out _ hB4
          | exact HK.out _ hB3
          | exact HK.out _ hB2
          | exact HK.out _ hB1)
        (first
          | (go_at_call_of 39 n_x; refine (HC1.out _ (by assumption)).mono ?_; rintro e U1 ⟨rfl, hB1⟩)
          | (go_at_call_of 38 n_a; refine (HC2.out _ (by assumption)).mono ?_; rintro e U2 ⟨rfl, hB2⟩)
          | (go_at_call_of 40 n_x; refine (HC3.out _ (by assumption)).mono ?_; rintro e U3 ⟨⟨u3, rfl, hu3, hD3⟩, hB3⟩)
          | (go_at_call_of 36 n_a; refine (HC4.out _ (by assumption)).mono ?_; rintro e U4 ⟨⟨u4, rfl, hu4, hD4⟩, hB4⟩; replace hu3 := hu3.later hD4 hD4.size)
          | (go_at_call 18; refine (HC5.out _ (by assumption) _ _ hu3 hu4).mono ?_; rintro e U5 ⟨rfl, hB5⟩)
          | (go_at_call 20; refine (HC6.out _ (by assumption)).mono ?_; rintro e U6 ⟨rfl, hB6⟩))
      all_goals
        go_wp2_with fail
        go_ret
        first
          | exact ⟨rfl, low.trans (hB6.mono low.size)⟩
          | exact ⟨rfl, low.trans (hB5.mono low.size)⟩
          | exact ⟨rfl, low.trans (hB4.mono low.size)⟩
          | exact ⟨rfl, low.trans (hB3.mono low.size)⟩
          | exact ⟨rfl, low.trans (hB2.mono low.size)⟩
          | exact ⟨rfl, low.trans (hB1.mono low.size)⟩
    · skip
      have hlt : (i : Int) < 3 := by omega
      have hi0 : (0 : Int) ≤ (i : Int) := by omega
      obtain ⟨s, A, n', c', z, hE, hsz⟩ : ∃ s A n c z, NE W0 g i s A n c z ∧ Sm z 272 := by
        have h : i = 0 ∨ i = 1 ∨ i = 2 := by omega
        rcases h with h | h | h <;> subst h
        · exact ⟨_, _, _, _, _, E0, HZ1.out.mono (by decide)⟩
        · exact ⟨_, _, _, _, _, E1, HS1.out⟩
        · exact ⟨_, _, _, _, _, E2, HSa.out.neg.mono (by decide)⟩
      have HIz := Lib.hid (inR_sm (hsz.mono (show 272 ≤ 16384 by decide)))
      have HLz := Lib.hid (Nat.le_trans (ds_two hsz) (show 272 ≤ 100000 by decide))
      clear hsz
      obtain ⟨m0, m1⟩ : W0.cell? ⟨g, i * 2, none⟩ = some (.bool s) ∧ W0.cell? ⟨g, i * 2 + 1, none⟩ = some (.slice A n' c') := ⟨hE.2.1, hE.2.2.1⟩
      go_wp2_with fail
      clear m0 m1
      refine (wider_ok z _ W0 hE.2.2.2 HIz.out).mono ?_
      rintro e V5 ⟨⟨u_y, rfl, h_y⟩, hB⟩
      replace x_a := x_a.later hB
      replace x_x := x_x.later hB
      replace E0 := E0.later hB
      replace E1 := E1.later hB
      replace E2 := E2.later hB
      replace hE := hE.later hB
      replace low := low.trans (hB.mono low.size)
      clear hB
      obtain ⟨s_y, A_y, n_y, c_y, rfl⟩ := h_y.form
      have x_y := WB.new h_y
      replace x_a := x_a.later (alloc_low (V5) (.cells #[.bool s_y, .slice A_y n_y c_y] 33))
      replace x_x := x_x.later (alloc_low (V5) (.cells #[.bool s_y, .slice A_y n_y c_y] 33))
      replace h_y := h_y.later (alloc_low (V5) (.cells #[.bool s_y, .slice A_y n_y c_y] 33)) (alloc_low (V5) (.cells #[.bool s_y, .slice A_y n_y c_y] 33)).size
      replace E0 := E0.later (alloc_low (V5) (.cells #[.bool s_y, .slice A_y n_y c_y] 33))
      replace E1 := E1.later (alloc_low (V5) (.cells #[.bool s_y, .slice A_y n_y c_y] 33))
      replace E2 := E2.later (alloc_low (V5) (.cells #[.bool s_y, .slice A_y n_y c_y] 33))
      replace hE := hE.later (alloc_low (V5) (.cells #[.bool s_y, .slice A_y n_y c_y] 33))
      replace low := low.trans ((alloc_low (V5) (.cells #[.bool s_y, .slice A_y n_y c_y] 33)).mono low.size)
      go_wp2_with fail
      clear h_y
      obtain ⟨V6, hV⟩ : ∃ V6, V6 = (V5).alloc (.cells #[.bool s_y, .slice A_y n_y c_y] 33) := ⟨_, rfl⟩
      rw [← hV] at x_a x_x x_y E0 E1 E2 hE low ⊢
      clear hV
      obtain ⟨p6, hp⟩ : ∃ p6, p6 = V5.heap.size := ⟨_, rfl⟩
      rw [← hp] at x_y ⊢
      clear hp
      have hk : ∀ w' : World, Below V6.heap.size V6 w' → w'.cell? ⟨g, i * 2, none⟩ = some (.bool s) ∧ w'.cell? ⟨g, i * 2 + 1, none⟩ = some (.slice A n' c') ∧ w'.cell? ⟨p4, 0, none⟩ = some (.bool s_x) ∧ w'.cell? ⟨p4, 1, none⟩ = some (.slice A_x n_x c_x) ∧ w'.cell? ⟨p6, 0, none⟩ = some (.bool s_y) ∧ w'.cell? ⟨p6, 1, none⟩ = some (.slice A_y n_y c_y) ∧ w'.cell? ⟨p2, 0, none⟩ = some (.bool s_a) ∧ w'.cell? ⟨p2, 1, none⟩ = some (.slice A_a n_a c_a) ∧ Below V6.heap.size V6 w' := fun V hV => ⟨(hE.later hV).2.1, (hE.later hV).2.2.1, (x_x.later hV).cells.1, (x_x.later hV).cells.2.1, (x_y.later hV).cells.1, (x_y.later hV).cells.2.1, (x_a.later hV).cells.1, (x_a.later hV).cells.2.1, hV⟩
      have HK := Lib.hid hk
      clear hk
      have hst : Below V6.heap.size V6 V6.drew := (Below.refl _ _).drew
      obtain ⟨c1', hc1'⟩ : ∃ c1', c1' = cmpI za z := ⟨_, rfl⟩
      obtain ⟨c2', hc2'⟩ : ∃ c2', c2' = cmpI z za := ⟨_, rfl⟩
      have hp1 : ∀ V, Below V6.heap.size V6 V → Calls Tryd.prog 37 #[.agg #[.bool s_x, .slice A_x n_x c_x], .agg #[.bool s_y, .slice A_y n_y c_y]] V fun e W' => e = .returned (.int .i64 c1') ∧ Below V6.heap.size V6 W' := fun V hV => (compare_any za z _ _ V (x_x.later hV).2 (x_y.later hV).2 (by have := HIa.out.len; omega) (by have := HIz.out.len; omega)).mono fun _ _ ⟨he, h⟩ => ⟨by rw [he, hc1'], hV.trans (h.mono hV.size)⟩
      have hp2 : ∀ V, Below V6.heap.size V6 V → Calls Tryd.prog 37 #[.agg #[.bool s_y, .slice A_y n_y c_y], .agg #[.bool s_x, .slice A_x n_x c_x]] V fun e W' => e = .returned (.int .i64 c2') ∧ Below V6.heap.size V6 W' := fun V hV => (compare_any z za _ _ V (x_y.later hV).2 (x_x.later hV).2 (by have := HIz.out.len; omega) (by have := HIa.out.len; omega)).mono fun _ _ ⟨he, h⟩ => ⟨by rw [he, hc2'], hV.trans (h.mono hV.size)⟩
      have hp3 : ∀ V, Below V6.heap.size V6 V → Calls Tryd.prog 38 #[.agg #[.bool s_a, .slice A_a n_a c_a], .agg #[.bool s, .slice A n' c']] V fun e W' => e = .returned (.int .i64 c1') ∧ Below V6.heap.size V6 W' := fun V hV => (ncompare_any za z _ _ V (x_a.later hV).2 (hE.later hV).2.2.2 HLa.out HLz.out).mono fun _ _ ⟨he, h⟩ => ⟨by rw [he, hc1'], hV.trans (h.mono hV.size)⟩
      have hp4 : ∀ V, Below V6.heap.size V6 V → Calls Tryd.prog 38 #[.agg #[.bool s, .slice A n' c'], .agg #[.bool s_a, .slice A_a n_a c_a]] V fun e W' => e = .returned (.int .i64 c2') ∧ Below V6.heap.size V6 W' := fun V hV => (ncompare_any z za _ _ V (hE.later hV).2.2.2 (x_a.later hV).2 HLz.out HLa.out).mono fun _ _ ⟨he, h⟩ => ⟨by rw [he, hc2'], hV.trans (h.mono hV.size)⟩
      have HP1 := Lib.hid hp1
      have HP2 := Lib.hid hp2
      have HP3 := Lib.hid hp3
      have HP4 := Lib.hid hp4
      have hb1 : (c1' != c1') = false := bne_self_eq_false _
      have hb2 : (c2' != c2') = false := bne_self_eq_false _
      clear hp1 hp2 hp3 hp4 hc1' hc2'
      have HX : Hid (NE V6 g 0 s1 A1 n1 c1 z1 ∧ NE V6 g 1 s4 A4 n4 c4 (za + o) ∧ NE V6 g 2 s5 A5 n5 c5 (-za) ∧ NB V6 p2 s_a A_a n_a c_a za ∧ WB V6 p4 s_x A_x n_x c_x za ∧ Below w.heap.size w V6) := Lib.hid ⟨E0, E1, E2, x_a, x_x, low⟩
      clear E0 E1 E2 hE x_a x_x x_y low
      go_region_held3 (fun w' => w'.cell? ⟨g, i * 2, none⟩ = some (.bool s) ∧ w'.cell? ⟨g, i * 2 + 1, none⟩ = some (.slice A n' c') ∧ w'.cell? ⟨p4, 0, none⟩ = some (.bool s_x) ∧ w'.cell? ⟨p4, 1, none⟩ = some (.slice A_x n_x c_x) ∧ w'.cell? ⟨p6, 0, none⟩ = some (.bool s_y) ∧ w'.cell? ⟨p6, 1, none⟩ = some (.slice A_y n_y c_y) ∧ w'.cell? ⟨p2, 0, none⟩ = some (.bool s_a) ∧ w'.cell? ⟨p2, 1, none⟩ = some (.slice A_a n_a c_a) ∧ Below V6.heap.size V6 w')
        (first
          | exact HK.out _ hst
          | exact HK.out _ hB4
          | exact HK.out _ hB3
          | exact HK.out _ hB2
          | exact HK.out _ hB1)
        (first
          | (have hq := hB3; clear hq; go_at_call 38; refine (HP4.out _ hB3).mono ?_; rintro e U4 ⟨rfl, hB4⟩)
          | (have hq := hB2; clear hq; go_at_call 37; refine (HP2.out _ hB2).mono ?_; rintro e U3 ⟨rfl, hB3⟩)
          | (have hq := hB1; clear hq; go_at_call 38; refine (HP3.out _ hB1).mono ?_; rintro e U2 ⟨rfl, hB2⟩)
          | (go_at_call 37; refine (HP1.out _ (by assumption)).mono ?_; rintro e U1 ⟨rfl, hB1⟩))
      all_goals
        have hBB := hB4
        go_wp2_with fail
        go_roundw
        case rel => exact ⟨i + 1, by first | rfl | go_num, by omega, HX.out.1.later hBB, HX.out.2.1.later hBB, HX.out.2.2.1.later hBB, HX.out.2.2.2.1.later hBB, HX.out.2.2.2.2.1.later hBB, HX.out.2.2.2.2.2.trans (hBB.mono HX.out.2.2.2.2.2.size)⟩
        case measure => simp [intOf]; omega
end Go.Proofs.YtmpdoikdadjneaaDoor
