/- The law WideQuotients, walked. -/
import Derived.Test.YtmpdoikdadjneaaDoorCL
import Derived.Test.YtmpdoikdadjneaaDoorCUnum
import Derived.Test.YtmpdoikdadjneaaDoorCUdiv
import Derived.Test.YtmpdoikdadjneaaDoorCUelem
import Derived.Deep.CutBlock
import Derived.Deep.CutRange
namespace Go.Proofs.YtmpdoikdadjneaaDoor
open Go.RowKit Go.Shelf Hb Vm Ds Vr

theorem three_ready {P : Program} {ops : Array Oper} {Q : Exit → Act → World → Prop} {md : Region.Mode} {S : World → Prop} {i j k : Nat} {o o' o'' : Oper} {fuel : Nat} {listed : Array Bool} {a : Act} {w : World} (hr : Region.ready md ops listed = [i, j, k]) (ho : ops[i]? = some o) (ho' : ops[j]? = some o') (ho'' : ops[k]? = some o'')
    (h : ∀ K' : Act → World → Prop, Shut (∀ a w, S w → (S w → wpAnyH P md ops Q S fuel (listed.setIfInBounds i true) a w) → K' a w) → if Region.wanted o (yielded ops a.tmps) = true then Oper.wp P o a w K' Q else K' (a.put o.dst undef) w)
    (h' : ∀ K' : Act → World → Prop, Shut (∀ a w, S w → (S w → wpAnyH P md ops Q S fuel (listed.setIfInBounds j true) a w) → K' a w) → if Region.wanted o' (yielded ops a.tmps) = true then Oper.wp P o' a w K' Q else K' (a.put o'.dst undef) w)
    (h'' : ∀ K' : Act → World → Prop, Shut (∀ a w, S w → (S w → wpAnyH P md ops Q S fuel (listed.setIfInBounds k true) a w) → K' a w) → if Region.wanted o'' (yielded ops a.tmps) = true then Oper.wp P o'' a w K' Q else K' (a.put o''.dst undef) w) :
    wpAnyH P md ops Q S (fuel + 1) listed a w := wpAnyH_ready hr (by simp) (AllReadyH.cons ho h (AllReadyH.cons ho' h' (AllReadyH.cons ho'' h'' AllReadyH.nil)))
theorem nb_zero' {W : World} {p : Nat} {s : Bool} {A : Option Addr} {n c : Nat} {z : Int} (h : NB W p s A n c z) (hz : z.natAbs = 0) : n = 0 := by
  obtain ⟨u', e', A'', c'', e2, -, -, -⟩ := h.2
  unfold intV at e'
  injection e' with e'
  simp at e'
  rw [e2, hz] at e'
  have := e'.2
  injection this
theorem nb_nonzero {W : World} {p : Nat} {s : Bool} {A : Option Addr} {n c : Nat} {z : Int} (h : NB W p s A n c z) (hz : z ≠ 0) : n ≠ 0 := by
  obtain ⟨u', e', A'', c'', e2, -, -, -⟩ := h.2
  unfold intV at e'
  injection e' with e'
  simp at e'
  rw [e2] at e'
  have h1 := e'.2
  injection h1 with h2 h3 h4
  intro h0
  rw [h0] at h3
  have := (digs_nil (b := 10000) (by decide)).1 h3.symm
  omega
theorem sm_le' {x y : Int} {k : Nat} (h : x.natAbs ≤ y.natAbs) (hy : Sm y k) : Sm x k := Nat.lt_of_le_of_lt h hy
theorem sm_div (x y : Int) (k : Nat) (_hy : y ≠ 0) (hx : Sm x k) : Sm (x / y) (k + 1) := by
  unfold Sm at *
  have h := Int.natAbs_ediv x y
  have h1 : x.natAbs / y.natAbs ≤ x.natAbs := Nat.div_le_self _ _
  rw [Nat.pow_succ]
  split at h <;> omega
theorem NE.but {W W' : World} {g k q : Nat} {s : Bool} {A : Option Addr} {n c : Nat} {z : Int} {t : TypeId} (h : NE W g k s A n c z) {a : Bool} {b : Option Addr} {d e : Nat} (hr : Row W q t [.bool a, .slice b d e]) (hb : But W.heap.size q W W') (hgq : g ≠ q) : NE W' g k s A n c z :=
  ⟨Nat.lt_of_lt_of_le h.1 hb.size, (World.cell?_of_block (hb.block h.1 hgq)).trans h.2.1, (World.cell?_of_block (hb.block h.1 hgq)).trans h.2.2.1, (h.2.2.2.but_struct hr hb).grow hb.size⟩

set_option maxRecDepth 100000 in
set_option maxHeartbeats 16000000 in
theorem WideQuotients_walkR (w : World) (a0 : Option Addr) (n c : Nat) (xs : List Int) (r : Rd w w.heap.size a0 n (xs.map iv)) (bd : ∀ y ∈ xs, -9223372036854775808 ≤ y ∧ y ≤ 9223372036854775807) (hnc : n ≤ c) (hc : c ≤ maxLen) (a1 : Int) (wa1 : -9223372036854775808 ≤ a1 ∧ a1 ≤ 9223372036854775807) :
    Calls Tryd.prog 7 #[.slice a0 n c, .int .i64 a1] w fun e W' => e = .returned (.bool true) ∧ Below w.heap.size w W' := by
  have low : Below w.heap.size w w := Below.refl _ _
  have hn : n ≤ maxLen := by omega
  have BD := Lib.hid bd
  clear bd
  go_enter Tryd.func7, Tryd.ntmps7
  go_wp2_with fail
  refine (number_any a0 n c xs BD.out 0 0 rfl (by decide) hn w (r.later low low.size)).mono ?_
  rintro e V1 ⟨⟨u_a, za, rfl, h_a, hza⟩, hB⟩
  replace low := low.trans (hB.mono low.size)
  clear hB
  obtain ⟨s_a, A_a, n_a, c_a, rfl⟩ := h_a.form
  have x_a := NB.new h_a
  replace h_a := h_a.later (alloc_low (V1) (.cells #[.bool s_a, .slice A_a n_a c_a] 25)) (alloc_low (V1) (.cells #[.bool s_a, .slice A_a n_a c_a] 25)).size
  replace low := low.trans ((alloc_low (V1) (.cells #[.bool s_a, .slice A_a n_a c_a] 25)).mono low.size)
  go_wp2_with fail
  clear h_a
  obtain ⟨V2, hV⟩ : ∃ V2, V2 = (V1).alloc (.cells #[.bool s_a, .slice A_a n_a c_a] 25) := ⟨_, rfl⟩
  rw [← hV] at x_a low ⊢
  clear hV
  obtain ⟨p2, hp⟩ : ∃ p2, p2 = V1.heap.size := ⟨_, rfl⟩
  rw [← hp] at x_a ⊢
  clear hp
  refine (number_any a0 n c xs BD.out 6 6 rfl (by decide) hn V2 (r.later low low.size)).mono ?_
  rintro e V3 ⟨⟨u_b, zb, rfl, h_b, hzb⟩, hB⟩
  replace x_a := x_a.later hB
  replace low := low.trans (hB.mono low.size)
  clear hB
  obtain ⟨s_b, A_b, n_b, c_b, rfl⟩ := h_b.form
  have x_b := NB.new h_b
  replace x_a := x_a.later (alloc_low (V3) (.cells #[.bool s_b, .slice A_b n_b c_b] 25))
  replace h_b := h_b.later (alloc_low (V3) (.cells #[.bool s_b, .slice A_b n_b c_b] 25)) (alloc_low (V3) (.cells #[.bool s_b, .slice A_b n_b c_b] 25)).size
  replace low := low.trans ((alloc_low (V3) (.cells #[.bool s_b, .slice A_b n_b c_b] 25)).mono low.size)
  go_wp2_with fail
  clear h_b
  obtain ⟨V4, hV⟩ : ∃ V4, V4 = (V3).alloc (.cells #[.bool s_b, .slice A_b n_b c_b] 25) := ⟨_, rfl⟩
  rw [← hV] at x_a x_b low ⊢
  clear hV
  obtain ⟨p4, hp⟩ : ∃ p4, p4 = V3.heap.size := ⟨_, rfl⟩
  rw [← hp] at x_b ⊢
  clear hp
  have HSa := Lib.hid hza
  have HSb := Lib.hid hzb
  have HLa := Lib.hid (Nat.le_trans (ds_two hza) (show 270 ≤ 100000 by decide))
  have HLb := Lib.hid (Nat.le_trans (ds_two hzb) (show 270 ≤ 100000 by decide))
  have HSo : Hid (Sm a1 64) := Lib.hid (sm_small (b := 18446744073709551616) rfl (by omega))
  have hzab := hza.mul hzb
  have HSab := Lib.hid hzab
  have HLab := Lib.hid (Nat.le_trans (ds_two hzab) (show 270 + 270 ≤ 100000 by decide))
  have hzbb := hzb.mul hzb
  have HLbb := Lib.hid (Nat.le_trans (ds_two hzbb) (show 270 + 270 ≤ 100000 by decide))
  have HS0 : Hid (Sm za 820) := Lib.hid (hza.mono (by decide))
  have HS1 : Hid (Sm (za * zb + a1) 820) := Lib.hid ((hzab.add (HSo.out.mono (show 64 ≤ 270 + 270 by decide))).mono (by decide))
  have HS2 : Hid (Sm (zb * zb * za) 820) := Lib.hid ((hzbb.mul hza).mono (by decide))
  have HAN := Lib.hid wa1
  clear hza hzb hzab hzbb wa1
  have hk : ∀ V, Below V4.heap.size V4 V → V.cell? ⟨p2, 0, none⟩ = some (.bool s_a) ∧ V.cell? ⟨p2, 1, none⟩ = some (.slice A_a n_a c_a) ∧ V.cell? ⟨p4, 0, none⟩ = some (.bool s_b) ∧ V.cell? ⟨p4, 1, none⟩ = some (.slice A_b n_b c_b) ∧ Below V4.heap.size V4 V := fun V hV => ⟨(x_a.later hV).cells.1, (x_a.later hV).cells.2.1, (x_b.later hV).cells.1, (x_b.later hV).cells.2.1, hV⟩
  have HK := Lib.hid hk
  clear hk
  have hst : Below V4.heap.size V4 V4.drew := (Below.refl _ _).drew
  have hc1 : ∀ V, Below V4.heap.size V4 V → Calls Tryd.prog 32 #[.agg #[.bool s_a, .slice A_a n_a c_a], .agg #[.bool s_b, .slice A_b n_b c_b]] V fun e W' => (∃ u, e = .returned u ∧ Ni W' W'.heap.size u (za * zb) ∧ Below V.heap.size V W') ∧ Below V4.heap.size V4 W' := fun V hV => (nmul_any za zb _ _ V (x_a.later hV).2 (x_b.later hV).2 HLa.out HLb.out).mono fun _ _ ⟨⟨u, he, hu⟩, h⟩ => ⟨⟨u, he, hu, h⟩, hV.trans (h.mono hV.size)⟩
  have HC1 := Lib.hid hc1
  clear hc1
  have hc2 : ∀ V, Below V4.heap.size V4 V → Calls Tryd.prog 23 #[.int .i64 a1] V fun e W' => (∃ u, e = .returned u ∧ Ni W' W'.heap.size u a1 ∧ Below V.heap.size V W') ∧ Below V4.heap.size V4 W' := fun V hV => (of_any a1 HAN.out V).mono fun _ _ ⟨⟨u, he, hu⟩, h⟩ => ⟨⟨u, he, hu, h⟩, hV.trans (h.mono hV.size)⟩
  have HC2 := Lib.hid hc2
  clear hc2
  have hc3 : ∀ V, Below V4.heap.size V4 V → ∀ v u, Ni V V.heap.size v (za * zb) → Ni V V.heap.size u a1 → Calls Tryd.prog 29 #[v, u] V fun e W' => (∃ r, e = .returned r ∧ Ni W' W'.heap.size r (za * zb + a1) ∧ Below V.heap.size V W') ∧ Below V4.heap.size V4 W' := fun V hV v u hv hu => (nadd_any (za * zb) a1 v u V hv hu HLab.out (Nat.le_trans (ds_two HSo.out) (by decide))).mono fun _ _ ⟨⟨u, he, hu⟩, h⟩ => ⟨⟨u, he, hu, h⟩, hV.trans (h.mono hV.size)⟩
  have HC3 := Lib.hid hc3
  clear hc3
  have hc4 : ∀ V, Below V4.heap.size V4 V → Calls Tryd.prog 32 #[.agg #[.bool s_b, .slice A_b n_b c_b], .agg #[.bool s_b, .slice A_b n_b c_b]] V fun e W' => (∃ u, e = .returned u ∧ Ni W' W'.heap.size u (zb * zb) ∧ Below V.heap.size V W') ∧ Below V4.heap.size V4 W' := fun V hV => (nmul_any zb zb _ _ V (x_b.later hV).2 (x_b.later hV).2 HLb.out HLb.out).mono fun _ _ ⟨⟨u, he, hu⟩, h⟩ => ⟨⟨u, he, hu, h⟩, hV.trans (h.mono hV.size)⟩
  have HC4 := Lib.hid hc4
  clear hc4
  have hc5 : ∀ V, Below V4.heap.size V4 V → ∀ v, Ni V V.heap.size v (zb * zb) → Calls Tryd.prog 32 #[v, .agg #[.bool s_a, .slice A_a n_a c_a]] V fun e W' => (∃ u, e = .returned u ∧ Ni W' W'.heap.size u (zb * zb * za) ∧ Below V.heap.size V W') ∧ Below V4.heap.size V4 W' := fun V hV v hv => (nmul_any (zb * zb) za v _ V hv (x_a.later hV).2 HLbb.out HLa.out).mono fun _ _ ⟨⟨u, he, hu⟩, h⟩ => ⟨⟨u, he, hu, h⟩, hV.trans (h.mono hV.size)⟩
  have HC5 := Lib.hid hc5
  clear hc5
  skip
  go_region_held3 (fun w' => w'.cell? ⟨p2, 0, none⟩ = some (.bool s_a) ∧ w'.cell? ⟨p2, 1, none⟩ = some (.slice A_a n_a c_a) ∧ w'.cell? ⟨p4, 0, none⟩ = some (.bool s_b) ∧ w'.cell? ⟨p4, 1, none⟩ = some (.slice A_b n_b c_b) ∧ Below V4.heap.size V4 w')
    (first
      | exact HK.out _ hst
      | exact HK.out _ (hB5.alloc hB5.size _)
      | exact HK.out _ hB5
      | exact HK.out _ hB4
      | exact HK.out _ hB3
      | exact HK.out _ hB2
      | exact HK.out _ hB1)
    (first
      | (go_at_call_of 32 n_a; go_at_call_of 32 n_b; refine (HC1.out _ (by assumption)).mono ?_; rintro e U1 ⟨⟨u1, rfl, hu1, hD1⟩, hB1⟩)
      | (go_at_call 23; refine (HC2.out _ (by assumption)).mono ?_; rintro e U2 ⟨⟨u2, rfl, hu2, hD2⟩, hB2⟩; replace hu1 := hu1.later hD2 hD2.size)
      | (go_at_call 29; refine (HC3.out _ (by assumption) _ _ hu1 hu2).mono ?_; rintro e U3 ⟨⟨u3, rfl, hu3, hD3⟩, hB3⟩; obtain ⟨s3, A3, n3, c3, rfl⟩ := hu3.form)
      | (go_at_call_of 32 n_b; refine (HC4.out _ (by assumption)).mono ?_; rintro e U4 ⟨⟨u4, rfl, hu4, hD4⟩, hB4⟩; replace hu3 := hu3.later hD4 hD4.size)
      | (go_at_call_of 32 n_a; refine (HC5.out _ (by assumption) _ hu4).mono ?_; rintro e U5 ⟨⟨u5, rfl, hu5, hD5⟩, hB5⟩; replace hu3 := hu3.later hD5 hD5.size; obtain ⟨s5, A5, n5, c5, rfl⟩ := hu5.form))
  clear HK hst HC1 HC2 HC3 HC4 HC5 hu1 hu2 hu4 hD1 hD2 hD3 hD4 hD5 hB1 hB2 hB3 hB4
  replace x_a := x_a.later hB5
  replace x_b := x_b.later hB5
  replace low := low.trans (hB5.mono low.size)
  clear hB5
  have hrow := Row.new U5 25 [.bool s_a, .slice A_a n_a c_a, .bool s3, .slice A3 n3 c3, .bool s5, .slice A5 n5 c5]
  have hBn := alloc_low U5 (.cells #[.bool s_a, .slice A_a n_a c_a, .bool s3, .slice A3 n3 c3, .bool s5, .slice A5 n5 c5] 25)
  have E0 : NE (U5.alloc (.cells #[.bool s_a, .slice A_a n_a c_a, .bool s3, .slice A3 n3 c3, .bool s5, .slice A5 n5 c5] 25)) U5.heap.size 0 s_a A_a n_a c_a za := NE.of_row hrow rfl rfl (x_a.2.later hBn hBn.size)
  have E1 : NE (U5.alloc (.cells #[.bool s_a, .slice A_a n_a c_a, .bool s3, .slice A3 n3 c3, .bool s5, .slice A5 n5 c5] 25)) U5.heap.size 1 s3 A3 n3 c3 (za * zb + a1) := NE.of_row hrow rfl rfl (hu3.later hBn hBn.size)
  have E2 : NE (U5.alloc (.cells #[.bool s_a, .slice A_a n_a c_a, .bool s3, .slice A3 n3 c3, .bool s5, .slice A5 n5 c5] 25)) U5.heap.size 2 s5 A5 n5 c5 (zb * zb * za) := NE.of_row hrow rfl rfl (hu5.later hBn hBn.size)
  clear x_a hu3 hu5 hrow
  replace x_b := x_b.later hBn
  replace low := low.trans (hBn.mono low.size)
  clear hBn
  obtain ⟨VA, hVA⟩ : ∃ VA, VA = U5.alloc (.cells #[.bool s_a, .slice A_a n_a c_a, .bool s3, .slice A3 n3 c3, .bool s5, .slice A5 n5 c5] 25) := ⟨_, rfl⟩
  rw [← hVA] at E0 E1 E2 x_b low ⊢
  clear hVA
  obtain ⟨g, hg⟩ : ∃ g, g = U5.heap.size := ⟨_, rfl⟩
  rw [← hg] at E0 E1 E2 ⊢
  clear hg
  have HIb := Lib.hid (inR_sm (HSb.out.mono (show 270 ≤ 16384 by decide)))
  obtain ⟨k_b0, k_b1, -, -⟩ := x_b.cells
  go_wp2_with fail
  clear k_b0 k_b1
  refine (wider_ok zb _ VA x_b.2 HIb.out).mono ?_
  rintro e V5 ⟨⟨u_y, rfl, h_y⟩, hB⟩
  replace x_b := x_b.later hB
  replace E0 := E0.later hB
  replace E1 := E1.later hB
  replace E2 := E2.later hB
  replace low := low.trans (hB.mono low.size)
  clear hB
  obtain ⟨s_y, A_y, n_y, c_y, rfl⟩ := h_y.form
  have x_y := WB.new h_y
  replace x_b := x_b.later (alloc_low (V5) (.cells #[.bool s_y, .slice A_y n_y c_y] 33))
  replace h_y := h_y.later (alloc_low (V5) (.cells #[.bool s_y, .slice A_y n_y c_y] 33)) (alloc_low (V5) (.cells #[.bool s_y, .slice A_y n_y c_y] 33)).size
  replace E0 := E0.later (alloc_low (V5) (.cells #[.bool s_y, .slice A_y n_y c_y] 33))
  replace E1 := E1.later (alloc_low (V5) (.cells #[.bool s_y, .slice A_y n_y c_y] 33))
  replace E2 := E2.later (alloc_low (V5) (.cells #[.bool s_y, .slice A_y n_y c_y] 33))
  replace low := low.trans ((alloc_low (V5) (.cells #[.bool s_y, .slice A_y n_y c_y] 33)).mono low.size)
  go_wp2_with fail
  clear h_y
  obtain ⟨V6, hV⟩ : ∃ V6, V6 = (V5).alloc (.cells #[.bool s_y, .slice A_y n_y c_y] 33) := ⟨_, rfl⟩
  rw [← hV] at x_b x_y E0 E1 E2 low ⊢
  clear hV
  obtain ⟨p6, hp⟩ : ∃ p6, p6 = V5.heap.size := ⟨_, rfl⟩
  rw [← hp] at x_y ⊢
  clear hp
  go_loopw [10] (fun iv W => ∃ i : Nat, iv = .int .i64 i ∧ i ≤ 3 ∧ NE W g 0 s_a A_a n_a c_a za ∧ NE W g 1 s3 A3 n3 c3 (za * zb + a1) ∧ NE W g 2 s5 A5 n5 c5 (zb * zb * za) ∧ NB W p4 s_b A_b n_b c_b zb ∧ WB W p6 s_y A_y n_y c_y zb ∧ Below w.heap.size w W) (fun iv _ => 3 - (intOf iv).toNat)
  case atStart => exact ⟨0, rfl, by omega, E0, E1, E2, x_b, x_y, low⟩
  case round =>
    clear E0 E1 E2 x_b x_y low
    obtain ⟨i, rfl, hi, E0, E1, E2, x_b, x_y, low⟩ := hrel
    by_cases hi3 : i = 3
    · skip
      subst hi3
      have hlt : ¬ ((3 : Nat) : Int) < 3 := by decide
      clear E0 E1 E2 x_b x_y
      go_wp2_with fail
      refine (lives_any wr).mono ?_
      rintro e V7 ⟨rfl, hB⟩
      replace low := low.trans (hB.mono low.size)
      clear hB
      go_wp2_with fail
      go_ret
      exact ⟨rfl, low⟩
    · skip
      have hlt : (i : Int) < 3 := by omega
      have hi0 : (0 : Int) ≤ (i : Int) := by omega
      obtain ⟨s, A, n', c', z, hE, hsz⟩ : ∃ s A n c z, NE wr g i s A n c z ∧ Sm z 820 := by
        have h : i = 0 ∨ i = 1 ∨ i = 2 := by omega
        rcases h with h | h | h <;> subst h
        · exact ⟨_, _, _, _, _, E0, HS0.out⟩
        · exact ⟨_, _, _, _, _, E1, HS1.out⟩
        · exact ⟨_, _, _, _, _, E2, HS2.out⟩
      have HIz := Lib.hid (inR_sm (hsz.mono (show 820 ≤ 16384 by decide)))
      have HSz := Lib.hid hsz
      clear hsz
      obtain ⟨m0, m1⟩ : wr.cell? ⟨g, i * 2, none⟩ = some (.bool s) ∧ wr.cell? ⟨g, i * 2 + 1, none⟩ = some (.slice A n' c') := ⟨hE.2.1, hE.2.2.1⟩
      go_wp2_with fail
      clear m0 m1
      refine (wider_ok z _ wr hE.2.2.2 HIz.out).mono ?_
      rintro e V7 ⟨⟨u_x, rfl, h_x⟩, hB⟩
      replace x_b := x_b.later hB
      replace x_y := x_y.later hB
      replace E0 := E0.later hB
      replace E1 := E1.later hB
      replace E2 := E2.later hB
      replace hE := hE.later hB
      replace low := low.trans (hB.mono low.size)
      clear hB
      obtain ⟨s_x, A_x, n_x, c_x, rfl⟩ := h_x.form
      have x_x := WB.new h_x
      replace x_b := x_b.later (alloc_low (V7) (.cells #[.bool s_x, .slice A_x n_x c_x] 33))
      replace x_y := x_y.later (alloc_low (V7) (.cells #[.bool s_x, .slice A_x n_x c_x] 33))
      replace h_x := h_x.later (alloc_low (V7) (.cells #[.bool s_x, .slice A_x n_x c_x] 33)) (alloc_low (V7) (.cells #[.bool s_x, .slice A_x n_x c_x] 33)).size
      replace E0 := E0.later (alloc_low (V7) (.cells #[.bool s_x, .slice A_x n_x c_x] 33))
      replace E1 := E1.later (alloc_low (V7) (.cells #[.bool s_x, .slice A_x n_x c_x] 33))
      replace E2 := E2.later (alloc_low (V7) (.cells #[.bool s_x, .slice A_x n_x c_x] 33))
      replace hE := hE.later (alloc_low (V7) (.cells #[.bool s_x, .slice A_x n_x c_x] 33))
      replace low := low.trans ((alloc_low (V7) (.cells #[.bool s_x, .slice A_x n_x c_x] 33)).mono low.size)
      obtain ⟨k_y0, k_y1, -, -⟩ := x_y.cells
      go_wp2_with fail
      clear k_y0 k_y1
      clear h_x
      obtain ⟨V8, hV⟩ : ∃ V8, V8 = (V7).alloc (.cells #[.bool s_x, .slice A_x n_x c_x] 33) := ⟨_, rfl⟩
      rw [← hV] at x_b x_y x_x E0 E1 E2 hE low ⊢
      clear hV
      obtain ⟨p8, hp⟩ : ∃ p8, p8 = V7.heap.size := ⟨_, rfl⟩
      rw [← hp] at x_x ⊢
      clear hp
      by_cases hz0 : zb = 0
      · skip
        have hq := div_any z zb _ _ V8 x_x.2 x_y.2 (by have := HIz.out.len; omega) (by have := HIb.out.len; omega)
        unfold DivW at hq
        rw [if_pos hz0, if_pos hz0, if_pos hz0] at hq
        have HQ := Lib.hid hq
        have hnb : n_b = 0 := nb_zero' x_b (by omega)
        have HZ0 := Lib.hid hz0
        clear hq hz0
        refine (HQ.out).mono ?_
        rintro e V9 ⟨⟨u_q, u_r, rfl, h_q, h_r⟩, hB⟩
        replace x_b := x_b.later hB
        replace x_y := x_y.later hB
        replace x_x := x_x.later hB
        replace E0 := E0.later hB
        replace E1 := E1.later hB
        replace E2 := E2.later hB
        replace hE := hE.later hB
        replace low := low.trans (hB.mono low.size)
        clear hB
        clear HQ
        subst hnb
        obtain ⟨s_q, A_q, n_q, c_q, rfl⟩ := h_q.form
        have x_q := WB.new h_q
        replace x_b := x_b.later (alloc_low (V9) (.cells #[.bool s_q, .slice A_q n_q c_q] 33))
        replace x_y := x_y.later (alloc_low (V9) (.cells #[.bool s_q, .slice A_q n_q c_q] 33))
        replace x_x := x_x.later (alloc_low (V9) (.cells #[.bool s_q, .slice A_q n_q c_q] 33))
        replace h_q := h_q.later (alloc_low (V9) (.cells #[.bool s_q, .slice A_q n_q c_q] 33)) (alloc_low (V9) (.cells #[.bool s_q, .slice A_q n_q c_q] 33)).size
        replace h_r := h_r.later (alloc_low (V9) (.cells #[.bool s_q, .slice A_q n_q c_q] 33)) (alloc_low (V9) (.cells #[.bool s_q, .slice A_q n_q c_q] 33)).size
        replace E0 := E0.later (alloc_low (V9) (.cells #[.bool s_q, .slice A_q n_q c_q] 33))
        replace E1 := E1.later (alloc_low (V9) (.cells #[.bool s_q, .slice A_q n_q c_q] 33))
        replace E2 := E2.later (alloc_low (V9) (.cells #[.bool s_q, .slice A_q n_q c_q] 33))
        replace hE := hE.later (alloc_low (V9) (.cells #[.bool s_q, .slice A_q n_q c_q] 33))
        replace low := low.trans ((alloc_low (V9) (.cells #[.bool s_q, .slice A_q n_q c_q] 33)).mono low.size)
        obtain ⟨s_r, A_r, n_r, c_r, rfl⟩ := h_r.form
        have x_r := WB.new h_r
        simp only [World.size_alloc] at x_r
        replace x_b := x_b.later (alloc_low ((V9).alloc (.cells #[.bool s_q, .slice A_q n_q c_q] 33)) (.cells #[.bool s_r, .slice A_r n_r c_r] 33))
        replace x_y := x_y.later (alloc_low ((V9).alloc (.cells #[.bool s_q, .slice A_q n_q c_q] 33)) (.cells #[.bool s_r, .slice A_r n_r c_r] 33))
        replace x_x := x_x.later (alloc_low ((V9).alloc (.cells #[.bool s_q, .slice A_q n_q c_q] 33)) (.cells #[.bool s_r, .slice A_r n_r c_r] 33))
        replace x_q := x_q.later (alloc_low ((V9).alloc (.cells #[.bool s_q, .slice A_q n_q c_q] 33)) (.cells #[.bool s_r, .slice A_r n_r c_r] 33))
        replace h_q := h_q.later (alloc_low ((V9).alloc (.cells #[.bool s_q, .slice A_q n_q c_q] 33)) (.cells #[.bool s_r, .slice A_r n_r c_r] 33)) (alloc_low ((V9).alloc (.cells #[.bool s_q, .slice A_q n_q c_q] 33)) (.cells #[.bool s_r, .slice A_r n_r c_r] 33)).size
        replace h_r := h_r.later (alloc_low ((V9).alloc (.cells #[.bool s_q, .slice A_q n_q c_q] 33)) (.cells #[.bool s_r, .slice A_r n_r c_r] 33)) (alloc_low ((V9).alloc (.cells #[.bool s_q, .slice A_q n_q c_q] 33)) (.cells #[.bool s_r, .slice A_r n_r c_r] 33)).size
        replace E0 := E0.later (alloc_low ((V9).alloc (.cells #[.bool s_q, .slice A_q n_q c_q] 33)) (.cells #[.bool s_r, .slice A_r n_r c_r] 33))
        replace E1 := E1.later (alloc_low ((V9).alloc (.cells #[.bool s_q, .slice A_q n_q c_q] 33)) (.cells #[.bool s_r, .slice A_r n_r c_r] 33))
        replace E2 := E2.later (alloc_low ((V9).alloc (.cells #[.bool s_q, .slice A_q n_q c_q] 33)) (.cells #[.bool s_r, .slice A_r n_r c_r] 33))
        replace hE := hE.later (alloc_low ((V9).alloc (.cells #[.bool s_q, .slice A_q n_q c_q] 33)) (.cells #[.bool s_r, .slice A_r n_r c_r] 33))
        replace low := low.trans ((alloc_low ((V9).alloc (.cells #[.bool s_q, .slice A_q n_q c_q] 33)) (.cells #[.bool s_r, .slice A_r n_r c_r] 33)).mono low.size)
        obtain ⟨k_b0, k_b1, -, -⟩ := x_b.cells
        go_wp2_with fail
        clear k_b0 k_b1
        clear h_q
        clear h_r
        obtain ⟨V10, hV⟩ : ∃ V10, V10 = ((V9).alloc (.cells #[.bool s_q, .slice A_q n_q c_q] 33)).alloc (.cells #[.bool s_r, .slice A_r n_r c_r] 33) := ⟨_, rfl⟩
        rw [← hV] at x_b x_y x_x x_q x_r E0 E1 E2 hE low ⊢
        clear hV
        obtain ⟨p10, hp⟩ : ∃ p10, p10 = V9.heap.size := ⟨_, rfl⟩
        rw [← hp] at x_q x_r ⊢
        clear hp
        refine (equal_t 0 0 rfl _ _ V10 x_q.2 (Ni.zero _ _) inR_zero).mono ?_
        rintro e V11 ⟨rfl, hB⟩
        replace x_b := x_b.later hB
        replace x_y := x_y.later hB
        replace x_x := x_x.later hB
        replace x_q := x_q.later hB
        replace x_r := x_r.later hB
        replace E0 := E0.later hB
        replace E1 := E1.later hB
        replace E2 := E2.later hB
        replace hE := hE.later hB
        replace low := low.trans (hB.mono low.size)
        clear hB
        obtain ⟨k_r0, k_r1, -, -⟩ := x_r.cells
        go_wp2_with fail
        clear k_r0 k_r1
        refine (equal_t 0 0 rfl _ _ V11 x_r.2 (Ni.zero _ _) inR_zero).mono ?_
        rintro e V12 ⟨rfl, hB⟩
        replace x_b := x_b.later hB
        replace x_y := x_y.later hB
        replace x_x := x_x.later hB
        replace x_q := x_q.later hB
        replace x_r := x_r.later hB
        replace E0 := E0.later hB
        replace E1 := E1.later hB
        replace E2 := E2.later hB
        replace hE := hE.later hB
        replace low := low.trans (hB.mono low.size)
        clear hB
        go_wp2_with fail
        go_roundw
        case rel => exact ⟨i + 1, by first | rfl | go_num, by omega, E0, E1, E2, x_b, x_y, low⟩
        case measure => simp [intOf]; omega
      · skip
        have HZ0 := Lib.hid hz0
        have hnb : ((n_b : Int) == 0) = false := beq_eq_false_iff_ne.2 (by have := nb_nonzero x_b hz0; omega)
        clear hz0
        refine (div_ok z zb _ _ V8 x_x.2 x_y.2 HIz.out HIb.out HZ0.out).mono ?_
        rintro e V9 ⟨⟨u_q, u_r, rfl, h_q, h_r⟩, hB⟩
        replace x_b := x_b.later hB
        replace x_y := x_y.later hB
        replace x_x := x_x.later hB
        replace E0 := E0.later hB
        replace E1 := E1.later hB
        replace E2 := E2.later hB
        replace hE := hE.later hB
        replace low := low.trans (hB.mono low.size)
        clear hB
        obtain ⟨s_q, A_q, n_q, c_q, rfl⟩ := h_q.form
        have x_q := WB.new h_q
        replace x_b := x_b.later (alloc_low (V9) (.cells #[.bool s_q, .slice A_q n_q c_q] 33))
        replace x_y := x_y.later (alloc_low (V9) (.cells #[.bool s_q, .slice A_q n_q c_q] 33))
        replace x_x := x_x.later (alloc_low (V9) (.cells #[.bool s_q, .slice A_q n_q c_q] 33))
        replace h_q := h_q.later (alloc_low (V9) (.cells #[.bool s_q, .slice A_q n_q c_q] 33)) (alloc_low (V9) (.cells #[.bool s_q, .slice A_q n_q c_q] 33)).size
        replace h_r := h_r.later (alloc_low (V9) (.cells #[.bool s_q, .slice A_q n_q c_q] 33)) (alloc_low (V9) (.cells #[.bool s_q, .slice A_q n_q c_q] 33)).size
        replace E0 := E0.later (alloc_low (V9) (.cells #[.bool s_q, .slice A_q n_q c_q] 33))
        replace E1 := E1.later (alloc_low (V9) (.cells #[.bool s_q, .slice A_q n_q c_q] 33))
        replace E2 := E2.later (alloc_low (V9) (.cells #[.bool s_q, .slice A_q n_q c_q] 33))
        replace hE := hE.later (alloc_low (V9) (.cells #[.bool s_q, .slice A_q n_q c_q] 33))
        replace low := low.trans ((alloc_low (V9) (.cells #[.bool s_q, .slice A_q n_q c_q] 33)).mono low.size)
        obtain ⟨s_r, A_r, n_r, c_r, rfl⟩ := h_r.form
        have x_r := WB.new h_r
        simp only [World.size_alloc] at x_r
        replace x_b := x_b.later (alloc_low ((V9).alloc (.cells #[.bool s_q, .slice A_q n_q c_q] 33)) (.cells #[.bool s_r, .slice A_r n_r c_r] 33))
        replace x_y := x_y.later (alloc_low ((V9).alloc (.cells #[.bool s_q, .slice A_q n_q c_q] 33)) (.cells #[.bool s_r, .slice A_r n_r c_r] 33))
        replace x_x := x_x.later (alloc_low ((V9).alloc (.cells #[.bool s_q, .slice A_q n_q c_q] 33)) (.cells #[.bool s_r, .slice A_r n_r c_r] 33))
        replace x_q := x_q.later (alloc_low ((V9).alloc (.cells #[.bool s_q, .slice A_q n_q c_q] 33)) (.cells #[.bool s_r, .slice A_r n_r c_r] 33))
        replace h_q := h_q.later (alloc_low ((V9).alloc (.cells #[.bool s_q, .slice A_q n_q c_q] 33)) (.cells #[.bool s_r, .slice A_r n_r c_r] 33)) (alloc_low ((V9).alloc (.cells #[.bool s_q, .slice A_q n_q c_q] 33)) (.cells #[.bool s_r, .slice A_r n_r c_r] 33)).size
        replace h_r := h_r.later (alloc_low ((V9).alloc (.cells #[.bool s_q, .slice A_q n_q c_q] 33)) (.cells #[.bool s_r, .slice A_r n_r c_r] 33)) (alloc_low ((V9).alloc (.cells #[.bool s_q, .slice A_q n_q c_q] 33)) (.cells #[.bool s_r, .slice A_r n_r c_r] 33)).size
        replace E0 := E0.later (alloc_low ((V9).alloc (.cells #[.bool s_q, .slice A_q n_q c_q] 33)) (.cells #[.bool s_r, .slice A_r n_r c_r] 33))
        replace E1 := E1.later (alloc_low ((V9).alloc (.cells #[.bool s_q, .slice A_q n_q c_q] 33)) (.cells #[.bool s_r, .slice A_r n_r c_r] 33))
        replace E2 := E2.later (alloc_low ((V9).alloc (.cells #[.bool s_q, .slice A_q n_q c_q] 33)) (.cells #[.bool s_r, .slice A_r n_r c_r] 33))
        replace hE := hE.later (alloc_low ((V9).alloc (.cells #[.bool s_q, .slice A_q n_q c_q] 33)) (.cells #[.bool s_r, .slice A_r n_r c_r] 33))
        replace low := low.trans ((alloc_low ((V9).alloc (.cells #[.bool s_q, .slice A_q n_q c_q] 33)) (.cells #[.bool s_r, .slice A_r n_r c_r] 33)).mono low.size)
        obtain ⟨k_b0, k_b1, -, -⟩ := x_b.cells
        go_upto_region 15 with (fail)
        clear k_b0 k_b1 hnb
        clear h_q
        clear h_r
        obtain ⟨V10, hV⟩ : ∃ V10, V10 = ((V9).alloc (.cells #[.bool s_q, .slice A_q n_q c_q] 33)).alloc (.cells #[.bool s_r, .slice A_r n_r c_r] 33) := ⟨_, rfl⟩
        rw [← hV] at x_b x_y x_x x_q x_r E0 E1 E2 hE low ⊢
        clear hV
        obtain ⟨p10, hp⟩ : ∃ p10, p10 = V9.heap.size := ⟨_, rfl⟩
        rw [← hp] at x_q x_r ⊢
        clear hp
        clear x_x
        go_cut [16, 17] from 83 to 91 (fun cv dv wx => ∃ (p q : Nat) (s1 : Bool) (A1 : Option Addr) (n1 c1 : Nat) (s2 : Bool) (A2 : Option Addr) (n2 c2 : Nat), cv = .pointer (some ⟨p, 0, none⟩) ∧ dv = .pointer (some ⟨q, 0, none⟩) ∧ NB wx p s1 A1 n1 c1 (z / zb) ∧ NB wx q s2 A2 n2 c2 (z % zb) ∧ NE wx g 0 s_a A_a n_a c_a za ∧ NE wx g 1 s3 A3 n3 c3 (za * zb + a1) ∧ NE wx g 2 s5 A5 n5 c5 (zb * zb * za) ∧ NB wx p4 s_b A_b n_b c_b zb ∧ WB wx p6 s_y A_y n_y c_y zb ∧ WB wx p10 s_q A_q n_q c_q (z / zb) ∧ WB wx (p10 + 1) s_r A_r n_r c_r (z % zb) ∧ Below w.heap.size w wx)
        case first =>
          obtain ⟨S, hSd⟩ : ∃ S : World → Prop, S = fun w' => w'.cell? ⟨g, i * 2, none⟩ = some (.bool s) ∧ w'.cell? ⟨g, i * 2 + 1, none⟩ = some (.slice A n' c') ∧ w'.cell? ⟨p4, 0, none⟩ = some (.bool s_b) ∧ w'.cell? ⟨p4, 1, none⟩ = some (.slice A_b n_b c_b) := ⟨_, rfl⟩
          refine wp_region_held (S := S) (by kernel_rfl) ?_
          change wpAnyH _ _ _ _ _ _ _ _ V10.drew
          have hBd : Below V10.heap.size V10 V10.drew := (Below.refl _ _).drew
          obtain ⟨Y0, hY0⟩ : ∃ Y0, Y0 = V10.drew := ⟨_, rfl⟩
          rw [← hY0] at hBd ⊢
          clear hY0
          replace E0 := E0.later hBd
          replace E1 := E1.later hBd
          replace E2 := E2.later hBd
          replace hE := hE.later hBd
          replace x_b := x_b.later hBd
          replace x_y := x_y.later hBd
          replace x_q := x_q.later hBd
          replace x_r := x_r.later hBd
          replace low := low.trans (hBd.mono low.size)
          clear hBd
          subst hSd
          have hS : Y0.cell? ⟨g, i * 2, none⟩ = some (.bool s) ∧ Y0.cell? ⟨g, i * 2 + 1, none⟩ = some (.slice A n' c') ∧ Y0.cell? ⟨p4, 0, none⟩ = some (.bool s_b) ∧ Y0.cell? ⟨p4, 1, none⟩ = some (.slice A_b n_b c_b) := ⟨hE.2.1, hE.2.2.1, x_b.cells.1, x_b.cells.2.1⟩
          refine wpAnyH_take (i := 0) (v := (.slice (some ⟨g, 0, none⟩) 3 3)) rfl (by kernel_rfl) (by kernel_rfl) (by kernel_rfl) (fun _ _ _ h => h) (Or.inl ⟨by rfl, by intro w hSw; go_simp⟩) hS ?_
          refine wpAnyH_take (i := 1) (v := (.int .i64 (i : Int))) rfl (by kernel_rfl) (by kernel_rfl) (by kernel_rfl) (fun _ _ _ h => h) (Or.inl ⟨by rfl, by intro w hSw; go_simp⟩) hS ?_
          refine wpAnyH_take (i := 2) (v := (.pointer (some ⟨g, i * 2, none⟩))) rfl (by kernel_rfl) (by kernel_rfl) (by kernel_rfl) (fun _ _ _ h => h) (Or.inl ⟨by rfl, by intro w hSw; go_simp⟩) hS ?_
          dsimp only [Act.put, List.getElem_toArray, List.getElem_cons_succ, List.getElem_cons_zero, List.setIfInBounds_toArray, List.set_cons_zero, List.set_cons_succ]
          refine wpAnyH_take (i := 3) (v := (.agg #[.bool s, .slice A n' c'])) rfl (by kernel_rfl) (by kernel_rfl) (by kernel_rfl) (fun _ _ _ h => h) (Or.inl ⟨by rfl, by intro w hSw; obtain ⟨q0, q1, q2, q3⟩ := hSw; go_simp⟩) hS ?_
          refine wpAnyH_take (i := 4) (v := (.agg #[.bool s_b, .slice A_b n_b c_b])) rfl (by kernel_rfl) (by kernel_rfl) (by kernel_rfl) (fun _ _ _ h => h) (Or.inl ⟨by rfl, by intro w hSw; obtain ⟨q0, q1, q2, q3⟩ := hSw; go_simp⟩) hS ?_
          dsimp only [Act.put, List.getElem_toArray, List.getElem_cons_succ, List.getElem_cons_zero, List.setIfInBounds_toArray, List.set_cons_zero, List.set_cons_succ]
          have xQ := x_q
          have xR := x_r
          clear x_q x_r
          refine three_ready (i := 5) (j := 9) (k := 10) (by kernel_rfl) rfl rfl rfl (fun K hK => ?_) (fun K hK => ?_) (fun K hK => ?_)
          · go_simp
            refine (ndiv_any z zb _ _ HZ0.out (Nat.le_trans (ds_two HSz.out) (by decide)) (Nat.le_trans (ds_two HSb.out) (by decide)) Y0 hE.2.2.2 x_b.2).mono ?_
            rintro e T1 ⟨⟨u1, u2, rfl, hu1, hu2⟩, hB⟩
            obtain ⟨s1, A1, n1, c1, rfl⟩ := hu1.form
            obtain ⟨s2, A2, n2, c2, rfl⟩ := hu2.form
            dsimp only
            replace E0 := E0.later hB
            replace E1 := E1.later hB
            replace E2 := E2.later hB
            replace hE := hE.later hB
            replace x_b := x_b.later hB
            replace x_y := x_y.later hB
            replace xQ := xQ.later hB
            replace xR := xR.later hB
            replace low := low.trans (Below.mono hB low.size)
            clear hB
            have hS' := x_b.cells
            refine hK.out _ _ ⟨hE.2.1, hE.2.2.1, hS'.1, hS'.2.1⟩ (fun hS => ?_)
            clear hK K hS'
            refine wpAnyH_take (i := 6) (v := (.tuple #[.agg #[.bool s1, .slice A1 n1 c1], .agg #[.bool s2, .slice A2 n2 c2]])) rfl (by kernel_rfl) (by kernel_rfl) (by kernel_rfl) (fun _ _ _ h => h) (Or.inl ⟨by rfl, by intro w hSw; go_simp⟩) hS ?_
            refine wpAnyH_take (i := 7) (v := (.agg #[.bool s1, .slice A1 n1 c1])) rfl (by kernel_rfl) (by kernel_rfl) (by kernel_rfl) (fun _ _ _ h => h) (Or.inl ⟨by rfl, by intro w hSw; go_simp⟩) hS ?_
            refine wpAnyH_take (i := 8) (v := (.agg #[.bool s2, .slice A2 n2 c2])) rfl (by kernel_rfl) (by kernel_rfl) (by kernel_rfl) (fun _ _ _ h => h) (Or.inl ⟨by rfl, by intro w hSw; go_simp⟩) hS ?_
            dsimp only [Act.put, List.getElem_toArray, List.getElem_cons_succ, List.getElem_cons_zero, List.setIfInBounds_toArray, List.set_cons_zero, List.set_cons_succ]
            refine two_ready (i := 9) (j := 10) (by kernel_rfl) rfl rfl (fun K hK => ?_) (fun K hK => ?_)
            · go_simp
              have x_p := NB.new (Ni.zero T1 T1.heap.size)
              have hBa := alloc_low T1 (.cells #[.bool false, .slice none 0 0] 25)
              have lbp := x_b.lt
              have lyp := x_y.lt
              have lqp := xQ.lt
              have lrp := xR.lt
              have lgp := hE.1
              have lwp := low.size
              replace E0 := E0.later hBa
              replace E1 := E1.later hBa
              replace E2 := E2.later hBa
              replace hE := hE.later hBa
              replace x_b := x_b.later hBa
              replace x_y := x_y.later hBa
              replace xQ := xQ.later hBa
              replace xR := xR.later hBa
              replace hu1 := hu1.later hBa (Below.size hBa)
              replace hu2 := hu2.later hBa (Below.size hBa)
              replace low := low.trans (Below.mono hBa low.size)
              clear hBa
              obtain ⟨T2, hU⟩ : ∃ T2, T2 = T1.alloc (.cells #[.bool false, .slice none 0 0] 25) := ⟨_, rfl⟩
              rw [← hU] at E0 E1 E2 hE x_b x_y xQ xR x_p hu1 hu2 low ⊢
              clear hU
              obtain ⟨p, hq⟩ : ∃ p, p = T1.heap.size := ⟨_, rfl⟩
              rw [← hq] at x_p lbp lyp lqp lrp lgp lwp ⊢
              clear hq
              have hS' := x_b.cells
              refine hK.out _ _ ⟨hE.2.1, hE.2.2.1, hS'.1, hS'.2.1⟩ (fun hS => ?_)
              clear hK K hS'
              refine one_ready (i := 10) (by kernel_rfl) rfl (fun K hK => ?_)
              go_simp
              have x_q := NB.new (Ni.zero T2 T2.heap.size)
              have hBa := alloc_low T2 (.cells #[.bool false, .slice none 0 0] 25)
              have lbq := x_b.lt
              have lyq := x_y.lt
              have lqq := xQ.lt
              have lrq := xR.lt
              have lgq := hE.1
              have lwq := low.size
              have lpqq := x_p.lt
              replace E0 := E0.later hBa
              replace E1 := E1.later hBa
              replace E2 := E2.later hBa
              replace hE := hE.later hBa
              replace x_b := x_b.later hBa
              replace x_y := x_y.later hBa
              replace xQ := xQ.later hBa
              replace xR := xR.later hBa
              replace x_p := x_p.later hBa
              replace hu1 := hu1.later hBa (Below.size hBa)
              replace hu2 := hu2.later hBa (Below.size hBa)
              replace low := low.trans (Below.mono hBa low.size)
              clear hBa
              obtain ⟨T3, hU⟩ : ∃ T3, T3 = T2.alloc (.cells #[.bool false, .slice none 0 0] 25) := ⟨_, rfl⟩
              rw [← hU] at E0 E1 E2 hE x_b x_y xQ xR x_p x_q hu1 hu2 low ⊢
              clear hU
              obtain ⟨q, hq⟩ : ∃ q, q = T2.heap.size := ⟨_, rfl⟩
              rw [← hq] at x_q lbq lyq lqq lrq lgq lwq lpqq ⊢
              clear hq
              have hS' := x_b.cells
              refine hK.out _ _ ⟨hE.2.1, hE.2.2.1, hS'.1, hS'.2.1⟩ (fun hS => ?_)
              clear hK K hS'
              refine one_ready (i := 11) (by kernel_rfl) rfl (fun K hK => ?_)
              obtain ⟨m0, m1, m2, m3⟩ := x_p.cells
              go_simp
              have bt := But.set2 T3.heap.size p T3 (.bool s1) (.slice A1 n1 c1)
              replace E0 := E0.but x_p.1 bt (by omega)
              replace E1 := E1.but x_p.1 bt (by omega)
              replace E2 := E2.but x_p.1 bt (by omega)
              replace hE := hE.but x_p.1 bt (by omega)
              replace x_b := x_b.but x_p.1 bt (by omega)
              replace x_y := x_y.but x_p.1 bt (by omega)
              replace xQ := xQ.but x_p.1 bt (by omega)
              replace xR := xR.but x_p.1 bt (by omega)
              replace x_q := x_q.but x_p.1 bt (by omega)
              replace hu2 := (hu2.but_struct x_p.1 bt).grow bt.size
              replace x_p := x_p.put hu1
              replace low := low.trans (bt.low.mono (by omega))
              clear bt hu1
              obtain ⟨T4, hU⟩ : ∃ T4, T4 = ((T3.setCell ⟨p, 0, none⟩ (.bool s1)).setCell ⟨p, 1, none⟩ (.slice A1 n1 c1)) := ⟨_, rfl⟩
              rw [← hU] at E0 E1 E2 hE x_b x_y xQ xR x_p x_q hu2 low ⊢
              clear hU m0 m1 m2 m3
              have hS' := x_b.cells
              refine hK.out _ _ ⟨hE.2.1, hE.2.2.1, hS'.1, hS'.2.1⟩ (fun hS => ?_)
              clear hK K hS'
              refine one_ready (i := 12) (by kernel_rfl) rfl (fun K hK => ?_)
              obtain ⟨m0, m1, m2, m3⟩ := x_q.cells
              go_simp
              have bt := But.set2 T4.heap.size q T4 (.bool s2) (.slice A2 n2 c2)
              replace E0 := E0.but x_q.1 bt (by omega)
              replace E1 := E1.but x_q.1 bt (by omega)
              replace E2 := E2.but x_q.1 bt (by omega)
              replace hE := hE.but x_q.1 bt (by omega)
              replace x_b := x_b.but x_q.1 bt (by omega)
              replace x_y := x_y.but x_q.1 bt (by omega)
              replace xQ := xQ.but x_q.1 bt (by omega)
              replace xR := xR.but x_q.1 bt (by omega)
              replace x_p := x_p.but x_q.1 bt (by omega)
              replace x_q := x_q.put hu2
              replace low := low.trans (bt.low.mono (by omega))
              clear bt hu2
              obtain ⟨T5, hU⟩ : ∃ T5, T5 = ((T4.setCell ⟨q, 0, none⟩ (.bool s2)).setCell ⟨q, 1, none⟩ (.slice A2 n2 c2)) := ⟨_, rfl⟩
              rw [← hU] at E0 E1 E2 hE x_b x_y xQ xR x_p x_q low ⊢
              clear hU m0 m1 m2 m3
              have hS' := x_b.cells
              refine hK.out _ _ ⟨hE.2.1, hE.2.2.1, hS'.1, hS'.2.1⟩ (fun hS => ?_)
              clear hK K hS'
              refine wpAnyH_done (by kernel_rfl) ?_ _
              go_wp2_with fail
              go_meet
              case rel => exact ⟨p, q, s1, A1, n1, c1, s2, A2, n2, c2, rfl, rfl, x_p, x_q, E0, E1, E2, x_b, x_y, xQ, xR, low⟩
            · go_simp
              have x_q := NB.new (Ni.zero T1 T1.heap.size)
              have hBa := alloc_low T1 (.cells #[.bool false, .slice none 0 0] 25)
              have lbq := x_b.lt
              have lyq := x_y.lt
              have lqq := xQ.lt
              have lrq := xR.lt
              have lgq := hE.1
              have lwq := low.size
              replace E0 := E0.later hBa
              replace E1 := E1.later hBa
              replace E2 := E2.later hBa
              replace hE := hE.later hBa
              replace x_b := x_b.later hBa
              replace x_y := x_y.later hBa
              replace xQ := xQ.later hBa
              replace xR := xR.later hBa
              replace hu1 := hu1.later hBa (Below.size hBa)
              replace hu2 := hu2.later hBa (Below.size hBa)
              replace low := low.trans (Below.mono hBa low.size)
              clear hBa
              obtain ⟨T2, hU⟩ : ∃ T2, T2 = T1.alloc (.cells #[.bool false, .slice none 0 0] 25) := ⟨_, rfl⟩
              rw [← hU] at E0 E1 E2 hE x_b x_y xQ xR x_q hu1 hu2 low ⊢
              clear hU
              obtain ⟨q, hq⟩ : ∃ q, q = T1.heap.size := ⟨_, rfl⟩
              rw [← hq] at x_q lbq lyq lqq lrq lgq lwq ⊢
              clear hq
              have hS' := x_b.cells
              refine hK.out _ _ ⟨hE.2.1, hE.2.2.1, hS'.1, hS'.2.1⟩ (fun hS => ?_)
              clear hK K hS'
              refine one_ready (i := 9) (by kernel_rfl) rfl (fun K hK => ?_)
              go_simp
              have x_p := NB.new (Ni.zero T2 T2.heap.size)
              have hBa := alloc_low T2 (.cells #[.bool false, .slice none 0 0] 25)
              have lbp := x_b.lt
              have lyp := x_y.lt
              have lqp := xQ.lt
              have lrp := xR.lt
              have lgp := hE.1
              have lwp := low.size
              have lqpp := x_q.lt
              replace E0 := E0.later hBa
              replace E1 := E1.later hBa
              replace E2 := E2.later hBa
              replace hE := hE.later hBa
              replace x_b := x_b.later hBa
              replace x_y := x_y.later hBa
              replace xQ := xQ.later hBa
              replace xR := xR.later hBa
              replace x_q := x_q.later hBa
              replace hu1 := hu1.later hBa (Below.size hBa)
              replace hu2 := hu2.later hBa (Below.size hBa)
              replace low := low.trans (Below.mono hBa low.size)
              clear hBa
              obtain ⟨T3, hU⟩ : ∃ T3, T3 = T2.alloc (.cells #[.bool false, .slice none 0 0] 25) := ⟨_, rfl⟩
              rw [← hU] at E0 E1 E2 hE x_b x_y xQ xR x_q x_p hu1 hu2 low ⊢
              clear hU
              obtain ⟨p, hq⟩ : ∃ p, p = T2.heap.size := ⟨_, rfl⟩
              rw [← hq] at x_p lbp lyp lqp lrp lgp lwp lqpp ⊢
              clear hq
              have hS' := x_b.cells
              refine hK.out _ _ ⟨hE.2.1, hE.2.2.1, hS'.1, hS'.2.1⟩ (fun hS => ?_)
              clear hK K hS'
              refine one_ready (i := 11) (by kernel_rfl) rfl (fun K hK => ?_)
              obtain ⟨m0, m1, m2, m3⟩ := x_p.cells
              go_simp
              have bt := But.set2 T3.heap.size p T3 (.bool s1) (.slice A1 n1 c1)
              replace E0 := E0.but x_p.1 bt (by omega)
              replace E1 := E1.but x_p.1 bt (by omega)
              replace E2 := E2.but x_p.1 bt (by omega)
              replace hE := hE.but x_p.1 bt (by omega)
              replace x_b := x_b.but x_p.1 bt (by omega)
              replace x_y := x_y.but x_p.1 bt (by omega)
              replace xQ := xQ.but x_p.1 bt (by omega)
              replace xR := xR.but x_p.1 bt (by omega)
              replace x_q := x_q.but x_p.1 bt (by omega)
              replace hu2 := (hu2.but_struct x_p.1 bt).grow bt.size
              replace x_p := x_p.put hu1
              replace low := low.trans (bt.low.mono (by omega))
              clear bt hu1
              obtain ⟨T4, hU⟩ : ∃ T4, T4 = ((T3.setCell ⟨p, 0, none⟩ (.bool s1)).setCell ⟨p, 1, none⟩ (.slice A1 n1 c1)) := ⟨_, rfl⟩
              rw [← hU] at E0 E1 E2 hE x_b x_y xQ xR x_p x_q hu2 low ⊢
              clear hU m0 m1 m2 m3
              have hS' := x_b.cells
              refine hK.out _ _ ⟨hE.2.1, hE.2.2.1, hS'.1, hS'.2.1⟩ (fun hS => ?_)
              clear hK K hS'
              refine one_ready (i := 12) (by kernel_rfl) rfl (fun K hK => ?_)
              obtain ⟨m0, m1, m2, m3⟩ := x_q.cells
              go_simp
              have bt := But.set2 T4.heap.size q T4 (.bool s2) (.slice A2 n2 c2)
              replace E0 := E0.but x_q.1 bt (by omega)
              replace E1 := E1.but x_q.1 bt (by omega)
              replace E2 := E2.but x_q.1 bt (by omega)
              replace hE := hE.but x_q.1 bt (by omega)
              replace x_b := x_b.but x_q.1 bt (by omega)
              replace x_y := x_y.but x_q.1 bt (by omega)
              replace xQ := xQ.but x_q.1 bt (by omega)
              replace xR := xR.but x_q.1 bt (by omega)
              replace x_p := x_p.but x_q.1 bt (by omega)
              replace x_q := x_q.put hu2
              replace low := low.trans (bt.low.mono (by omega))
              clear bt hu2
              obtain ⟨T5, hU⟩ : ∃ T5, T5 = ((T4.setCell ⟨q, 0, none⟩ (.bool s2)).setCell ⟨q, 1, none⟩ (.slice A2 n2 c2)) := ⟨_, rfl⟩
              rw [← hU] at E0 E1 E2 hE x_b x_y xQ xR x_p x_q low ⊢
              clear hU m0 m1 m2 m3
              have hS' := x_b.cells
              refine hK.out _ _ ⟨hE.2.1, hE.2.2.1, hS'.1, hS'.2.1⟩ (fun hS => ?_)
              clear hK K hS'
              refine wpAnyH_done (by kernel_rfl) ?_ _
              go_wp2_with fail
              go_meet
              case rel => exact ⟨p, q, s1, A1, n1, c1, s2, A2, n2, c2, rfl, rfl, x_p, x_q, E0, E1, E2, x_b, x_y, xQ, xR, low⟩
          · go_simp
            have x_p := NB.new (Ni.zero Y0 Y0.heap.size)
            have hBa := alloc_low Y0 (.cells #[.bool false, .slice none 0 0] 25)
            have lbp := x_b.lt
            have lyp := x_y.lt
            have lqp := xQ.lt
            have lrp := xR.lt
            have lgp := hE.1
            have lwp := low.size
            replace E0 := E0.later hBa
            replace E1 := E1.later hBa
            replace E2 := E2.later hBa
            replace hE := hE.later hBa
            replace x_b := x_b.later hBa
            replace x_y := x_y.later hBa
            replace xQ := xQ.later hBa
            replace xR := xR.later hBa
            replace low := low.trans (Below.mono hBa low.size)
            clear hBa
            obtain ⟨T1, hU⟩ : ∃ T1, T1 = Y0.alloc (.cells #[.bool false, .slice none 0 0] 25) := ⟨_, rfl⟩
            rw [← hU] at E0 E1 E2 hE x_b x_y xQ xR x_p low ⊢
            clear hU
            obtain ⟨p, hq⟩ : ∃ p, p = Y0.heap.size := ⟨_, rfl⟩
            rw [← hq] at x_p lbp lyp lqp lrp lgp lwp ⊢
            clear hq
            have hS' := x_b.cells
            refine hK.out _ _ ⟨hE.2.1, hE.2.2.1, hS'.1, hS'.2.1⟩ (fun hS => ?_)
            clear hK K hS'
            refine two_ready (i := 5) (j := 10) (by kernel_rfl) rfl rfl (fun K hK => ?_) (fun K hK => ?_)
            · go_simp
              refine (ndiv_any z zb _ _ HZ0.out (Nat.le_trans (ds_two HSz.out) (by decide)) (Nat.le_trans (ds_two HSb.out) (by decide)) T1 hE.2.2.2 x_b.2).mono ?_
              rintro e T2 ⟨⟨u1, u2, rfl, hu1, hu2⟩, hB⟩
              obtain ⟨s1, A1, n1, c1, rfl⟩ := hu1.form
              obtain ⟨s2, A2, n2, c2, rfl⟩ := hu2.form
              dsimp only
              replace E0 := E0.later hB
              replace E1 := E1.later hB
              replace E2 := E2.later hB
              replace hE := hE.later hB
              replace x_b := x_b.later hB
              replace x_y := x_y.later hB
              replace xQ := xQ.later hB
              replace xR := xR.later hB
              replace x_p := x_p.later hB
              replace low := low.trans (Below.mono hB low.size)
              clear hB
              have hS' := x_b.cells
              refine hK.out _ _ ⟨hE.2.1, hE.2.2.1, hS'.1, hS'.2.1⟩ (fun hS => ?_)
              clear hK K hS'
              refine wpAnyH_take (i := 6) (v := (.tuple #[.agg #[.bool s1, .slice A1 n1 c1], .agg #[.bool s2, .slice A2 n2 c2]])) rfl (by kernel_rfl) (by kernel_rfl) (by kernel_rfl) (fun _ _ _ h => h) (Or.inl ⟨by rfl, by intro w hSw; go_simp⟩) hS ?_
              refine wpAnyH_take (i := 7) (v := (.agg #[.bool s1, .slice A1 n1 c1])) rfl (by kernel_rfl) (by kernel_rfl) (by kernel_rfl) (fun _ _ _ h => h) (Or.inl ⟨by rfl, by intro w hSw; go_simp⟩) hS ?_
              refine wpAnyH_take (i := 8) (v := (.agg #[.bool s2, .slice A2 n2 c2])) rfl (by kernel_rfl) (by kernel_rfl) (by kernel_rfl) (fun _ _ _ h => h) (Or.inl ⟨by rfl, by intro w hSw; go_simp⟩) hS ?_
              dsimp only [Act.put, List.getElem_toArray, List.getElem_cons_succ, List.getElem_cons_zero, List.setIfInBounds_toArray, List.set_cons_zero, List.set_cons_succ]
              refine one_ready (i := 10) (by kernel_rfl) rfl (fun K hK => ?_)
              go_simp
              have x_q := NB.new (Ni.zero T2 T2.heap.size)
              have hBa := alloc_low T2 (.cells #[.bool false, .slice none 0 0] 25)
              have lbq := x_b.lt
              have lyq := x_y.lt
              have lqq := xQ.lt
              have lrq := xR.lt
              have lgq := hE.1
              have lwq := low.size
              have lpqq := x_p.lt
              replace E0 := E0.later hBa
              replace E1 := E1.later hBa
              replace E2 := E2.later hBa
              replace hE := hE.later hBa
              replace x_b := x_b.later hBa
              replace x_y := x_y.later hBa
              replace xQ := xQ.later hBa
              replace xR := xR.later hBa
              replace x_p := x_p.later hBa
              replace hu1 := hu1.later hBa (Below.size hBa)
              replace hu2 := hu2.later hBa (Below.size hBa)
              replace low := low.trans (Below.mono hBa low.size)
              clear hBa
              obtain ⟨T3, hU⟩ : ∃ T3, T3 = T2.alloc (.cells #[.bool false, .slice none 0 0] 25) := ⟨_, rfl⟩
              rw [← hU] at E0 E1 E2 hE x_b x_y xQ xR x_p x_q hu1 hu2 low ⊢
              clear hU
              obtain ⟨q, hq⟩ : ∃ q, q = T2.heap.size := ⟨_, rfl⟩
              rw [← hq] at x_q lbq lyq lqq lrq lgq lwq lpqq ⊢
              clear hq
              have hS' := x_b.cells
              refine hK.out _ _ ⟨hE.2.1, hE.2.2.1, hS'.1, hS'.2.1⟩ (fun hS => ?_)
              clear hK K hS'
              refine one_ready (i := 11) (by kernel_rfl) rfl (fun K hK => ?_)
              obtain ⟨m0, m1, m2, m3⟩ := x_p.cells
              go_simp
              have bt := But.set2 T3.heap.size p T3 (.bool s1) (.slice A1 n1 c1)
              replace E0 := E0.but x_p.1 bt (by omega)
              replace E1 := E1.but x_p.1 bt (by omega)
              replace E2 := E2.but x_p.1 bt (by omega)
              replace hE := hE.but x_p.1 bt (by omega)
              replace x_b := x_b.but x_p.1 bt (by omega)
              replace x_y := x_y.but x_p.1 bt (by omega)
              replace xQ := xQ.but x_p.1 bt (by omega)
              replace xR := xR.but x_p.1 bt (by omega)
              replace x_q := x_q.but x_p.1 bt (by omega)
              replace hu2 := (hu2.but_struct x_p.1 bt).grow bt.size
              replace x_p := x_p.put hu1
              replace low := low.trans (bt.low.mono (by omega))
              clear bt hu1
              obtain ⟨T4, hU⟩ : ∃ T4, T4 = ((T3.setCell ⟨p, 0, none⟩ (.bool s1)).setCell ⟨p, 1, none⟩ (.slice A1 n1 c1)) := ⟨_, rfl⟩
              rw [← hU] at E0 E1 E2 hE x_b x_y xQ xR x_p x_q hu2 low ⊢
              clear hU m0 m1 m2 m3
              have hS' := x_b.cells
              refine hK.out _ _ ⟨hE.2.1, hE.2.2.1, hS'.1, hS'.2.1⟩ (fun hS => ?_)
              clear hK K hS'
              refine one_ready (i := 12) (by kernel_rfl) rfl (fun K hK => ?_)
              obtain ⟨m0, m1, m2, m3⟩ := x_q.cells
              go_simp
              have bt := But.set2 T4.heap.size q T4 (.bool s2) (.slice A2 n2 c2)
              replace E0 := E0.but x_q.1 bt (by omega)
              replace E1 := E1.but x_q.1 bt (by omega)
              replace E2 := E2.but x_q.1 bt (by omega)
              replace hE := hE.but x_q.1 bt (by omega)
              replace x_b := x_b.but x_q.1 bt (by omega)
              replace x_y := x_y.but x_q.1 bt (by omega)
              replace xQ := xQ.but x_q.1 bt (by omega)
              replace xR := xR.but x_q.1 bt (by omega)
              replace x_p := x_p.but x_q.1 bt (by omega)
              replace x_q := x_q.put hu2
              replace low := low.trans (bt.low.mono (by omega))
              clear bt hu2
              obtain ⟨T5, hU⟩ : ∃ T5, T5 = ((T4.setCell ⟨q, 0, none⟩ (.bool s2)).setCell ⟨q, 1, none⟩ (.slice A2 n2 c2)) := ⟨_, rfl⟩
              rw [← hU] at E0 E1 E2 hE x_b x_y xQ xR x_p x_q low ⊢
              clear hU m0 m1 m2 m3
              have hS' := x_b.cells
              refine hK.out _ _ ⟨hE.2.1, hE.2.2.1, hS'.1, hS'.2.1⟩ (fun hS => ?_)
              clear hK K hS'
              refine wpAnyH_done (by kernel_rfl) ?_ _
              go_wp2_with fail
              go_meet
              case rel => exact ⟨p, q, s1, A1, n1, c1, s2, A2, n2, c2, rfl, rfl, x_p, x_q, E0, E1, E2, x_b, x_y, xQ, xR, low⟩
            · go_simp
              have x_q := NB.new (Ni.zero T1 T1.heap.size)
              have hBa := alloc_low T1 (.cells #[.bool false, .slice none 0 0] 25)
              have lbq := x_b.lt
              have lyq := x_y.lt
              have lqq := xQ.lt
              have lrq := xR.lt
              have lgq := hE.1
              have lwq := low.size
              have lpqq := x_p.lt
              replace E0 := E0.later hBa
              replace E1 := E1.later hBa
              replace E2 := E2.later hBa
              replace hE := hE.later hBa
              replace x_b := x_b.later hBa
              replace x_y := x_y.later hBa
              replace xQ := xQ.later hBa
              replace xR := xR.later hBa
              replace x_p := x_p.later hBa
              replace low := low.trans (Below.mono hBa low.size)
              clear hBa
              obtain ⟨T2, hU⟩ : ∃ T2, T2 = T1.alloc (.cells #[.bool false, .slice none 0 0] 25) := ⟨_, rfl⟩
              rw [← hU] at E0 E1 E2 hE x_b x_y xQ xR x_p x_q low ⊢
              clear hU
              obtain ⟨q, hq⟩ : ∃ q, q = T1.heap.size := ⟨_, rfl⟩
              rw [← hq] at x_q lbq lyq lqq lrq lgq lwq lpqq ⊢
              clear hq
              have hS' := x_b.cells
              refine hK.out _ _ ⟨hE.2.1, hE.2.2.1, hS'.1, hS'.2.1⟩ (fun hS => ?_)
              clear hK K hS'
              refine one_ready (i := 5) (by kernel_rfl) rfl (fun K hK => ?_)
              go_simp
              refine (ndiv_any z zb _ _ HZ0.out (Nat.le_trans (ds_two HSz.out) (by decide)) (Nat.le_trans (ds_two HSb.out) (by decide)) T2 hE.2.2.2 x_b.2).mono ?_
              rintro e T3 ⟨⟨u1, u2, rfl, hu1, hu2⟩, hB⟩
              obtain ⟨s1, A1, n1, c1, rfl⟩ := hu1.form
              obtain ⟨s2, A2, n2, c2, rfl⟩ := hu2.form
              dsimp only
              replace E0 := E0.later hB
              replace E1 := E1.later hB
              replace E2 := E2.later hB
              replace hE := hE.later hB
              replace x_b := x_b.later hB
              replace x_y := x_y.later hB
              replace xQ := xQ.later hB
              replace xR := xR.later hB
              replace x_p := x_p.later hB
              replace x_q := x_q.later hB
              replace low := low.trans (Below.mono hB low.size)
              clear hB
              have hS' := x_b.cells
              refine hK.out _ _ ⟨hE.2.1, hE.2.2.1, hS'.1, hS'.2.1⟩ (fun hS => ?_)
              clear hK K hS'
              refine wpAnyH_take (i := 6) (v := (.tuple #[.agg #[.bool s1, .slice A1 n1 c1], .agg #[.bool s2, .slice A2 n2 c2]])) rfl (by kernel_rfl) (by kernel_rfl) (by kernel_rfl) (fun _ _ _ h => h) (Or.inl ⟨by rfl, by intro w hSw; go_simp⟩) hS ?_
              refine wpAnyH_take (i := 7) (v := (.agg #[.bool s1, .slice A1 n1 c1])) rfl (by kernel_rfl) (by kernel_rfl) (by kernel_rfl) (fun _ _ _ h => h) (Or.inl ⟨by rfl, by intro w hSw; go_simp⟩) hS ?_
              refine wpAnyH_take (i := 8) (v := (.agg #[.bool s2, .slice A2 n2 c2])) rfl (by kernel_rfl) (by kernel_rfl) (by kernel_rfl) (fun _ _ _ h => h) (Or.inl ⟨by rfl, by intro w hSw; go_simp⟩) hS ?_
              dsimp only [Act.put, List.getElem_toArray, List.getElem_cons_succ, List.getElem_cons_zero, List.setIfInBounds_toArray, List.set_cons_zero, List.set_cons_succ]
              refine one_ready (i := 11) (by kernel_rfl) rfl (fun K hK => ?_)
              obtain ⟨m0, m1, m2, m3⟩ := x_p.cells
              go_simp
              have bt := But.set2 T3.heap.size p T3 (.bool s1) (.slice A1 n1 c1)
              replace E0 := E0.but x_p.1 bt (by omega)
              replace E1 := E1.but x_p.1 bt (by omega)
              replace E2 := E2.but x_p.1 bt (by omega)
              replace hE := hE.but x_p.1 bt (by omega)
              replace x_b := x_b.but x_p.1 bt (by omega)
              replace x_y := x_y.but x_p.1 bt (by omega)
              replace xQ := xQ.but x_p.1 bt (by omega)
              replace xR := xR.but x_p.1 bt (by omega)
              replace x_q := x_q.but x_p.1 bt (by omega)
              replace hu2 := (hu2.but_struct x_p.1 bt).grow bt.size
              replace x_p := x_p.put hu1
              replace low := low.trans (bt.low.mono (by omega))
              clear bt hu1
              obtain ⟨T4, hU⟩ : ∃ T4, T4 = ((T3.setCell ⟨p, 0, none⟩ (.bool s1)).setCell ⟨p, 1, none⟩ (.slice A1 n1 c1)) := ⟨_, rfl⟩
              rw [← hU] at E0 E1 E2 hE x_b x_y xQ xR x_p x_q hu2 low ⊢
              clear hU m0 m1 m2 m3
              have hS' := x_b.cells
              refine hK.out _ _ ⟨hE.2.1, hE.2.2.1, hS'.1, hS'.2.1⟩ (fun hS => ?_)
              clear hK K hS'
              refine one_ready (i := 12) (by kernel_rfl) rfl (fun K hK => ?_)
              obtain ⟨m0, m1, m2, m3⟩ := x_q.cells
              go_simp
              have bt := But.set2 T4.heap.size q T4 (.bool s2) (.slice A2 n2 c2)
              replace E0 := E0.but x_q.1 bt (by omega)
              replace E1 := E1.but x_q.1 bt (by omega)
              replace E2 := E2.but x_q.1 bt (by omega)
              replace hE := hE.but x_q.1 bt (by omega)
              replace x_b := x_b.but x_q.1 bt (by omega)
              replace x_y := x_y.but x_q.1 bt (by omega)
              replace xQ := xQ.but x_q.1 bt (by omega)
              replace xR := xR.but x_q.1 bt (by omega)
              replace x_p := x_p.but x_q.1 bt (by omega)
              replace x_q := x_q.put hu2
              replace low := low.trans (bt.low.mono (by omega))
              clear bt hu2
              obtain ⟨T5, hU⟩ : ∃ T5, T5 = ((T4.setCell ⟨q, 0, none⟩ (.bool s2)).setCell ⟨q, 1, none⟩ (.slice A2 n2 c2)) := ⟨_, rfl⟩
              rw [← hU] at E0 E1 E2 hE x_b x_y xQ xR x_p x_q low ⊢
              clear hU m0 m1 m2 m3
              have hS' := x_b.cells
              refine hK.out _ _ ⟨hE.2.1, hE.2.2.1, hS'.1, hS'.2.1⟩ (fun hS => ?_)
              clear hK K hS'
              refine wpAnyH_done (by kernel_rfl) ?_ _
              go_wp2_with fail
              go_meet
              case rel => exact ⟨p, q, s1, A1, n1, c1, s2, A2, n2, c2, rfl, rfl, x_p, x_q, E0, E1, E2, x_b, x_y, xQ, xR, low⟩
          · go_simp
            have x_q := NB.new (Ni.zero Y0 Y0.heap.size)
            have hBa := alloc_low Y0 (.cells #[.bool false, .slice none 0 0] 25)
            have lbq := x_b.lt
            have lyq := x_y.lt
            have lqq := xQ.lt
            have lrq := xR.lt
            have lgq := hE.1
            have lwq := low.size
            replace E0 := E0.later hBa
            replace E1 := E1.later hBa
            replace E2 := E2.later hBa
            replace hE := hE.later hBa
            replace x_b := x_b.later hBa
            replace x_y := x_y.later hBa
            replace xQ := xQ.later hBa
            replace xR := xR.later hBa
            replace low := low.trans (Below.mono hBa low.size)
            clear hBa
            obtain ⟨T1, hU⟩ : ∃ T1, T1 = Y0.alloc (.cells #[.bool false, .slice none 0 0] 25) := ⟨_, rfl⟩
            rw [← hU] at E0 E1 E2 hE x_b x_y xQ xR x_q low ⊢
            clear hU
            obtain ⟨q, hq⟩ : ∃ q, q = Y0.heap.size := ⟨_, rfl⟩
            rw [← hq] at x_q lbq lyq lqq lrq lgq lwq ⊢
            clear hq
            have hS' := x_b.cells
            refine hK.out _ _ ⟨hE.2.1, hE.2.2.1, hS'.1, hS'.2.1⟩ (fun hS => ?_)
            clear hK K hS'
            refine two_ready (i := 5) (j := 9) (by kernel_rfl) rfl rfl (fun K hK => ?_) (fun K hK => ?_)
            · go_simp
              refine (ndiv_any z zb _ _ HZ0.out (Nat.le_trans (ds_two HSz.out) (by decide)) (Nat.le_trans (ds_two HSb.out) (by decide)) T1 hE.2.2.2 x_b.2).mono ?_
              rintro e T2 ⟨⟨u1, u2, rfl, hu1, hu2⟩, hB⟩
              obtain ⟨s1, A1, n1, c1, rfl⟩ := hu1.form
              obtain ⟨s2, A2, n2, c2, rfl⟩ := hu2.form
              dsimp only
              replace E0 := E0.later hB
              replace E1 := E1.later hB
              replace E2 := E2.later hB
              replace hE := hE.later hB
              replace x_b := x_b.later hB
              replace x_y := x_y.later hB
              replace xQ := xQ.later hB
              replace xR := xR.later hB
              replace x_q := x_q.later hB
              replace low := low.trans (Below.mono hB low.size)
              clear hB
              have hS' := x_b.cells
              refine hK.out _ _ ⟨hE.2.1, hE.2.2.1, hS'.1, hS'.2.1⟩ (fun hS => ?_)
              clear hK K hS'
              refine wpAnyH_take (i := 6) (v := (.tuple #[.agg #[.bool s1, .slice A1 n1 c1], .agg #[.bool s2, .slice A2 n2 c2]])) rfl (by kernel_rfl) (by kernel_rfl) (by kernel_rfl) (fun _ _ _ h => h) (Or.inl ⟨by rfl, by intro w hSw; go_simp⟩) hS ?_
              refine wpAnyH_take (i := 7) (v := (.agg #[.bool s1, .slice A1 n1 c1])) rfl (by kernel_rfl) (by kernel_rfl) (by kernel_rfl) (fun _ _ _ h => h) (Or.inl ⟨by rfl, by intro w hSw; go_simp⟩) hS ?_
              refine wpAnyH_take (i := 8) (v := (.agg #[.bool s2, .slice A2 n2 c2])) rfl (by kernel_rfl) (by kernel_rfl) (by kernel_rfl) (fun _ _ _ h => h) (Or.inl ⟨by rfl, by intro w hSw; go_simp⟩) hS ?_
              dsimp only [Act.put, List.getElem_toArray, List.getElem_cons_succ, List.getElem_cons_zero, List.setIfInBounds_toArray, List.set_cons_zero, List.set_cons_succ]
              refine one_ready (i := 9) (by kernel_rfl) rfl (fun K hK => ?_)
              go_simp
              have x_p := NB.new (Ni.zero T2 T2.heap.size)
              have hBa := alloc_low T2 (.cells #[.bool false, .slice none 0 0] 25)
              have lbp := x_b.lt
              have lyp := x_y.lt
              have lqp := xQ.lt
              have lrp := xR.lt
              have lgp := hE.1
              have lwp := low.size
              have lqpp := x_q.lt
              replace E0 := E0.later hBa
              replace E1 := E1.later hBa
              replace E2 := E2.later hBa
              replace hE := hE.later hBa
              replace x_b := x_b.later hBa
              replace x_y := x_y.later hBa
              replace xQ := xQ.later hBa
              replace xR := xR.later hBa
              replace x_q := x_q.later hBa
              replace hu1 := hu1.later hBa (Below.size hBa)
              replace hu2 := hu2.later hBa (Below.size hBa)
              replace low := low.trans (Below.mono hBa low.size)
              clear hBa
              obtain ⟨T3, hU⟩ : ∃ T3, T3 = T2.alloc (.cells #[.bool false, .slice none 0 0] 25) := ⟨_, rfl⟩
              rw [← hU] at E0 E1 E2 hE x_b x_y xQ xR x_q x_p hu1 hu2 low ⊢
              clear hU
              obtain ⟨p, hq⟩ : ∃ p, p = T2.heap.size := ⟨_, rfl⟩
              rw [← hq] at x_p lbp lyp lqp lrp lgp lwp lqpp ⊢
              clear hq
              have hS' := x_b.cells
              refine hK.out _ _ ⟨hE.2.1, hE.2.2.1, hS'.1, hS'.2.1⟩ (fun hS => ?_)
              clear hK K hS'
              refine one_ready (i := 11) (by kernel_rfl) rfl (fun K hK => ?_)
              obtain ⟨m0, m1, m2, m3⟩ := x_p.cells
              go_simp
              have bt := But.set2 T3.heap.size p T3 (.bool s1) (.slice A1 n1 c1)
              replace E0 := E0.but x_p.1 bt (by omega)
              replace E1 := E1.but x_p.1 bt (by omega)
              replace E2 := E2.but x_p.1 bt (by omega)
              replace hE := hE.but x_p.1 bt (by omega)
              replace x_b := x_b.but x_p.1 bt (by omega)
              replace x_y := x_y.but x_p.1 bt (by omega)
              replace xQ := xQ.but x_p.1 bt (by omega)
              replace xR := xR.but x_p.1 bt (by omega)
              replace x_q := x_q.but x_p.1 bt (by omega)
              replace hu2 := (hu2.but_struct x_p.1 bt).grow bt.size
              replace x_p := x_p.put hu1
              replace low := low.trans (bt.low.mono (by omega))
              clear bt hu1
              obtain ⟨T4, hU⟩ : ∃ T4, T4 = ((T3.setCell ⟨p, 0, none⟩ (.bool s1)).setCell ⟨p, 1, none⟩ (.slice A1 n1 c1)) := ⟨_, rfl⟩
              rw [← hU] at E0 E1 E2 hE x_b x_y xQ xR x_p x_q hu2 low ⊢
              clear hU m0 m1 m2 m3
              have hS' := x_b.cells
              refine hK.out _ _ ⟨hE.2.1, hE.2.2.1, hS'.1, hS'.2.1⟩ (fun hS => ?_)
              clear hK K hS'
              refine one_ready (i := 12) (by kernel_rfl) rfl (fun K hK => ?_)
              obtain ⟨m0, m1, m2, m3⟩ := x_q.cells
              go_simp
              have bt := But.set2 T4.heap.size q T4 (.bool s2) (.slice A2 n2 c2)
              replace E0 := E0.but x_q.1 bt (by omega)
              replace E1 := E1.but x_q.1 bt (by omega)
              replace E2 := E2.but x_q.1 bt (by omega)
              replace hE := hE.but x_q.1 bt (by omega)
              replace x_b := x_b.but x_q.1 bt (by omega)
              replace x_y := x_y.but x_q.1 bt (by omega)
              replace xQ := xQ.but x_q.1 bt (by omega)
              replace xR := xR.but x_q.1 bt (by omega)
              replace x_p := x_p.but x_q.1 bt (by omega)
              replace x_q := x_q.put hu2
              replace low := low.trans (bt.low.mono (by omega))
              clear bt hu2
              obtain ⟨T5, hU⟩ : ∃ T5, T5 = ((T4.setCell ⟨q, 0, none⟩ (.bool s2)).setCell ⟨q, 1, none⟩ (.slice A2 n2 c2)) := ⟨_, rfl⟩
              rw [← hU] at E0 E1 E2 hE x_b x_y xQ xR x_p x_q low ⊢
              clear hU m0 m1 m2 m3
              have hS' := x_b.cells
              refine hK.out _ _ ⟨hE.2.1, hE.2.2.1, hS'.1, hS'.2.1⟩ (fun hS => ?_)
              clear hK K hS'
              refine wpAnyH_done (by kernel_rfl) ?_ _
              go_wp2_with fail
              go_meet
              case rel => exact ⟨p, q, s1, A1, n1, c1, s2, A2, n2, c2, rfl, rfl, x_p, x_q, E0, E1, E2, x_b, x_y, xQ, xR, low⟩
            · go_simp
              have x_p := NB.new (Ni.zero T1 T1.heap.size)
              have hBa := alloc_low T1 (.cells #[.bool false, .slice none 0 0] 25)
              have lbp := x_b.lt
              have lyp := x_y.lt
              have lqp := xQ.lt
              have lrp := xR.lt
              have lgp := hE.1
              have lwp := low.size
              have lqpp := x_q.lt
              replace E0 := E0.later hBa
              replace E1 := E1.later hBa
              replace E2 := E2.later hBa
              replace hE := hE.later hBa
              replace x_b := x_b.later hBa
              replace x_y := x_y.later hBa
              replace xQ := xQ.later hBa
              replace xR := xR.later hBa
              replace x_q := x_q.later hBa
              replace low := low.trans (Below.mono hBa low.size)
              clear hBa
              obtain ⟨T2, hU⟩ : ∃ T2, T2 = T1.alloc (.cells #[.bool false, .slice none 0 0] 25) := ⟨_, rfl⟩
              rw [← hU] at E0 E1 E2 hE x_b x_y xQ xR x_q x_p low ⊢
              clear hU
              obtain ⟨p, hq⟩ : ∃ p, p = T1.heap.size := ⟨_, rfl⟩
              rw [← hq] at x_p lbp lyp lqp lrp lgp lwp lqpp ⊢
              clear hq
              have hS' := x_b.cells
              refine hK.out _ _ ⟨hE.2.1, hE.2.2.1, hS'.1, hS'.2.1⟩ (fun hS => ?_)
              clear hK K hS'
              refine one_ready (i := 5) (by kernel_rfl) rfl (fun K hK => ?_)
              go_simp
              refine (ndiv_any z zb _ _ HZ0.out (Nat.le_trans (ds_two HSz.out) (by decide)) (Nat.le_trans (ds_two HSb.out) (by decide)) T2 hE.2.2.2 x_b.2).mono ?_
              rintro e T3 ⟨⟨u1, u2, rfl, hu1, hu2⟩, hB⟩
              obtain ⟨s1, A1, n1, c1, rfl⟩ := hu1.form
              obtain ⟨s2, A2, n2, c2, rfl⟩ := hu2.form
              dsimp only
              replace E0 := E0.later hB
              replace E1 := E1.later hB
              replace E2 := E2.later hB
              replace hE := hE.later hB
              replace x_b := x_b.later hB
              replace x_y := x_y.later hB
              replace xQ := xQ.later hB
              replace xR := xR.later hB
              replace x_q := x_q.later hB
              replace x_p := x_p.later hB
              replace low := low.trans (Below.mono hB low.size)
              clear hB
              have hS' := x_b.cells
              refine hK.out _ _ ⟨hE.2.1, hE.2.2.1, hS'.1, hS'.2.1⟩ (fun hS => ?_)
              clear hK K hS'
              refine wpAnyH_take (i := 6) (v := (.tuple #[.agg #[.bool s1, .slice A1 n1 c1], .agg #[.bool s2, .slice A2 n2 c2]])) rfl (by kernel_rfl) (by kernel_rfl) (by kernel_rfl) (fun _ _ _ h => h) (Or.inl ⟨by rfl, by intro w hSw; go_simp⟩) hS ?_
              refine wpAnyH_take (i := 7) (v := (.agg #[.bool s1, .slice A1 n1 c1])) rfl (by kernel_rfl) (by kernel_rfl) (by kernel_rfl) (fun _ _ _ h => h) (Or.inl ⟨by rfl, by intro w hSw; go_simp⟩) hS ?_
              refine wpAnyH_take (i := 8) (v := (.agg #[.bool s2, .slice A2 n2 c2])) rfl (by kernel_rfl) (by kernel_rfl) (by kernel_rfl) (fun _ _ _ h => h) (Or.inl ⟨by rfl, by intro w hSw; go_simp⟩) hS ?_
              dsimp only [Act.put, List.getElem_toArray, List.getElem_cons_succ, List.getElem_cons_zero, List.setIfInBounds_toArray, List.set_cons_zero, List.set_cons_succ]
              refine one_ready (i := 11) (by kernel_rfl) rfl (fun K hK => ?_)
              obtain ⟨m0, m1, m2, m3⟩ := x_p.cells
              go_simp
              have bt := But.set2 T3.heap.size p T3 (.bool s1) (.slice A1 n1 c1)
              replace E0 := E0.but x_p.1 bt (by omega)
              replace E1 := E1.but x_p.1 bt (by omega)
              replace E2 := E2.but x_p.1 bt (by omega)
              replace hE := hE.but x_p.1 bt (by omega)
              replace x_b := x_b.but x_p.1 bt (by omega)
              replace x_y := x_y.but x_p.1 bt (by omega)
              replace xQ := xQ.but x_p.1 bt (by omega)
              replace xR := xR.but x_p.1 bt (by omega)
              replace x_q := x_q.but x_p.1 bt (by omega)
              replace hu2 := (hu2.but_struct x_p.1 bt).grow bt.size
              replace x_p := x_p.put hu1
              replace low := low.trans (bt.low.mono (by omega))
              clear bt hu1
              obtain ⟨T4, hU⟩ : ∃ T4, T4 = ((T3.setCell ⟨p, 0, none⟩ (.bool s1)).setCell ⟨p, 1, none⟩ (.slice A1 n1 c1)) := ⟨_, rfl⟩
              rw [← hU] at E0 E1 E2 hE x_b x_y xQ xR x_p x_q hu2 low ⊢
              clear hU m0 m1 m2 m3
              have hS' := x_b.cells
              refine hK.out _ _ ⟨hE.2.1, hE.2.2.1, hS'.1, hS'.2.1⟩ (fun hS => ?_)
              clear hK K hS'
              refine one_ready (i := 12) (by kernel_rfl) rfl (fun K hK => ?_)
              obtain ⟨m0, m1, m2, m3⟩ := x_q.cells
              go_simp
              have bt := But.set2 T4.heap.size q T4 (.bool s2) (.slice A2 n2 c2)
              replace E0 := E0.but x_q.1 bt (by omega)
              replace E1 := E1.but x_q.1 bt (by omega)
              replace E2 := E2.but x_q.1 bt (by omega)
              replace hE := hE.but x_q.1 bt (by omega)
              replace x_b := x_b.but x_q.1 bt (by omega)
              replace x_y := x_y.but x_q.1 bt (by omega)
              replace xQ := xQ.but x_q.1 bt (by omega)
              replace xR := xR.but x_q.1 bt (by omega)
              replace x_p := x_p.but x_q.1 bt (by omega)
              replace x_q := x_q.put hu2
              replace low := low.trans (bt.low.mono (by omega))
              clear bt hu2
              obtain ⟨T5, hU⟩ : ∃ T5, T5 = ((T4.setCell ⟨q, 0, none⟩ (.bool s2)).setCell ⟨q, 1, none⟩ (.slice A2 n2 c2)) := ⟨_, rfl⟩
              rw [← hU] at E0 E1 E2 hE x_b x_y xQ xR x_p x_q low ⊢
              clear hU m0 m1 m2 m3
              have hS' := x_b.cells
              refine hK.out _ _ ⟨hE.2.1, hE.2.2.1, hS'.1, hS'.2.1⟩ (fun hS => ?_)
              clear hK K hS'
              refine wpAnyH_done (by kernel_rfl) ?_ _
              go_wp2_with fail
              go_meet
              case rel => exact ⟨p, q, s1, A1, n1, c1, s2, A2, n2, c2, rfl, rfl, x_p, x_q, E0, E1, E2, x_b, x_y, xQ, xR, low⟩
        case rest =>
          clear E0 E1 E2 hE x_b x_y x_q x_r low
          obtain ⟨P_c, P_d, s_c, A_c, n_c, c_c, s_d, A_d, n_d, c_d, rfl, rfl, x_c, x_d, E0, E1, E2, x_b, x_y, x_q, x_r, low⟩ := hcut
          have hSr : Sm (z % zb) 270 := by
            have h1 := Int.emod_nonneg z HZ0.out
            have h2 := Int.emod_lt z HZ0.out
            exact sm_le' (by omega) HSb.out
          have hSq : Sm (z / zb) 821 := sm_div z zb 820 HZ0.out HSz.out
          have HIq := Lib.hid (inR_sm (hSq.mono (show 821 ≤ 16384 by decide)))
          have HIr := Lib.hid (inR_sm (hSr.mono (show 270 ≤ 16384 by decide)))
          clear hSr hSq
          obtain ⟨k_q0, k_q1, -, -⟩ := x_q.cells
          obtain ⟨k_c0, k_c1, -, -⟩ := x_c.cells
          go_wp2_with fail
          clear k_q0 k_q1 k_c0 k_c1
          refine (equal_t (z / zb) (z / zb) rfl _ _ wc x_q.2 x_c.2 HIq.out).mono ?_
          rintro e V11 ⟨rfl, hB⟩
          replace x_c := x_c.later hB
          replace x_d := x_d.later hB
          replace x_b := x_b.later hB
          replace x_y := x_y.later hB
          replace x_q := x_q.later hB
          replace x_r := x_r.later hB
          replace E0 := E0.later hB
          replace E1 := E1.later hB
          replace E2 := E2.later hB
          replace low := low.trans (hB.mono low.size)
          clear hB
          obtain ⟨k_r0, k_r1, -, -⟩ := x_r.cells
          obtain ⟨k_d0, k_d1, -, -⟩ := x_d.cells
          go_wp2_with fail
          clear k_r0 k_r1 k_d0 k_d1
          refine (equal_t (z % zb) (z % zb) rfl _ _ V11 x_r.2 x_d.2 HIr.out).mono ?_
          rintro e V12 ⟨rfl, hB⟩
          replace x_c := x_c.later hB
          replace x_d := x_d.later hB
          replace x_b := x_b.later hB
          replace x_y := x_y.later hB
          replace x_q := x_q.later hB
          replace x_r := x_r.later hB
          replace E0 := E0.later hB
          replace E1 := E1.later hB
          replace E2 := E2.later hB
          replace low := low.trans (hB.mono low.size)
          clear hB
          go_wp2_with fail
          go_roundw
          case rel => exact ⟨i + 1, by first | rfl | go_num, by omega, E0, E1, E2, x_b, x_y, low⟩
          case measure => simp [intOf]; omega
theorem WideQuotients_walk (w : World) (a0 : Option Addr) (n c : Nat) (xs : List Int) (r : Rd w w.heap.size a0 n (xs.map iv)) (bd : ∀ y ∈ xs, -9223372036854775808 ≤ y ∧ y ≤ 9223372036854775807) (hnc : n ≤ c) (hc : c ≤ maxLen) (a1 : Int) (wa1 : (Lit.int .i64 a1).wf = true) :
    Calls Tryd.prog 7 #[.slice a0 n c, .int .i64 a1] w fun e W' => e = .returned (.bool true) ∧ Below w.heap.size w W' :=
  WideQuotients_walkR w a0 n c xs r bd hnc hc a1 (bounds_i64 wa1)
end Go.Proofs.YtmpdoikdadjneaaDoor
