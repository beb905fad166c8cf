/- The law WideDivisors, walked. -/
import Derived.Test.YtmpdoikdadjneaaDoorCL
import Derived.Test.YtmpdoikdadjneaaDoorCUnum
import Derived.Test.YtmpdoikdadjneaaDoorCUgcd
import Derived.Deep.CutBlock
import Derived.Deep.CutRange
namespace Go.Proofs.YtmpdoikdadjneaaDoor
open Go.RowKit Go.Shelf Hb Vm Ds Vr

theorem sm_le {x y : Int} {k : Nat} (h : x.natAbs ≤ y.natAbs) (hy : Sm y k) : Sm x k := Nat.lt_of_le_of_lt h hy
theorem sm_gcd (x y : Int) (G k : Nat) (hG : G = Nat.gcd x.natAbs y.natAbs) (hx : Sm x k) (hy : Sm y k) : Sm (G : Int) k := by
  unfold Sm
  rw [Int.natAbs_natCast, hG]
  rcases Nat.eq_zero_or_pos x.natAbs with h | h
  · rw [h, Nat.gcd_zero_left]; exact hy
  · exact Nat.lt_of_le_of_lt (Nat.gcd_le_left _ h) hx
theorem nb_zero {W : World} {p : Nat} {s : Bool} {A : Option Addr} {n c : Nat} {z : Int} (h : NB W p s A n c z) (hz : z.natAbs = 0) : n = 0 := by
  obtain ⟨u', e', A'', c'', e2, -, -, -⟩ := h.2
  unfold intV at e'
  injection e' with e'
  simp at e'
  rw [e2, hz] at e'
  have := e'.2
  injection this
theorem gcd_parts (za zb : Int) (G : Nat) (hG : G = Nat.gcd za.natAbs zb.natAbs) (hp : 0 < G) :
    za % (G : Int) = 0 ∧ zb % (G : Int) = 0 ∧ (za / (G : Int)).natAbs = za.natAbs / G ∧ (zb / (G : Int)).natAbs = zb.natAbs / G ∧ Nat.gcd (za / (G : Int)).natAbs (zb / (G : Int)).natAbs = 1 := by
  have h1 : G ∣ za.natAbs := by rw [hG]; exact Nat.gcd_dvd_left _ _
  have h2 : G ∣ zb.natAbs := by rw [hG]; exact Nat.gcd_dvd_right _ _
  have d1 : (G : Int) ∣ za := Int.ofNat_dvd_left.2 h1
  have d2 : (G : Int) ∣ zb := Int.ofNat_dvd_left.2 h2
  have e1 : (za / (G : Int)).natAbs = za.natAbs / G := by rw [Int.natAbs_ediv_of_dvd d1, Int.natAbs_natCast]
  have e2 : (zb / (G : Int)).natAbs = zb.natAbs / G := by rw [Int.natAbs_ediv_of_dvd d2, Int.natAbs_natCast]
  refine ⟨Int.emod_eq_zero_of_dvd d1, Int.emod_eq_zero_of_dvd d2, e1, e2, ?_⟩
  rw [e1, e2, Nat.gcd_div h1 h2, ← hG, Nat.div_self hp]

set_option maxRecDepth 100000 in
set_option maxHeartbeats 16000000 in
theorem WideDivisors_walk (w : World) (a0 : Option Addr) (n c : Nat) (xs : List Int) (r : Rd w w.heap.size a0 n (xs.map iv)) (bd : ∀ y ∈ xs, -9223372036854775808 ≤ y ∧ y ≤ 9223372036854775807) (hnc : n ≤ c) (hc : c ≤ maxLen) :
    Calls Tryd.prog 9 #[.slice a0 n c] w fun e W' => e = .returned (.bool true) ∧ Below w.heap.size w W' := by
  have low : Below w.heap.size w w := Below.refl _ _
  have hn : n ≤ maxLen := by omega
  have BD := Lib.hid bd
  clear bd
  go_enter Tryd.func9, Tryd.ntmps9
  go_wp2_with fail
  refine (number_any a0 n c xs BD.out 12 12 rfl (by decide) hn w (r.later low low.size)).mono ?_
  rintro e V1 ⟨⟨u_c, zc, rfl, h_c, hzc⟩, hB⟩
  replace low := low.trans (hB.mono low.size)
  clear hB
  obtain ⟨s_c, A_c, n_c, c_c, rfl⟩ := h_c.form
  have x_c := NB.new h_c
  replace h_c := h_c.later (alloc_low (V1) (.cells #[.bool s_c, .slice A_c n_c c_c] 25)) (alloc_low (V1) (.cells #[.bool s_c, .slice A_c n_c c_c] 25)).size
  replace low := low.trans ((alloc_low (V1) (.cells #[.bool s_c, .slice A_c n_c c_c] 25)).mono low.size)
  go_upto_region 2 with (fail)
  clear h_c
  obtain ⟨V2, hV⟩ : ∃ V2, V2 = (V1).alloc (.cells #[.bool s_c, .slice A_c n_c c_c] 25) := ⟨_, rfl⟩
  rw [← hV] at x_c low ⊢
  clear hV
  obtain ⟨p2, hp⟩ : ∃ p2, p2 = V1.heap.size := ⟨_, rfl⟩
  rw [← hp] at x_c ⊢
  clear hp
  have HSC := Lib.hid hzc
  clear hzc
  go_cut [4] from 19 to 22 (fun tv wx => ∃ (p : Nat) (s : Bool) (A : Option Addr) (n c : Nat) (z : Int), tv = .pointer (some ⟨p, 0, none⟩) ∧ NB wx p s A n c z ∧ Hid (Sm z 540) ∧ NB wx p2 s_c A_c n_c c_c zc ∧ Below w.heap.size w wx)
  case first =>
    obtain ⟨S, hSd⟩ : ∃ S : World → Prop, S = fun w' => w'.cell? ⟨p2, 0, none⟩ = some (.bool s_c) ∧ w'.cell? ⟨p2, 1, none⟩ = some (.slice A_c n_c c_c) := ⟨_, rfl⟩
    refine wp_region_held (S := S) (by kernel_rfl) ?_
    change wpAnyH _ _ _ _ _ _ _ _ V2.drew
    obtain ⟨Y0, hY0⟩ : ∃ Y0, Y0 = V2.drew := ⟨_, rfl⟩
    replace x_c : NB Y0 p2 s_c A_c n_c c_c zc := by rw [hY0]; exact x_c.later (Below.refl _ _).drew
    replace low : Below w.heap.size w Y0 := by rw [hY0]; exact low.drew
    rw [← hY0]
    clear hY0
    subst hSd
    have hS : Y0.cell? ⟨p2, 0, none⟩ = some (.bool s_c) ∧ Y0.cell? ⟨p2, 1, none⟩ = some (.slice A_c n_c c_c) := ⟨x_c.cells.1, x_c.cells.2.1⟩
    refine wpAnyH_take (i := 0) (v := .slice a0 n c) rfl (by kernel_rfl) (by kernel_rfl) (by kernel_rfl) (fun _ _ _ h => h) (Or.inl ⟨by rfl, by intro w hSw; go_simp⟩) hS ?_
    refine wpAnyH_take (i := 2) (v := .agg #[.bool s_c, .slice A_c n_c c_c]) rfl (by kernel_rfl) (by kernel_rfl) (by kernel_rfl) (fun _ _ _ h => h) (Or.inl ⟨by rfl, by intro w hSw; obtain ⟨q0, q1⟩ := hSw; go_simp⟩) hS ?_
    dsimp only [Act.put, List.getElem_toArray, List.getElem_cons_succ, List.getElem_cons_zero, List.setIfInBounds_toArray, List.set_cons_zero, List.set_cons_succ]
    refine two_ready (i := 1) (j := 4) (by kernel_rfl) rfl rfl (fun K hK => ?_) (fun K hK => ?_)
    · go_simp
      refine (number_any a0 n c xs BD.out 0 0 rfl (by decide) hn Y0 (r.later low low.size)).mono ?_
      rintro e T1 ⟨⟨u1, z1, rfl, hu1, hz1⟩, hB⟩
      have HZ1 := Lib.hid hz1
      clear hz1
      dsimp only
      replace x_c := x_c.later hB
      replace low := low.trans (Below.mono hB low.size)
      clear hB
      have hS' := x_c.cells
      refine hK.out _ _ ⟨hS'.1, hS'.2.1⟩ (fun hS => ?_)
      clear hK K hS'
      refine two_ready (i := 3) (j := 4) (by kernel_rfl) rfl rfl (fun K hK => ?_) (fun K hK => ?_)
      · go_simp
        refine (nmul_any z1 zc u1 _ T1 hu1 x_c.2 (Nat.le_trans (ds_two HZ1.out) (by decide)) (Nat.le_trans (ds_two HSC.out) (by decide))).mono ?_
        rintro e T2 ⟨⟨u2, rfl, hu2⟩, hB⟩
        obtain ⟨s2, A2, n2, c2, rfl⟩ := hu2.form
        clear hu1
        dsimp only
        replace x_c := x_c.later hB
        replace low := low.trans (Below.mono hB low.size)
        clear hB
        have hS' := x_c.cells
        refine hK.out _ _ ⟨hS'.1, hS'.2.1⟩ (fun hS => ?_)
        clear hK K hS'
        refine one_ready (i := 4) (by kernel_rfl) rfl (fun K hK => ?_)
        go_simp
        have x_q := NB.new (Ni.zero T2 T2.heap.size)
        have hBa := alloc_low T2 (.cells #[.bool false, .slice none 0 0] 25)
        have lt_c := x_c.lt
        have lt_w := low.size
        replace x_c := x_c.later hBa
        replace hu2 := hu2.later hBa (Below.size hBa)
        replace low := low.trans (Below.mono hBa low.size)
        clear hBa
        obtain ⟨T3, hU⟩ : ∃ T3, T3 = T2.alloc (.cells #[.bool false, .slice none 0 0] 25) := ⟨_, rfl⟩
        rw [← hU] at x_c x_q hu2 low ⊢
        clear hU
        obtain ⟨q, hq⟩ : ∃ q, q = T2.heap.size := ⟨_, rfl⟩
        rw [← hq] at x_q lt_c lt_w  ⊢
        clear hq
        have hS' := x_c.cells
        refine hK.out _ _ ⟨hS'.1, hS'.2.1⟩ (fun hS => ?_)
        clear hK K hS'
        refine one_ready (i := 5) (by kernel_rfl) rfl (fun K hK => ?_)
        obtain ⟨m0, m1, m2, m3⟩ := x_q.cells
        go_simp
        have bt := But.set2 T3.heap.size q T3 (.bool s2) (.slice A2 n2 c2)
        replace x_c := x_c.but x_q.1 bt (by omega)
        replace x_q := x_q.put hu2
        replace low := low.trans (bt.low.mono (by omega))
        clear bt hu2
        have hS' := x_c.cells
        refine hK.out _ _ ⟨hS'.1, hS'.2.1⟩ (fun hS => ?_)
        clear hK K hS' m0 m1 m2 m3
        refine wpAnyH_done (by kernel_rfl) ?_ _
        go_wp2_with fail
        go_meet
        case rel => exact ⟨q, s2, A2, n2, c2, z1 * zc, rfl, x_q, Lib.hid (HZ1.out.mul HSC.out), x_c, low⟩
      · go_simp
        have x_q := NB.new (Ni.zero T1 T1.heap.size)
        have hBa := alloc_low T1 (.cells #[.bool false, .slice none 0 0] 25)
        have lt_c := x_c.lt
        have lt_w := low.size
        replace x_c := x_c.later hBa
        replace hu1 := hu1.later hBa (Below.size hBa)
        replace low := low.trans (Below.mono hBa low.size)
        clear hBa
        obtain ⟨T2, hU⟩ : ∃ T2, T2 = T1.alloc (.cells #[.bool false, .slice none 0 0] 25) := ⟨_, rfl⟩
        rw [← hU] at x_c x_q hu1 low ⊢
        clear hU
        obtain ⟨q, hq⟩ : ∃ q, q = T1.heap.size := ⟨_, rfl⟩
        rw [← hq] at x_q lt_c lt_w  ⊢
        clear hq
        have hS' := x_c.cells
        refine hK.out _ _ ⟨hS'.1, hS'.2.1⟩ (fun hS => ?_)
        clear hK K hS'
        refine one_ready (i := 3) (by kernel_rfl) rfl (fun K hK => ?_)
        go_simp
        refine (nmul_any z1 zc u1 _ T2 hu1 x_c.2 (Nat.le_trans (ds_two HZ1.out) (by decide)) (Nat.le_trans (ds_two HSC.out) (by decide))).mono ?_
        rintro e T3 ⟨⟨u2, rfl, hu2⟩, hB⟩
        obtain ⟨s2, A2, n2, c2, rfl⟩ := hu2.form
        clear hu1
        dsimp only
        replace x_c := x_c.later hB
        replace x_q := x_q.later hB
        replace low := low.trans (Below.mono hB low.size)
        clear hB
        have hS' := x_c.cells
        refine hK.out _ _ ⟨hS'.1, hS'.2.1⟩ (fun hS => ?_)
        clear hK K hS'
        refine one_ready (i := 5) (by kernel_rfl) rfl (fun K hK => ?_)
        obtain ⟨m0, m1, m2, m3⟩ := x_q.cells
        go_simp
        have bt := But.set2 T3.heap.size q T3 (.bool s2) (.slice A2 n2 c2)
        replace x_c := x_c.but x_q.1 bt (by omega)
        replace x_q := x_q.put hu2
        replace low := low.trans (bt.low.mono (by omega))
        clear bt hu2
        have hS' := x_c.cells
        refine hK.out _ _ ⟨hS'.1, hS'.2.1⟩ (fun hS => ?_)
        clear hK K hS' m0 m1 m2 m3
        refine wpAnyH_done (by kernel_rfl) ?_ _
        go_wp2_with fail
        go_meet
        case rel => exact ⟨q, s2, A2, n2, c2, z1 * zc, rfl, x_q, Lib.hid (HZ1.out.mul HSC.out), x_c, low⟩
    · go_simp
      have x_q := NB.new (Ni.zero Y0 Y0.heap.size)
      have hBa := alloc_low Y0 (.cells #[.bool false, .slice none 0 0] 25)
      have lt_c := x_c.lt
      have lt_w := low.size
      replace x_c := x_c.later hBa
      replace low := low.trans (Below.mono hBa low.size)
      clear hBa
      obtain ⟨T1, hU⟩ : ∃ T1, T1 = Y0.alloc (.cells #[.bool false, .slice none 0 0] 25) := ⟨_, rfl⟩
      rw [← hU] at x_c x_q low ⊢
      clear hU
      obtain ⟨q, hq⟩ : ∃ q, q = Y0.heap.size := ⟨_, rfl⟩
      rw [← hq] at x_q lt_c lt_w  ⊢
      clear hq
      have hS' := x_c.cells
      refine hK.out _ _ ⟨hS'.1, hS'.2.1⟩ (fun hS => ?_)
      clear hK K hS'
      refine one_ready (i := 1) (by kernel_rfl) rfl (fun K hK => ?_)
      go_simp
      refine (number_any a0 n c xs BD.out 0 0 rfl (by decide) hn T1 (r.later low low.size)).mono ?_
      rintro e T2 ⟨⟨u1, z1, rfl, hu1, hz1⟩, hB⟩
      have HZ1 := Lib.hid hz1
      clear hz1
      dsimp only
      replace x_c := x_c.later hB
      replace x_q := x_q.later hB
      replace low := low.trans (Below.mono hB low.size)
      clear hB
      have hS' := x_c.cells
      refine hK.out _ _ ⟨hS'.1, hS'.2.1⟩ (fun hS => ?_)
      clear hK K hS'
      refine one_ready (i := 3) (by kernel_rfl) rfl (fun K hK => ?_)
      go_simp
      refine (nmul_any z1 zc u1 _ T2 hu1 x_c.2 (Nat.le_trans (ds_two HZ1.out) (by decide)) (Nat.le_trans (ds_two HSC.out) (by decide))).mono ?_
      rintro e T3 ⟨⟨u2, rfl, hu2⟩, hB⟩
      obtain ⟨s2, A2, n2, c2, rfl⟩ := hu2.form
      clear hu1
      dsimp only
      replace x_c := x_c.later hB
      replace x_q := x_q.later hB
      replace low := low.trans (Below.mono hB low.size)
      clear hB
      have hS' := x_c.cells
      refine hK.out _ _ ⟨hS'.1, hS'.2.1⟩ (fun hS => ?_)
      clear hK K hS'
      refine one_ready (i := 5) (by kernel_rfl) rfl (fun K hK => ?_)
      obtain ⟨m0, m1, m2, m3⟩ := x_q.cells
      go_simp
      have bt := But.set2 T3.heap.size q T3 (.bool s2) (.slice A2 n2 c2)
      replace x_c := x_c.but x_q.1 bt (by omega)
      replace x_q := x_q.put hu2
      replace low := low.trans (bt.low.mono (by omega))
      clear bt hu2
      have hS' := x_c.cells
      refine hK.out _ _ ⟨hS'.1, hS'.2.1⟩ (fun hS => ?_)
      clear hK K hS' m0 m1 m2 m3
      refine wpAnyH_done (by kernel_rfl) ?_ _
      go_wp2_with fail
      go_meet
      case rel => exact ⟨q, s2, A2, n2, c2, z1 * zc, rfl, x_q, Lib.hid (HZ1.out.mul HSC.out), x_c, low⟩
  case rest =>
    clear x_c low
    obtain ⟨P_a, s_a, A_a, n_a, c_a, za, rfl, x_a, HSa, x_c, low⟩ := hcut
    skip
    go_upto_region 3 with (fail)
    go_cut [5] from 23 to 26 (fun tv wx => ∃ (p : Nat) (s : Bool) (A : Option Addr) (n c : Nat) (z : Int), tv = .pointer (some ⟨p, 0, none⟩) ∧ NB wx p s A n c z ∧ Hid (Sm z 540) ∧ NB wx p2 s_c A_c n_c c_c zc ∧ NB wx P_a s_a A_a n_a c_a za ∧ Below w.heap.size w wx)
    case first =>
      obtain ⟨S, hSd⟩ : ∃ S : World → Prop, S = fun w' => w'.cell? ⟨p2, 0, none⟩ = some (.bool s_c) ∧ w'.cell? ⟨p2, 1, none⟩ = some (.slice A_c n_c c_c) := ⟨_, rfl⟩
      refine wp_region_held (S := S) (by kernel_rfl) ?_
      change wpAnyH _ _ _ _ _ _ _ _ wc.drew
      obtain ⟨Y0, hY0⟩ : ∃ Y0, Y0 = wc.drew := ⟨_, rfl⟩
      replace x_c : NB Y0 p2 s_c A_c n_c c_c zc := by rw [hY0]; exact x_c.later (Below.refl _ _).drew
      replace x_a : NB Y0 P_a s_a A_a n_a c_a za := by rw [hY0]; exact x_a.later (Below.refl _ _).drew
      replace low : Below w.heap.size w Y0 := by rw [hY0]; exact low.drew
      rw [← hY0]
      clear hY0
      subst hSd
      have hS : Y0.cell? ⟨p2, 0, none⟩ = some (.bool s_c) ∧ Y0.cell? ⟨p2, 1, none⟩ = some (.slice A_c n_c c_c) := ⟨x_c.cells.1, x_c.cells.2.1⟩
      refine wpAnyH_take (i := 0) (v := .slice a0 n c) rfl (by kernel_rfl) (by kernel_rfl) (by kernel_rfl) (fun _ _ _ h => h) (Or.inl ⟨by rfl, by intro w hSw; go_simp⟩) hS ?_
      refine wpAnyH_take (i := 2) (v := .agg #[.bool s_c, .slice A_c n_c c_c]) rfl (by kernel_rfl) (by kernel_rfl) (by kernel_rfl) (fun _ _ _ h => h) (Or.inl ⟨by rfl, by intro w hSw; obtain ⟨q0, q1⟩ := hSw; go_simp⟩) hS ?_
      dsimp only [Act.put, List.getElem_toArray, List.getElem_cons_succ, List.getElem_cons_zero, List.setIfInBounds_toArray, List.set_cons_zero, List.set_cons_succ]
      refine two_ready (i := 1) (j := 4) (by kernel_rfl) rfl rfl (fun K hK => ?_) (fun K hK => ?_)
      · go_simp
        refine (number_any a0 n c xs BD.out 6 6 rfl (by decide) hn Y0 (r.later low low.size)).mono ?_
        rintro e T1 ⟨⟨u1, z1, rfl, hu1, hz1⟩, hB⟩
        have HZ1 := Lib.hid hz1
        clear hz1
        dsimp only
        replace x_c := x_c.later hB
        replace x_a := x_a.later hB
        replace low := low.trans (Below.mono hB low.size)
        clear hB
        have hS' := x_c.cells
        refine hK.out _ _ ⟨hS'.1, hS'.2.1⟩ (fun hS => ?_)
        clear hK K hS'
        refine two_ready (i := 3) (j := 4) (by kernel_rfl) rfl rfl (fun K hK => ?_) (fun K hK => ?_)
        · go_simp
          refine (nmul_any z1 zc u1 _ T1 hu1 x_c.2 (Nat.le_trans (ds_two HZ1.out) (by decide)) (Nat.le_trans (ds_two HSC.out) (by decide))).mono ?_
          rintro e T2 ⟨⟨u2, rfl, hu2⟩, hB⟩
          obtain ⟨s2, A2, n2, c2, rfl⟩ := hu2.form
          clear hu1
          dsimp only
          replace x_c := x_c.later hB
          replace x_a := x_a.later hB
          replace low := low.trans (Below.mono hB low.size)
          clear hB
          have hS' := x_c.cells
          refine hK.out _ _ ⟨hS'.1, hS'.2.1⟩ (fun hS => ?_)
          clear hK K hS'
          refine one_ready (i := 4) (by kernel_rfl) rfl (fun K hK => ?_)
          go_simp
          have x_q := NB.new (Ni.zero T2 T2.heap.size)
          have hBa := alloc_low T2 (.cells #[.bool false, .slice none 0 0] 25)
          have lt_c := x_c.lt
          have lt_a := x_a.lt
          have lt_w := low.size
          replace x_c := x_c.later hBa
          replace x_a := x_a.later hBa
          replace hu2 := hu2.later hBa (Below.size hBa)
          replace low := low.trans (Below.mono hBa low.size)
          clear hBa
          obtain ⟨T3, hU⟩ : ∃ T3, T3 = T2.alloc (.cells #[.bool false, .slice none 0 0] 25) := ⟨_, rfl⟩
          rw [← hU] at x_c x_a x_q hu2 low ⊢
          clear hU
          obtain ⟨q, hq⟩ : ∃ q, q = T2.heap.size := ⟨_, rfl⟩
          rw [← hq] at x_q lt_c lt_w lt_a ⊢
          clear hq
          have hS' := x_c.cells
          refine hK.out _ _ ⟨hS'.1, hS'.2.1⟩ (fun hS => ?_)
          clear hK K hS'
          refine one_ready (i := 5) (by kernel_rfl) rfl (fun K hK => ?_)
          obtain ⟨m0, m1, m2, m3⟩ := x_q.cells
          go_simp
          have bt := But.set2 T3.heap.size q T3 (.bool s2) (.slice A2 n2 c2)
          replace x_c := x_c.but x_q.1 bt (by omega)
          replace x_a := x_a.but x_q.1 bt (by omega)
          replace x_q := x_q.put hu2
          replace low := low.trans (bt.low.mono (by omega))
          clear bt hu2
          have hS' := x_c.cells
          refine hK.out _ _ ⟨hS'.1, hS'.2.1⟩ (fun hS => ?_)
          clear hK K hS' m0 m1 m2 m3
          refine wpAnyH_done (by kernel_rfl) ?_ _
          go_wp2_with fail
          go_meet
          case rel => exact ⟨q, s2, A2, n2, c2, z1 * zc, rfl, x_q, Lib.hid (HZ1.out.mul HSC.out), x_c, x_a, low⟩
        · go_simp
          have x_q := NB.new (Ni.zero T1 T1.heap.size)
          have hBa := alloc_low T1 (.cells #[.bool false, .slice none 0 0] 25)
          have lt_c := x_c.lt
          have lt_a := x_a.lt
          have lt_w := low.size
          replace x_c := x_c.later hBa
          replace x_a := x_a.later hBa
          replace hu1 := hu1.later hBa (Below.size hBa)
          replace low := low.trans (Below.mono hBa low.size)
          clear hBa
          obtain ⟨T2, hU⟩ : ∃ T2, T2 = T1.alloc (.cells #[.bool false, .slice none 0 0] 25) := ⟨_, rfl⟩
          rw [← hU] at x_c x_a x_q hu1 low ⊢
          clear hU
          obtain ⟨q, hq⟩ : ∃ q, q = T1.heap.size := ⟨_, rfl⟩
          rw [← hq] at x_q lt_c lt_w lt_a ⊢
          clear hq
          have hS' := x_c.cells
          refine hK.out _ _ ⟨hS'.1, hS'.2.1⟩ (fun hS => ?_)
          clear hK K hS'
          refine one_ready (i := 3) (by kernel_rfl) rfl (fun K hK => ?_)
          go_simp
          refine (nmul_any z1 zc u1 _ T2 hu1 x_c.2 (Nat.le_trans (ds_two HZ1.out) (by decide)) (Nat.le_trans (ds_two HSC.out) (by decide))).mono ?_
          rintro e T3 ⟨⟨u2, rfl, hu2⟩, hB⟩
          obtain ⟨s2, A2, n2, c2, rfl⟩ := hu2.form
          clear hu1
          dsimp only
          replace x_c := x_c.later hB
          replace x_a := x_a.later hB
          replace x_q := x_q.later hB
          replace low := low.trans (Below.mono hB low.size)
          clear hB
          have hS' := x_c.cells
          refine hK.out _ _ ⟨hS'.1, hS'.2.1⟩ (fun hS => ?_)
          clear hK K hS'
          refine one_ready (i := 5) (by kernel_rfl) rfl (fun K hK => ?_)
          obtain ⟨m0, m1, m2, m3⟩ := x_q.cells
          go_simp
          have bt := But.set2 T3.heap.size q T3 (.bool s2) (.slice A2 n2 c2)
          replace x_c := x_c.but x_q.1 bt (by omega)
          replace x_a := x_a.but x_q.1 bt (by omega)
          replace x_q := x_q.put hu2
          replace low := low.trans (bt.low.mono (by omega))
          clear bt hu2
          have hS' := x_c.cells
          refine hK.out _ _ ⟨hS'.1, hS'.2.1⟩ (fun hS => ?_)
          clear hK K hS' m0 m1 m2 m3
          refine wpAnyH_done (by kernel_rfl) ?_ _
          go_wp2_with fail
          go_meet
          case rel => exact ⟨q, s2, A2, n2, c2, z1 * zc, rfl, x_q, Lib.hid (HZ1.out.mul HSC.out), x_c, x_a, low⟩
      · go_simp
        have x_q := NB.new (Ni.zero Y0 Y0.heap.size)
        have hBa := alloc_low Y0 (.cells #[.bool false, .slice none 0 0] 25)
        have lt_c := x_c.lt
        have lt_a := x_a.lt
        have lt_w := low.size
        replace x_c := x_c.later hBa
        replace x_a := x_a.later hBa
        replace low := low.trans (Below.mono hBa low.size)
        clear hBa
        obtain ⟨T1, hU⟩ : ∃ T1, T1 = Y0.alloc (.cells #[.bool false, .slice none 0 0] 25) := ⟨_, rfl⟩
        rw [← hU] at x_c x_a x_q low ⊢
        clear hU
        obtain ⟨q, hq⟩ : ∃ q, q = Y0.heap.size := ⟨_, rfl⟩
        rw [← hq] at x_q lt_c lt_w lt_a ⊢
        clear hq
        have hS' := x_c.cells
        refine hK.out _ _ ⟨hS'.1, hS'.2.1⟩ (fun hS => ?_)
        clear hK K hS'
        refine one_ready (i := 1) (by kernel_rfl) rfl (fun K hK => ?_)
        go_simp
        refine (number_any a0 n c xs BD.out 6 6 rfl (by decide) hn T1 (r.later low low.size)).mono ?_
        rintro e T2 ⟨⟨u1, z1, rfl, hu1, hz1⟩, hB⟩
        have HZ1 := Lib.hid hz1
        clear hz1
        dsimp only
        replace x_c := x_c.later hB
        replace x_a := x_a.later hB
        replace x_q := x_q.later hB
        replace low := low.trans (Below.mono hB low.size)
        clear hB
        have hS' := x_c.cells
        refine hK.out _ _ ⟨hS'.1, hS'.2.1⟩ (fun hS => ?_)
        clear hK K hS'
        refine one_ready (i := 3) (by kernel_rfl) rfl (fun K hK => ?_)
        go_simp
        refine (nmul_any z1 zc u1 _ T2 hu1 x_c.2 (Nat.le_trans (ds_two HZ1.out) (by decide)) (Nat.le_trans (ds_two HSC.out) (by decide))).mono ?_
        rintro e T3 ⟨⟨u2, rfl, hu2⟩, hB⟩
        obtain ⟨s2, A2, n2, c2, rfl⟩ := hu2.form
        clear hu1
        dsimp only
        replace x_c := x_c.later hB
        replace x_a := x_a.later hB
        replace x_q := x_q.later hB
        replace low := low.trans (Below.mono hB low.size)
        clear hB
        have hS' := x_c.cells
        refine hK.out _ _ ⟨hS'.1, hS'.2.1⟩ (fun hS => ?_)
        clear hK K hS'
        refine one_ready (i := 5) (by kernel_rfl) rfl (fun K hK => ?_)
        obtain ⟨m0, m1, m2, m3⟩ := x_q.cells
        go_simp
        have bt := But.set2 T3.heap.size q T3 (.bool s2) (.slice A2 n2 c2)
        replace x_c := x_c.but x_q.1 bt (by omega)
        replace x_a := x_a.but x_q.1 bt (by omega)
        replace x_q := x_q.put hu2
        replace low := low.trans (bt.low.mono (by omega))
        clear bt hu2
        have hS' := x_c.cells
        refine hK.out _ _ ⟨hS'.1, hS'.2.1⟩ (fun hS => ?_)
        clear hK K hS' m0 m1 m2 m3
        refine wpAnyH_done (by kernel_rfl) ?_ _
        go_wp2_with fail
        go_meet
        case rel => exact ⟨q, s2, A2, n2, c2, z1 * zc, rfl, x_q, Lib.hid (HZ1.out.mul HSC.out), x_c, x_a, low⟩
    case rest =>
      clear x_c x_a low
      obtain ⟨P_b, s_b, A_b, n_b, c_b, zb, rfl, x_b, HSb, x_c, x_a, low⟩ := hcut
      skip
      clear x_c HSC
      have HIa := Lib.hid (inR_sm (HSa.out.mono (by decide)))
      have HIb := Lib.hid (inR_sm (HSb.out.mono (by decide)))
      obtain ⟨k_a0, k_a1, -, -⟩ := x_a.cells
      go_wp2_with fail
      clear k_a0 k_a1
      refine (wider_ok za _ wc x_a.2 HIa.out).mono ?_
      rintro e V5 ⟨⟨u_x, rfl, h_x⟩, hB⟩
      replace x_a := x_a.later hB
      replace x_b := x_b.later hB
      replace low := low.trans (hB.mono low.size)
      clear hB
      obtain ⟨s_x, A_x, n_x, c_x, rfl⟩ := h_x.form
      have x_x := WB.new h_x
      replace x_a := x_a.later (alloc_low (V5) (.cells #[.bool s_x, .slice A_x n_x c_x] 33))
      replace x_b := x_b.later (alloc_low (V5) (.cells #[.bool s_x, .slice A_x n_x c_x] 33))
      replace h_x := h_x.later (alloc_low (V5) (.cells #[.bool s_x, .slice A_x n_x c_x] 33)) (alloc_low (V5) (.cells #[.bool s_x, .slice A_x n_x c_x] 33)).size
      replace low := low.trans ((alloc_low (V5) (.cells #[.bool s_x, .slice A_x n_x c_x] 33)).mono low.size)
      obtain ⟨k_b0, k_b1, -, -⟩ := x_b.cells
      go_wp2_with fail
      clear k_b0 k_b1
      clear h_x
      obtain ⟨V6, hV⟩ : ∃ V6, V6 = (V5).alloc (.cells #[.bool s_x, .slice A_x n_x c_x] 33) := ⟨_, rfl⟩
      rw [← hV] at x_a x_b x_x low ⊢
      clear hV
      obtain ⟨p6, hp⟩ : ∃ p6, p6 = V5.heap.size := ⟨_, rfl⟩
      rw [← hp] at x_x ⊢
      clear hp
      refine (wider_ok zb _ V6 x_b.2 HIb.out).mono ?_
      rintro e V7 ⟨⟨u_y, rfl, h_y⟩, hB⟩
      replace x_a := x_a.later hB
      replace x_b := x_b.later hB
      replace x_x := x_x.later hB
      replace low := low.trans (hB.mono low.size)
      clear hB
      obtain ⟨s_y, A_y, n_y, c_y, rfl⟩ := h_y.form
      have x_y := WB.new h_y
      replace x_a := x_a.later (alloc_low (V7) (.cells #[.bool s_y, .slice A_y n_y c_y] 33))
      replace x_b := x_b.later (alloc_low (V7) (.cells #[.bool s_y, .slice A_y n_y c_y] 33))
      replace x_x := x_x.later (alloc_low (V7) (.cells #[.bool s_y, .slice A_y n_y c_y] 33))
      replace h_y := h_y.later (alloc_low (V7) (.cells #[.bool s_y, .slice A_y n_y c_y] 33)) (alloc_low (V7) (.cells #[.bool s_y, .slice A_y n_y c_y] 33)).size
      replace low := low.trans ((alloc_low (V7) (.cells #[.bool s_y, .slice A_y n_y c_y] 33)).mono low.size)
      obtain ⟨k_x0, k_x1, -, -⟩ := x_x.cells
      obtain ⟨k_y0, k_y1, -, -⟩ := x_y.cells
      go_wp2_with fail
      clear k_x0 k_x1 k_y0 k_y1
      clear h_y
      obtain ⟨V8, hV⟩ : ∃ V8, V8 = (V7).alloc (.cells #[.bool s_y, .slice A_y n_y c_y] 33) := ⟨_, rfl⟩
      rw [← hV] at x_a x_b x_x x_y low ⊢
      clear hV
      obtain ⟨p8, hp⟩ : ∃ p8, p8 = V7.heap.size := ⟨_, rfl⟩
      rw [← hp] at x_y ⊢
      clear hp
      obtain ⟨G, hG⟩ : ∃ G, G = Nat.gcd za.natAbs zb.natAbs := ⟨_, rfl⟩
      have HIg := Lib.hid (inR_sm ((sm_gcd za zb G 540 hG HSa.out HSb.out).mono (show 540 ≤ 16384 by decide)))
      refine (gcd_any za zb _ _ V8 x_x.2 x_y.2 (by have := HIa.out.len; omega) (by have := HIb.out.len; omega)).mono ?_
      rintro e V9 ⟨⟨u_g, rfl, h_g⟩, hB⟩
      replace x_a := x_a.later hB
      replace x_b := x_b.later hB
      replace x_x := x_x.later hB
      replace x_y := x_y.later hB
      replace low := low.trans (hB.mono low.size)
      clear hB
      rw [← hG] at h_g
      have HG := Lib.hid hG
      clear hG
      obtain ⟨s_g, A_g, n_g, c_g, rfl⟩ := h_g.form
      have x_g := WB.new h_g
      replace x_a := x_a.later (alloc_low (V9) (.cells #[.bool s_g, .slice A_g n_g c_g] 33))
      replace x_b := x_b.later (alloc_low (V9) (.cells #[.bool s_g, .slice A_g n_g c_g] 33))
      replace x_x := x_x.later (alloc_low (V9) (.cells #[.bool s_g, .slice A_g n_g c_g] 33))
      replace x_y := x_y.later (alloc_low (V9) (.cells #[.bool s_g, .slice A_g n_g c_g] 33))
      replace h_g := h_g.later (alloc_low (V9) (.cells #[.bool s_g, .slice A_g n_g c_g] 33)) (alloc_low (V9) (.cells #[.bool s_g, .slice A_g n_g c_g] 33)).size
      replace low := low.trans ((alloc_low (V9) (.cells #[.bool s_g, .slice A_g n_g c_g] 33)).mono low.size)
      go_wp2_with fail
      clear h_g
      obtain ⟨V10, hV⟩ : ∃ V10, V10 = (V9).alloc (.cells #[.bool s_g, .slice A_g n_g c_g] 33) := ⟨_, rfl⟩
      rw [← hV] at x_a x_b x_x x_y x_g low ⊢
      clear hV
      obtain ⟨p10, hp⟩ : ∃ p10, p10 = V9.heap.size := ⟨_, rfl⟩
      rw [← hp] at x_g ⊢
      clear hp
      have hk : ∀ V, Below V10.heap.size V10 V → V.cell? ⟨p10, 0, none⟩ = some (.bool s_g) ∧ V.cell? ⟨p10, 1, none⟩ = some (.slice A_g n_g c_g) ∧ V.cell? ⟨P_a, 0, none⟩ = some (.bool s_a) ∧ V.cell? ⟨P_a, 1, none⟩ = some (.slice A_a n_a c_a) ∧ V.cell? ⟨P_b, 0, none⟩ = some (.bool s_b) ∧ V.cell? ⟨P_b, 1, none⟩ = some (.slice A_b n_b c_b) ∧ Below V10.heap.size V10 V := fun V hV => ⟨(x_g.later hV).cells.1, (x_g.later hV).cells.2.1, (x_a.later hV).cells.1, (x_a.later hV).cells.2.1, (x_b.later hV).cells.1, (x_b.later hV).cells.2.1, hV⟩
      have HK := Lib.hid hk
      clear hk
      have hst : Below V10.heap.size V10 V10.drew := (Below.refl _ _).drew
      have hc1 : ∀ V, Below V10.heap.size V10 V → Calls Tryd.prog 42 #[.agg #[.bool s_a, .slice A_a n_a c_a], .agg #[.bool s_b, .slice A_b n_b c_b]] V fun e W' => (∃ u, e = .returned u ∧ Ni W' W'.heap.size u (G : Int)) ∧ Below V10.heap.size V10 W' := fun V hV => by
        have h := ngcd_any za zb _ _ (Nat.le_trans (ds_two HSa.out) (by decide)) (Nat.le_trans (ds_two HSb.out) (by decide)) V (x_a.later hV).2 (x_b.later hV).2
        rw [← HG.out] at h
        exact h.mono fun _ _ ⟨he, h⟩ => ⟨he, hV.trans (h.mono hV.size)⟩
      have HC1 := Lib.hid hc1
      clear hc1
      have hc2 : ∀ V, Below V10.heap.size V10 V → ∀ v, Ni V V.heap.size v (G : Int) → Calls Tryd.prog 18 #[.agg #[.bool s_g, .slice A_g n_g c_g], v] V fun e W' => (e = .returned (.bool true)) ∧ Below V10.heap.size V10 W' := fun V hV v hv => (equal_t (G : Int) (G : Int) rfl _ v V (x_g.later hV).2 hv HIg.out).mono fun _ _ ⟨he, h⟩ => ⟨he, hV.trans (h.mono hV.size)⟩
      have HC2 := Lib.hid hc2
      clear hc2
      go_region_held3 (fun w' => w'.cell? ⟨p10, 0, none⟩ = some (.bool s_g) ∧ w'.cell? ⟨p10, 1, none⟩ = some (.slice A_g n_g c_g) ∧ w'.cell? ⟨P_a, 0, none⟩ = some (.bool s_a) ∧ w'.cell? ⟨P_a, 1, none⟩ = some (.slice A_a n_a c_a) ∧ w'.cell? ⟨P_b, 0, none⟩ = some (.bool s_b) ∧ w'.cell? ⟨P_b, 1, none⟩ = some (.slice A_b n_b c_b) ∧ Below V10.heap.size V10 w')
        (first
          | exact HK.out _ hst
          | exact HK.out _ hB2
          | exact HK.out _ hB1)
        (first
          | (go_at_call_of 42 n_a; refine (HC1.out _ (by assumption)).mono ?_; rintro e U1 ⟨⟨u1, rfl, hu1⟩, hB1⟩)
          | (go_at_call_of 18 n_g; refine (HC2.out _ (by assumption) _ hu1).mono ?_; rintro e U2 ⟨rfl, hB2⟩))
      clear HK hst HC1 HC2 hu1 hB1
      replace x_a := x_a.later hB2
      replace x_b := x_b.later hB2
      replace x_x := x_x.later hB2
      replace x_y := x_y.later hB2
      replace x_g := x_g.later hB2
      replace low := low.trans (hB2.mono low.size)
      clear hB2
      obtain ⟨k_g0, k_g1, -, -⟩ := x_g.cells
      go_wp2_with fail
      clear k_g0 k_g1
      have hcase : G = 0 ∨ 0 < G := Nat.eq_zero_or_pos G
      rcases hcase with hg0 | hgp
      · skip
        refine (sign_any (G : Int) _ U2 x_g.2).mono ?_
        rintro e V11 ⟨rfl, hB⟩
        replace x_a := x_a.later hB
        replace x_b := x_b.later hB
        replace x_x := x_x.later hB
        replace x_y := x_y.later hB
        replace x_g := x_g.later hB
        replace low := low.trans (hB.mono low.size)
        clear hB
        rw [cmpI_eq (show (G : Int) = 0 by omega)]
        have hz0 := Nat.gcd_eq_zero_iff.1 (HG.out.symm.trans hg0)
        have hna : n_a = 0 := nb_zero x_a (by omega)
        have hnb : n_b = 0 := nb_zero x_b (by omega)
        subst hna hnb
        clear hz0 hg0 x_x x_y x_g
        obtain ⟨k_a0, k_a1, -, -⟩ := x_a.cells
        obtain ⟨k_b0, k_b1, -, -⟩ := x_b.cells
        go_wp2_with fail
        clear k_a0 k_a1 k_b0 k_b1
        refine (lives_any V11).mono ?_
        rintro e V12 ⟨rfl, hB⟩
        replace x_a := x_a.later hB
        replace x_b := x_b.later hB
        replace low := low.trans (hB.mono low.size)
        clear hB
        go_wp2_with fail
        go_ret
        exact ⟨rfl, low⟩
      · skip
        clear x_a x_b
        refine (sign_any (G : Int) _ U2 x_g.2).mono ?_
        rintro e V11 ⟨rfl, hB⟩
        replace x_x := x_x.later hB
        replace x_y := x_y.later hB
        replace x_g := x_g.later hB
        replace low := low.trans (hB.mono low.size)
        clear hB
        rw [cmpI_gt (show (0 : Int) < (G : Int) by omega)]
        obtain ⟨k_x0, k_x1, -, -⟩ := x_x.cells
        obtain ⟨k_g0, k_g1, -, -⟩ := x_g.cells
        go_wp2_with fail
        clear k_x0 k_x1 k_g0 k_g1
        obtain ⟨hda, hdb, hqa, hqb, hg1⟩ := gcd_parts za zb G HG.out hgp
        have hSq : Sm (za / (G : Int)) 540 := sm_le (by rw [hqa]; exact Nat.div_le_self _ _) HSa.out
        have hSs : Sm (zb / (G : Int)) 540 := sm_le (by rw [hqb]; exact Nat.div_le_self _ _) HSb.out
        have HIq := Lib.hid (inR_sm (hSq.mono (show 540 ≤ 16384 by decide)))
        have HIs := Lib.hid (inR_sm (hSs.mono (show 540 ≤ 16384 by decide)))
        have HG1 := Lib.hid hg1
        have hg00 : (G : Int) ≠ 0 := by omega
        have HDA := Lib.hid hda
        have HDB := Lib.hid hdb
        have HG0 := Lib.hid hg00
        clear hSq hSs hqa hqb hg1 hg00 hda hdb hgp
        refine (div_ok za (G : Int) _ _ V11 x_x.2 x_g.2 HIa.out HIg.out HG0.out).mono ?_
        rintro e V12 ⟨⟨u_q, u_r, rfl, h_q, h_r⟩, hB⟩
        replace x_x := x_x.later hB
        replace x_y := x_y.later hB
        replace x_g := x_g.later hB
        replace low := low.trans (hB.mono low.size)
        clear hB
        rw [HDA.out] at h_r
        obtain ⟨s_q, A_q, n_q, c_q, rfl⟩ := h_q.form
        have x_q := WB.new h_q
        replace x_x := x_x.later (alloc_low (V12) (.cells #[.bool s_q, .slice A_q n_q c_q] 33))
        replace x_y := x_y.later (alloc_low (V12) (.cells #[.bool s_q, .slice A_q n_q c_q] 33))
        replace x_g := x_g.later (alloc_low (V12) (.cells #[.bool s_q, .slice A_q n_q c_q] 33))
        replace h_q := h_q.later (alloc_low (V12) (.cells #[.bool s_q, .slice A_q n_q c_q] 33)) (alloc_low (V12) (.cells #[.bool s_q, .slice A_q n_q c_q] 33)).size
        replace h_r := h_r.later (alloc_low (V12) (.cells #[.bool s_q, .slice A_q n_q c_q] 33)) (alloc_low (V12) (.cells #[.bool s_q, .slice A_q n_q c_q] 33)).size
        replace low := low.trans ((alloc_low (V12) (.cells #[.bool s_q, .slice A_q n_q c_q] 33)).mono low.size)
        obtain ⟨s_r, A_r, n_r, c_r, rfl⟩ := h_r.form
        have x_r := WB.new h_r
        simp only [World.size_alloc] at x_r
        replace x_x := x_x.later (alloc_low ((V12).alloc (.cells #[.bool s_q, .slice A_q n_q c_q] 33)) (.cells #[.bool s_r, .slice A_r n_r c_r] 33))
        replace x_y := x_y.later (alloc_low ((V12).alloc (.cells #[.bool s_q, .slice A_q n_q c_q] 33)) (.cells #[.bool s_r, .slice A_r n_r c_r] 33))
        replace x_g := x_g.later (alloc_low ((V12).alloc (.cells #[.bool s_q, .slice A_q n_q c_q] 33)) (.cells #[.bool s_r, .slice A_r n_r c_r] 33))
        replace x_q := x_q.later (alloc_low ((V12).alloc (.cells #[.bool s_q, .slice A_q n_q c_q] 33)) (.cells #[.bool s_r, .slice A_r n_r c_r] 33))
        replace h_q := h_q.later (alloc_low ((V12).alloc (.cells #[.bool s_q, .slice A_q n_q c_q] 33)) (.cells #[.bool s_r, .slice A_r n_r c_r] 33)) (alloc_low ((V12).alloc (.cells #[.bool s_q, .slice A_q n_q c_q] 33)) (.cells #[.bool s_r, .slice A_r n_r c_r] 33)).size
        replace h_r := h_r.later (alloc_low ((V12).alloc (.cells #[.bool s_q, .slice A_q n_q c_q] 33)) (.cells #[.bool s_r, .slice A_r n_r c_r] 33)) (alloc_low ((V12).alloc (.cells #[.bool s_q, .slice A_q n_q c_q] 33)) (.cells #[.bool s_r, .slice A_r n_r c_r] 33)).size
        replace low := low.trans ((alloc_low ((V12).alloc (.cells #[.bool s_q, .slice A_q n_q c_q] 33)) (.cells #[.bool s_r, .slice A_r n_r c_r] 33)).mono low.size)
        obtain ⟨k_y0, k_y1, -, -⟩ := x_y.cells
        obtain ⟨k_g0, k_g1, -, -⟩ := x_g.cells
        go_wp2_with fail
        clear k_y0 k_y1 k_g0 k_g1
        clear h_q
        clear h_r
        obtain ⟨V13, hV⟩ : ∃ V13, V13 = ((V12).alloc (.cells #[.bool s_q, .slice A_q n_q c_q] 33)).alloc (.cells #[.bool s_r, .slice A_r n_r c_r] 33) := ⟨_, rfl⟩
        rw [← hV] at x_x x_y x_g x_q x_r low ⊢
        clear hV
        obtain ⟨p13, hp⟩ : ∃ p13, p13 = V12.heap.size := ⟨_, rfl⟩
        rw [← hp] at x_q x_r ⊢
        clear hp
        refine (div_ok zb (G : Int) _ _ V13 x_y.2 x_g.2 HIb.out HIg.out HG0.out).mono ?_
        rintro e V14 ⟨⟨u_s, u_t, rfl, h_s, h_t⟩, hB⟩
        replace x_x := x_x.later hB
        replace x_y := x_y.later hB
        replace x_g := x_g.later hB
        replace x_q := x_q.later hB
        replace x_r := x_r.later hB
        replace low := low.trans (hB.mono low.size)
        clear hB
        rw [HDB.out] at h_t
        obtain ⟨s_s, A_s, n_s, c_s, rfl⟩ := h_s.form
        have x_s := WB.new h_s
        replace x_x := x_x.later (alloc_low (V14) (.cells #[.bool s_s, .slice A_s n_s c_s] 33))
        replace x_y := x_y.later (alloc_low (V14) (.cells #[.bool s_s, .slice A_s n_s c_s] 33))
        replace x_g := x_g.later (alloc_low (V14) (.cells #[.bool s_s, .slice A_s n_s c_s] 33))
        replace x_q := x_q.later (alloc_low (V14) (.cells #[.bool s_s, .slice A_s n_s c_s] 33))
        replace x_r := x_r.later (alloc_low (V14) (.cells #[.bool s_s, .slice A_s n_s c_s] 33))
        replace h_s := h_s.later (alloc_low (V14) (.cells #[.bool s_s, .slice A_s n_s c_s] 33)) (alloc_low (V14) (.cells #[.bool s_s, .slice A_s n_s c_s] 33)).size
        replace h_t := h_t.later (alloc_low (V14) (.cells #[.bool s_s, .slice A_s n_s c_s] 33)) (alloc_low (V14) (.cells #[.bool s_s, .slice A_s n_s c_s] 33)).size
        replace low := low.trans ((alloc_low (V14) (.cells #[.bool s_s, .slice A_s n_s c_s] 33)).mono low.size)
        obtain ⟨s_t, A_t, n_t, c_t, rfl⟩ := h_t.form
        have x_t := WB.new h_t
        simp only [World.size_alloc] at x_t
        replace x_x := x_x.later (alloc_low ((V14).alloc (.cells #[.bool s_s, .slice A_s n_s c_s] 33)) (.cells #[.bool s_t, .slice A_t n_t c_t] 33))
        replace x_y := x_y.later (alloc_low ((V14).alloc (.cells #[.bool s_s, .slice A_s n_s c_s] 33)) (.cells #[.bool s_t, .slice A_t n_t c_t] 33))
        replace x_g := x_g.later (alloc_low ((V14).alloc (.cells #[.bool s_s, .slice A_s n_s c_s] 33)) (.cells #[.bool s_t, .slice A_t n_t c_t] 33))
        replace x_q := x_q.later (alloc_low ((V14).alloc (.cells #[.bool s_s, .slice A_s n_s c_s] 33)) (.cells #[.bool s_t, .slice A_t n_t c_t] 33))
        replace x_r := x_r.later (alloc_low ((V14).alloc (.cells #[.bool s_s, .slice A_s n_s c_s] 33)) (.cells #[.bool s_t, .slice A_t n_t c_t] 33))
        replace x_s := x_s.later (alloc_low ((V14).alloc (.cells #[.bool s_s, .slice A_s n_s c_s] 33)) (.cells #[.bool s_t, .slice A_t n_t c_t] 33))
        replace h_s := h_s.later (alloc_low ((V14).alloc (.cells #[.bool s_s, .slice A_s n_s c_s] 33)) (.cells #[.bool s_t, .slice A_t n_t c_t] 33)) (alloc_low ((V14).alloc (.cells #[.bool s_s, .slice A_s n_s c_s] 33)) (.cells #[.bool s_t, .slice A_t n_t c_t] 33)).size
        replace h_t := h_t.later (alloc_low ((V14).alloc (.cells #[.bool s_s, .slice A_s n_s c_s] 33)) (.cells #[.bool s_t, .slice A_t n_t c_t] 33)) (alloc_low ((V14).alloc (.cells #[.bool s_s, .slice A_s n_s c_s] 33)) (.cells #[.bool s_t, .slice A_t n_t c_t] 33)).size
        replace low := low.trans ((alloc_low ((V14).alloc (.cells #[.bool s_s, .slice A_s n_s c_s] 33)) (.cells #[.bool s_t, .slice A_t n_t c_t] 33)).mono low.size)
        obtain ⟨k_r0, k_r1, -, -⟩ := x_r.cells
        go_wp2_with fail
        clear k_r0 k_r1
        clear h_s
        clear h_t
        obtain ⟨V15, hV⟩ : ∃ V15, V15 = ((V14).alloc (.cells #[.bool s_s, .slice A_s n_s c_s] 33)).alloc (.cells #[.bool s_t, .slice A_t n_t c_t] 33) := ⟨_, rfl⟩
        rw [← hV] at x_x x_y x_g x_q x_r x_s x_t low ⊢
        clear hV
        obtain ⟨p15, hp⟩ : ∃ p15, p15 = V14.heap.size := ⟨_, rfl⟩
        rw [← hp] at x_s x_t ⊢
        clear hp
        refine (sign_any 0 _ V15 x_r.2).mono ?_
        rintro e V16 ⟨rfl, hB⟩
        replace x_x := x_x.later hB
        replace x_y := x_y.later hB
        replace x_g := x_g.later hB
        replace x_q := x_q.later hB
        replace x_r := x_r.later hB
        replace x_s := x_s.later hB
        replace x_t := x_t.later hB
        replace low := low.trans (hB.mono low.size)
        clear hB
        rw [cmpI_eq rfl]
        obtain ⟨k_t0, k_t1, -, -⟩ := x_t.cells
        go_wp2_with fail
        clear k_t0 k_t1
        refine (sign_any 0 _ V16 x_t.2).mono ?_
        rintro e V17 ⟨rfl, hB⟩
        replace x_x := x_x.later hB
        replace x_y := x_y.later hB
        replace x_g := x_g.later hB
        replace x_q := x_q.later hB
        replace x_r := x_r.later hB
        replace x_s := x_s.later hB
        replace x_t := x_t.later hB
        replace low := low.trans (hB.mono low.size)
        clear hB
        rw [cmpI_eq rfl]
        obtain ⟨k_q0, k_q1, -, -⟩ := x_q.cells
        obtain ⟨k_s0, k_s1, -, -⟩ := x_s.cells
        go_wp2_with fail
        clear k_q0 k_q1 k_s0 k_s1
        refine (gcd_any (za / (G : Int)) (zb / (G : Int)) _ _ V17 x_q.2 x_s.2 (by have := HIq.out.len; omega) (by have := HIs.out.len; omega)).mono ?_
        rintro e V18 ⟨⟨u_o, rfl, h_o⟩, hB⟩
        replace x_x := x_x.later hB
        replace x_y := x_y.later hB
        replace x_g := x_g.later hB
        replace x_q := x_q.later hB
        replace x_r := x_r.later hB
        replace x_s := x_s.later hB
        replace x_t := x_t.later hB
        replace low := low.trans (hB.mono low.size)
        clear hB
        rw [HG1.out] at h_o
        go_wp2_with fail
        refine (from_any 1 (by decide) (by decide) V18).mono ?_
        rintro e V19 ⟨⟨u_1, rfl, h_1⟩, hB⟩
        replace x_x := x_x.later hB
        replace x_y := x_y.later hB
        replace x_g := x_g.later hB
        replace x_q := x_q.later hB
        replace x_r := x_r.later hB
        replace x_s := x_s.later hB
        replace x_t := x_t.later hB
        replace h_o := h_o.later hB hB.size
        replace low := low.trans (hB.mono low.size)
        clear hB
        go_wp2_with fail
        refine (compare_any ((1 : Nat) : Int) 1 _ _ V19 h_o h_1 (by decide) (by decide)).mono ?_
        rintro e V20 ⟨rfl, hB⟩
        replace x_x := x_x.later hB
        replace x_y := x_y.later hB
        replace x_g := x_g.later hB
        replace x_q := x_q.later hB
        replace x_r := x_r.later hB
        replace x_s := x_s.later hB
        replace x_t := x_t.later hB
        replace h_o := h_o.later hB hB.size
        replace h_1 := h_1.later hB hB.size
        replace low := low.trans (hB.mono low.size)
        clear hB
        rw [cmpI_eq (show ((1 : Nat) : Int) = 1 from rfl)]
        go_wp2_with fail
        refine (lives_any V20).mono ?_
        rintro e V21 ⟨rfl, hB⟩
        replace x_x := x_x.later hB
        replace x_y := x_y.later hB
        replace x_g := x_g.later hB
        replace x_q := x_q.later hB
        replace x_r := x_r.later hB
        replace x_s := x_s.later hB
        replace x_t := x_t.later hB
        replace h_o := h_o.later hB hB.size
        replace h_1 := h_1.later hB hB.size
        replace low := low.trans (hB.mono low.size)
        clear hB
        go_wp2_with fail
        go_ret
        exact ⟨rfl, low⟩
end Go.Proofs.YtmpdoikdadjneaaDoor
