/- The reference's Small. -/
import Derived.Test.YtmpdoikdadjneaaDoorCUdvd
import Derived.Test.YtmpdoikdadjneaaDoorCH
import Derived.Test.YtmpdoikdadjneaaDoorCG
import Derived.Deep.RegionHeld3
import Derived.Deep.RegionWith
namespace Go.Proofs.YtmpdoikdadjneaaDoor
open Go.RowKit Go.Shelf Hb Vm Ds Vr

theorem sg_step (neg : Bool) (d q : Nat) : sg neg (d + 10000 * q) = if neg = true then sg neg q * 10000 - (d : Int) else sg neg q * 10000 + (d : Int) := by
  unfold sg
  cases neg <;> simp <;> omega

set_option maxRecDepth 100000 in
set_option maxHeartbeats 8000000 in
theorem nsmall_any (x : Int) (vx : Value) (w : World) (hvx : Ni w w.heap.size vx x) (hlx : (ds x.natAbs).length ≤ 100000) :
    Calls Tryd.prog 26 #[vx] w fun e W' => e = smallE x ∧ Below w.heap.size w W' := by
  obtain ⟨s, A, n, c, rfl⟩ := hvx.form
  obtain ⟨w2, hw2⟩ : ∃ w2, w2 = w.alloc (.cells #[.bool s, .slice A n c] 25) := ⟨_, rfl⟩
  have low : Below w.heap.size w w2 := by rw [hw2]; exact (Below.refl _ w).alloc (Nat.le_refl _) _
  have x_a : NB w2 w.heap.size s A n c x := by rw [hw2]; exact NB.new hvx
  have HL := Lib.hid hlx
  clear hlx hvx
  obtain ⟨ex, hex⟩ : ∃ e, e = smallE x := ⟨_, rfl⟩
  rw [← hex]
  have HEX := Lib.hid hex
  clear hex
  go_enter Tryd.func26, Tryd.ntmps26
  go_wp2_with fail
  rw [← hw2]
  clear hw2
  --REGION
  have hk : ∀ V, Below w2.heap.size w2 V → V.cell? ⟨w.heap.size, 0, none⟩ = some (.bool s) ∧ V.cell? ⟨w.heap.size, 1, none⟩ = some (.slice A n c) ∧ Below w2.heap.size w2 V := fun V hV => ⟨(x_a.later hV).cells.1, (x_a.later hV).cells.2.1, hV⟩
  have HK := Lib.hid hk
  clear hk
  have hst : Below w2.heap.size w2 w2.drew := (Below.refl _ _).drew
  have hc1 : ∀ V, Below w2.heap.size w2 V → ∀ z, (-9223372036854775808 ≤ z ∧ z ≤ 9223372036854775807) → Calls Tryd.prog 23 #[.int .i64 z] V fun e W' => (∃ u, e = .returned u ∧ Ni W' W'.heap.size u z) ∧ Below w2.heap.size w2 W' := fun V hV z hz => (of_any z hz V).mono fun _ _ ⟨he, h⟩ => ⟨he, hV.trans (h.mono hV.size)⟩
  have HC1 := Lib.hid hc1
  clear hc1
  have hc2 : ∀ V, Below w2.heap.size w2 V → ∀ v z, Ni V V.heap.size v z → z.natAbs < 10000 ^ 5 → Calls Tryd.prog 38 #[.agg #[.bool s, .slice A n c], v] V fun e W' => e = .returned (.int .i64 (cmpI x z)) ∧ Below w2.heap.size w2 W' := fun V hV v z hv hz => (ncompare_any x z _ v V (x_a.later hV).2 hv HL.out (Nat.le_trans (digs_len_le (b := 10000) (k := 5) (by decide) hz) (by decide))).mono fun _ _ ⟨he, h⟩ => ⟨he, hV.trans (h.mono hV.size)⟩
  have HC2 := Lib.hid hc2
  clear hc2
  by_cases h1 : 9223372036854775807 < x
  · have p0 : cmpI x 9223372036854775807 = 1 := cmpI_gt h1
    have hfx : ex = .returned (.tuple #[.int .i64 0, .bool false]) := by rw [HEX.out]; unfold smallE; rw [if_neg (by unfold Fits; omega), decide_eq_false (by unfold Fits; omega)]
    subst hfx
    clear HEX
    clear h1
    refine wp_region_held (S := fun w' => w'.cell? ⟨w.heap.size, 0, none⟩ = some (.bool s) ∧ w'.cell? ⟨w.heap.size, 1, none⟩ = some (.slice A n c)) (by kernel_rfl) ?_
    change wpAnyH _ _ _ _ _ _ _ _ w2.drew
    have hS0 := HK.out _ hst
    refine wpAnyH_take (i := 0) (v := .agg #[.bool s, .slice A n c]) rfl (by kernel_rfl) (by kernel_rfl) (by kernel_rfl) (fun _ _ _ h => h) (Or.inl ⟨by rfl, by intro w hSw; obtain ⟨q0, q1⟩ := hSw; go_simp⟩) ⟨hS0.1, hS0.2.1⟩ ?_
    dsimp only [Act.put, List.getElem_toArray, List.getElem_cons_succ, List.getElem_cons_zero, List.setIfInBounds_toArray, List.set_cons_zero, List.set_cons_succ]
    refine one_ready (i := 1) (by kernel_rfl) rfl (fun K hK => ?_)
    go_simp
    refine (HC1.out _ hst 9223372036854775807 (by decide)).mono ?_
    rintro e U1 ⟨⟨u1, rfl, hu1⟩, hB1⟩
    dsimp only
    have hS1 := HK.out _ hB1
    refine hK.out _ _ ⟨hS1.1, hS1.2.1⟩ (fun hS => ?_)
    clear hK K
    refine one_ready (i := 2) (by kernel_rfl) rfl (fun K hK => ?_)
    go_simp
    refine (HC2.out _ hB1 _ _ hu1 (by decide)).mono ?_
    rintro e U2 ⟨rfl, hB2⟩
    rw [p0]
    dsimp only
    have hS2 := HK.out _ hB2
    refine hK.out _ _ ⟨hS2.1, hS2.2.1⟩ (fun hS => ?_)
    clear hK K
    refine wpAnyH_take (i := 3) (v := .bool true) rfl (by kernel_rfl) (by kernel_rfl) (by kernel_rfl) (fun _ _ _ h => h) (Or.inl ⟨by rfl, by intro w hSw; go_simp⟩) hS ?_
    refine wpAnyH_take (i := 4) (v := .bool true) rfl (by kernel_rfl) (by kernel_rfl) (by kernel_rfl) (fun _ _ _ h => h) (Or.inl ⟨by rfl, by intro w hSw; go_simp⟩) hS ?_
    dsimp only [Act.put, List.getElem_toArray, List.getElem_cons_succ, List.getElem_cons_zero, List.setIfInBounds_toArray, List.set_cons_zero, List.set_cons_succ]
    refine wpAnyH_take (i := 5) (v := undef) rfl (by kernel_rfl) (by kernel_rfl) (by kernel_rfl) (fun _ _ _ h => h) (Or.inr ⟨by rfl, rfl⟩) hS ?_
    dsimp only [Act.put, List.getElem_toArray, List.getElem_cons_succ, List.getElem_cons_zero, List.setIfInBounds_toArray, List.set_cons_zero, List.set_cons_succ]
    refine one_ready (i := 6) (by kernel_rfl) rfl (fun K hK => ?_)
    go_simp
    refine hK.out _ _ hS (fun hS => ?_)
    clear hK K
    refine one_ready (i := 7) (by kernel_rfl) rfl (fun K hK => ?_)
    go_simp
    refine hK.out _ _ hS (fun hS => ?_)
    clear hK K
    refine wpAnyH_take (i := 8) (v := undef) rfl (by kernel_rfl) (by kernel_rfl) (by kernel_rfl) (fun _ _ _ h => h) (Or.inr ⟨by rfl, rfl⟩) hS ?_
    refine wpAnyH_take (i := 9) (v := .bool true) rfl (by kernel_rfl) (by kernel_rfl) (by kernel_rfl) (fun _ _ _ h => h) (Or.inl ⟨by rfl, by intro w hSw; go_simp⟩) hS ?_
    dsimp only [Act.put, List.getElem_toArray, List.getElem_cons_succ, List.getElem_cons_zero, List.setIfInBounds_toArray, List.set_cons_zero, List.set_cons_succ]
    refine wpAnyH_done (by kernel_rfl) ?_ _
    go_wp2_with fail
    go_ret2
    exact ⟨rfl, low.trans (hB2.mono low.size)⟩
  · have p1 : decide (0 < cmpI x 9223372036854775807) = false := decide_eq_false (by rcases cmpI_cases x 9223372036854775807 with ⟨h, _⟩ | ⟨h, _⟩ | ⟨h, _⟩ <;> omega)
    by_cases h2 : x < -9223372036854775808
    · have p2 : decide (cmpI x (-9223372036854775808) < 0) = true := decide_eq_true (by rw [cmpI_lt h2]; decide)
      have hfx : ex = .returned (.tuple #[.int .i64 0, .bool false]) := by rw [HEX.out]; unfold smallE; rw [if_neg (by unfold Fits; omega), decide_eq_false (by unfold Fits; omega)]
      subst hfx
      clear HEX
      clear h1 h2
      go_region_held3 (fun w' => w'.cell? ⟨w.heap.size, 0, none⟩ = some (.bool s) ∧ w'.cell? ⟨w.heap.size, 1, none⟩ = some (.slice A n c) ∧ Below w2.heap.size w2 w')
        (first
          | exact HK.out _ hst
          | exact HK.out _ hB2
          | exact HK.out _ hB1)
        (first
          | (go_at_call 23; refine (HC1.out _ (by assumption) _ (by decide)).mono ?_; rintro e U1 ⟨⟨u1, rfl, hu1⟩, hB1⟩)
          | (go_at_call 38; refine (HC2.out _ (by assumption) _ _ hu1 (by decide)).mono ?_; rintro e U2 ⟨rfl, hB2⟩))
      go_wp2_with fail
      go_ret2
      exact ⟨rfl, low.trans (hB2.mono low.size)⟩
    · have p2 : decide (cmpI x (-9223372036854775808) < 0) = false := decide_eq_false (by rcases cmpI_cases x (-9223372036854775808) with ⟨h, _⟩ | ⟨h, _⟩ | ⟨h, _⟩ <;> omega)
      have hfx : ex = .returned (.tuple #[.int .i64 x, .bool true]) := by rw [HEX.out]; unfold smallE; rw [if_pos (by unfold Fits; omega), decide_eq_true (by unfold Fits; omega)]
      subst hfx
      have hxb : -9223372036854775808 ≤ x ∧ x ≤ 9223372036854775807 := by omega
      clear HEX h1 h2
      go_region_held3 (fun w' => w'.cell? ⟨w.heap.size, 0, none⟩ = some (.bool s) ∧ w'.cell? ⟨w.heap.size, 1, none⟩ = some (.slice A n c) ∧ Below w2.heap.size w2 w')
        (first
          | exact HK.out _ hst
          | exact HK.out _ hB2
          | exact HK.out _ hB1)
        (first
          | (go_at_call 23; refine (HC1.out _ (by assumption) _ (by decide)).mono ?_; rintro e U1 ⟨⟨u1, rfl, hu1⟩, hB1⟩)
          | (go_at_call 38; refine (HC2.out _ (by assumption) _ _ hu1 (by decide)).mono ?_; rintro e U2 ⟨rfl, hB2⟩))
      have x_b := x_a.later hB2
      have low2 := low.trans (hB2.mono low.size)
      clear x_a low HC1 HC2 HK hst hu1 hB1 hB2 p1 p2
      obtain ⟨k0, k1, -, -⟩ := x_b.cells
      obtain ⟨u, hu, A', c', hu2, hrd, -, -⟩ := x_b.2
      obtain ⟨hs, rfl⟩ : s = decide (x < 0) ∧ Value.slice A n c = u := by unfold intV at hu; injection hu with hu; simpa using hu
      obtain ⟨rfl, hn, rfl⟩ : A = A' ∧ n = (ds x.natAbs).length ∧ c = c' := by injection hu2 with h1 h2 h3; exact ⟨h1, h2, h3⟩
      rw [← hn] at hrd
      have HS := Lib.hid hs
      have HN := Lib.hid hn
      have hnl : n ≤ 100000 := by rw [hn]; exact HL.out
      have HXB := Lib.hid hxb
      clear hs hn hu hu2 x_b hxb
      obtain ⟨W, hW⟩ : ∃ W, W = U2 := ⟨_, rfl⟩
      rw [← hW] at k0 k1 hrd low2 ⊢
      clear hW
      go_wp2_with fail
      go_loop [4, 5] (fun nv iv => ∃ (j : Nat) (v : Int), nv = .int .i64 v ∧ iv = .int .i64 ((j : Int) - 1) ∧ j ≤ n ∧ Hid (v = sg s (val 10000 ((ds x.natAbs).drop j)))) (fun _ iv => (intOf iv + 1).toNat)
      case atStart => exact ⟨n, 0, rfl, by first | rfl | go_num, Nat.le_refl _, Lib.hid (by rw [List.drop_of_length_le (by rw [HN.out]; exact Nat.le_refl _)]; unfold sg; split <;> rfl)⟩
      case round =>
        obtain ⟨j, v, rfl, rfl, hj, hv⟩ := hrel
        cases j with
        | zero =>
          have hvx : v = x := by
            have h := hv.out
            rw [List.drop_zero, ds_val] at h
            rw [h]; unfold sg
            rw [HS.out]
            exact (natAbs_sign x).symm
          subst hvx
          go_wp2_with fail
          go_ret2
          exact ⟨rfl, low2⟩
        | succ k =>
          obtain ⟨a, rfl, hba, hca⟩ := Rd.digit hrd (show k < n by omega)
          obtain ⟨d, hd⟩ : ∃ d, d = (ds x.natAbs).getD k 0 := ⟨_, rfl⟩
          have hdl : d < 10000 := by rw [hd]; exact (ds_dig _).get (by decide) k
          rw [← hd] at hca
          have hq : val 10000 ((ds x.natAbs).drop k) = d + 10000 * val 10000 ((ds x.natAbs).drop (k + 1)) := by
            rw [hd]; exact val_drop_step 10000 _ k (by rw [← HN.out]; omega)
          have hle : val 10000 ((ds x.natAbs).drop k) ≤ x.natAbs := by
            have h := val_split 10000 (ds x.natAbs) k (by rw [← HN.out]; omega)
            rw [ds_val] at h
            have h1 : 1 * val 10000 ((ds x.natAbs).drop k) ≤ 10000 ^ k * val 10000 ((ds x.natAbs).drop k) := Nat.mul_le_mul_right _ (Nat.pow_pos (by decide))
            omega
          obtain ⟨q, hqq⟩ : ∃ q, q = val 10000 ((ds x.natAbs).drop (k + 1)) := ⟨_, rfl⟩
          rw [← hqq] at hq
          have hvv := hv.out
          rw [← hqq] at hvv
          rw [hq] at hle
          have HQ := Lib.hid hq
          have hb := HXB.out
          have e1 : ((k + 1 : Nat) : Int) - 1 = (k : Int) := by omega
          have e2 : (0 : Int) ≤ (k : Int) := by omega
          have e3 : (k : Int) < (n : Int) := by omega
          have hsx := HS.out
          have hrange : -9223372036854775808 ≤ v * 10000 ∧ v * 10000 ≤ 9223372036854775807 ∧ (s = true → -9223372036854775808 ≤ v * 10000 - (d : Int) ∧ v * 10000 - (d : Int) ≤ 9223372036854775807 ∧ v * 10000 - (d : Int) = sg true (d + 10000 * q)) ∧ (s = false → -9223372036854775808 ≤ v * 10000 + (d : Int) ∧ v * 10000 + (d : Int) ≤ 9223372036854775807 ∧ v * 10000 + (d : Int) = sg false (d + 10000 * q)) := by
            by_cases h0 : x < 0
            · rw [decide_eq_true h0] at hsx
              subst hsx
              have h1 : v = -(q : Int) := hvv
              refine ⟨by omega, by omega, fun _ => ⟨by omega, by omega, ?_⟩, fun h => by cases h⟩
              show _ = -((d + 10000 * q : Nat) : Int)
              omega
            · rw [decide_eq_false h0] at hsx
              subst hsx
              have h1 : v = (q : Int) := hvv
              refine ⟨by omega, by omega, (fun h => by cases h), fun _ => ⟨by omega, by omega, ?_⟩⟩
              show _ = ((d + 10000 * q : Nat) : Int)
              omega
          obtain ⟨r1, r2, r3, r4⟩ := hrange
          clear hd hq hle hqq hvv hb hsx hv
          simp only [e1]
          cases s with
          | true =>
            obtain ⟨r5, r6, r7⟩ := r3 rfl
            have R7 := Lib.hid r7
            clear r3 r4 r7
            go_wp2_with fail
            go_round
            case rel => exact ⟨k, v * 10000 - (d : Int), by first | rfl | go_num, by first | rfl | go_num, by omega, Lib.hid (by rw [HQ.out]; exact R7.out)⟩
            case measure => simp [intOf]
          | false =>
            obtain ⟨r5, r6, r7⟩ := r4 rfl
            have R7 := Lib.hid r7
            clear r3 r4 r7
            go_wp2_with fail
            go_round
            case rel => exact ⟨k, v * 10000 + (d : Int), by first | rfl | go_num, by first | rfl | go_num, by omega, Lib.hid (by rw [HQ.out]; exact R7.out)⟩
            case measure => simp [intOf]
end Go.Proofs.YtmpdoikdadjneaaDoor
