/- The reference's Number. -/
import Derived.Test.YtmpdoikdadjneaaDoorCJ
import Derived.Test.YtmpdoikdadjneaaDoorCB
namespace Go.Proofs.YtmpdoikdadjneaaDoor
open Go.RowKit Go.Shelf Hb Vm Ds Vr

theorem sm_small {z : Int} {k b : Nat} (hb : b = 2 ^ k) (h : z.natAbs < b) : Sm z k := by unfold Sm; rw [← hb]; exact h

/-- two operations may come up -/
theorem two_ready {P : Program} {ops : Array Oper} {Q : Exit → Act → World → Prop} {md : Region.Mode} {S : World → Prop} {i j : Nat} {o o' : Oper} {fuel : Nat} {listed : Array Bool} {a : Act} {w : World} (hr : Region.ready md ops listed = [i, j]) (ho : ops[i]? = some o) (ho' : ops[j]? = some o')
    (h : ∀ K' : Act → World → Prop, Shut (∀ a w, S w → (S w → wpAnyH P md ops Q S fuel (listed.setIfInBounds i true) a w) → K' a w) → if Region.wanted o (yielded ops a.tmps) = true then Oper.wp P o a w K' Q else K' (a.put o.dst undef) w)
    (h' : ∀ K' : Act → World → Prop, Shut (∀ a w, S w → (S w → wpAnyH P md ops Q S fuel (listed.setIfInBounds j true) a w) → K' a w) → if Region.wanted o' (yielded ops a.tmps) = true then Oper.wp P o' a w K' Q else K' (a.put o'.dst undef) w) :
    wpAnyH P md ops Q S (fuel + 1) listed a w := wpAnyH_ready hr (by simp) (AllReadyH.cons ho h (AllReadyH.cons ho' h' AllReadyH.nil))

set_option maxRecDepth 100000 in
set_option maxHeartbeats 8000000 in
theorem number_any (A : Option Addr) (n c : Nat) (xs : List Int) (hxs : ∀ x ∈ xs, -9223372036854775808 ≤ x ∧ x ≤ 9223372036854775807) (k : Nat) (K : Int) (hK : K = (k : Int)) (hk : k ≤ 1000) (hn : n ≤ maxLen) (w : World) (hr : Rd w w.heap.size A n (xs.map (Value.int .i64))) :
    Calls Tryd.prog 13 #[.slice A n c, .int .i64 K] w fun e W' => (∃ u z, e = .returned u ∧ Ni W' W'.heap.size u z ∧ Sm z 270) ∧ Below w.heap.size w W' := by
  subst hK
  have HXS := Lib.hid hxs
  clear hxs
  go_enter Tryd.func13, Tryd.ntmps13
  obtain ⟨w1, hw1⟩ : ∃ w1, w1 = (w.alloc (.cells #[.bool false, .slice none 0 0] 25)).alloc (.cells #[.bool false, .slice none 0 0] 25) := ⟨_, rfl⟩
  have b1 : Row w1 w.heap.size 25 [.bool false, .slice none 0 0] := by rw [hw1]; exact (Row.new w _ [.bool false, .slice none 0 0]).alloc _
  have b2 : Row w1 (w.heap.size + 1) 25 [.bool false, .slice none 0 0] := by rw [hw1]; exact Row.new2 w _ _ _ _
  have bw : Below w.heap.size w w1 := by rw [hw1]; exact ((Below.refl _ w).alloc (Nat.le_refl _) _).alloc (by simp) _
  have x1 : NB w1 (w.heap.size + 1) false none 0 0 0 := ⟨b2, Ni.zero _ _⟩
  go_wp2_with fail
  rw [← hw1]
  clear hw1 b2
  go_loopw [6] (fun iv W => ∃ (i : Nat) (z : Int) (s : Bool) (A : Option Addr) (n c : Nat), iv = .int .i64 i ∧ i ≤ 5 ∧ NB W (w.heap.size + 1) s A n c z ∧ Sm z (260 + i) ∧ Row W w.heap.size 25 [.bool false, .slice none 0 0] ∧ Below w.heap.size w W) (fun iv _ => 6 - (intOf iv).toNat)
  case atStart => exact ⟨0, 0, false, none, 0, 0, rfl, by omega, x1, Sm.zero _, b1, bw⟩
  case round =>
    clear x1 b1 bw
    obtain ⟨i, z, s, B, m, d, rfl, hi, hx, hsm, hr1, hB⟩ := hrel
    have hsz := hB.size
    have HSM := Lib.hid hsm
    clear hsm
    go_wp2_with fail
    refine (pick_any A n c xs HXS.out k (k : Int) rfl (by omega) 5 (by omega) (by omega) hn w.heap.size wr (hr.below hB)).mono ?_
    rintro e W' ⟨⟨r, rfl, hr5⟩, rfl⟩
    by_cases hlt : i < 1 + r
    · have hlt' : (i : Int) < 1 + (r : Int) := by omega
      go_wp2_with fail
      refine (pick_any A n c xs HXS.out (k + 1 + i) _ (by omega) (by omega) 1000000 (by omega) (by omega) hn w.heap.size wr (hr.below hB)).mono ?_
      rintro e W' ⟨⟨g, rfl, hg⟩, rfl⟩
      go_wp2_with fail
      refine (power_any 2 rfl (32 * (g % 7) + g / 7 % 5 * 8) _ (by omega) (by omega) wr).mono ?_
      rintro e V1 ⟨⟨u1, rfl, hu1⟩, hB1⟩
      have hx1 := hx.later hB1
      have hr11 := hr1.below hB1 hr1.lt
      have low1 := hB.trans (hB1.mono hsz)
      have zz1 := low1.size
      obtain ⟨t1, A1, n1, c1, rfl⟩ := hu1.form
      clear hx hr1 hB hsz hB1
      --REGION
      go_wp2_with fail
      refine (of_any ((g : Int) / 35 % 9 - 4) (by omega) V1).mono ?_
      rintro e V2 ⟨⟨u2, rfl, hu2⟩, hB2⟩
      obtain ⟨o1, ho1⟩ : ∃ o1 : Int, o1 = (g : Int) / 35 % 9 - 4 := ⟨_, rfl⟩
      have hso1 : Sm o1 3 := sm_small (b := 8) rfl (by omega)
      rw [← ho1] at hu2
      have hv2 := hu1.later hB2 hB2.size
      have hx2 := hx1.later hB2
      have hr2 := hr11.below hB2 hr11.lt
      have low2 := low1.trans (hB2.mono zz1)
      obtain ⟨t2, A2, n2, c2, rfl⟩ := hu2.form
      have hsK := (sm_pow 2 (32 * (g % 7) + g / 7 % 5 * 8) rfl).mono (l := 225) (by omega)
      obtain ⟨P, hP⟩ : ∃ P : Int, P = ((2 ^ (32 * (g % 7) + g / 7 % 5 * 8) : Nat) : Int) := ⟨_, rfl⟩
      rw [← hP] at hv2 hsK
      clear hu1 hx1 hr11 low1 hB2 zz1 ho1 hP
      go_wp2_with fail
      refine (nmul_any P o1 _ _ V2 hv2 hu2 (Nat.le_trans (ds_two hsK) (by decide)) (Nat.le_trans (ds_two hso1) (by decide))).mono ?_
      rintro e V3 ⟨⟨u3, rfl, hu3⟩, hB3⟩
      have hsp := hsK.mul hso1
      obtain ⟨y1v, hy1⟩ : ∃ y : Int, y = P * o1 := ⟨_, rfl⟩
      rw [← hy1] at hsp hu3
      have hx3 := hx2.later hB3
      have hr3 := hr2.below hB3 hr2.lt
      have low3 := low2.trans (hB3.mono low2.size)
      obtain ⟨t2', A2', n2', c2', rfl⟩ := hu3.form
      clear hv2 hu2 hsK hso1 hx2 hr2 low2 hB3 hy1
      go_wp2_with fail
      have hyV0 := NB.new hu3
      obtain ⟨V4, hV4⟩ : ∃ V4, V4 = V3.alloc (.cells #[.bool t2', .slice A2' n2' c2'] 25) := ⟨_, rfl⟩
      have hB4 : Below V3.heap.size V3 V4 := by rw [hV4]; exact (Below.refl _ _).alloc (Nat.le_refl _) _
      rw [← hV4] at hyV0 ⊢
      have hxV0 := hx3.later hB4
      have hrV0 := hr3.below hB4 hr3.lt
      have lowV0 := low3.trans (hB4.mono low3.size)
      have hpx := hx3.lt
      clear hV4 hu3 hx3 hr3 low3 hB4
      obtain ⟨p, hp⟩ : ∃ p, p = V3.heap.size := ⟨_, rfl⟩
      rw [← hp] at hyV0 hpx ⊢
      clear hp
      obtain ⟨o2, ho2⟩ : ∃ o2 : Int, o2 = (g : Int) / 315 % 5 - 2 := ⟨_, rfl⟩
      have hso2 : Sm o2 2 := sm_small (b := 4) rfl (by omega)
      have HO2 := Lib.hid ho2
      have HLY := Lib.hid (Nat.le_trans (ds_two hsp) (show 225 + 3 ≤ 100000 by decide))
      have HLO := Lib.hid (Nat.le_trans (ds_two hso2) (show 2 ≤ 100000 by decide))
      have hss := hsp.add (hso2.mono (show 2 ≤ 225 + 3 by decide))
      have HLS := Lib.hid (Nat.le_trans (ds_two hss) (show 225 + 3 + 1 ≤ 100000 by decide))
      have HLZ := Lib.hid (Nat.le_trans (ds_two HSM.out) (show 260 + i ≤ 100000 by omega))
      have HSZ : Hid (Sm (z + (y1v + o2)) (260 + (i + 1))) := Lib.hid (HSM.out.add (hss.mono (show 225 + 3 + 1 ≤ 260 + i by omega)))
      clear ho2 hso2 hsp hss
      obtain ⟨S, hSd⟩ : ∃ S : World → Prop, S = fun w' => w'.cell? ⟨p, 0, none⟩ = some (.bool t2') ∧ w'.cell? ⟨p, 1, none⟩ = some (.slice A2' n2' c2') := ⟨_, rfl⟩
      refine wp_region_held (S := S) (by kernel_rfl) ?_
      change wpAnyH _ _ _ _ _ _ _ _ V4.drew
      obtain ⟨V0, hV0⟩ : ∃ V0, V0 = V4.drew := ⟨_, rfl⟩
      have hxV : NB V0 (w.heap.size + 1) s B m d z := by rw [hV0]; exact hxV0.later (Below.refl _ _).drew
      have hyV : NB V0 p t2' A2' n2' c2' y1v := by rw [hV0]; exact hyV0.later (Below.refl _ _).drew
      have hrV : Row V0 w.heap.size 25 [.bool false, .slice none 0 0] := by rw [hV0]; exact hrV0
      have lowV : Below w.heap.size w V0 := by rw [hV0]; exact lowV0.drew
      rw [← hV0]
      clear hV0 hxV0 hyV0 hrV0 lowV0
      subst hSd
      obtain ⟨g0, g1, -, -⟩ := hxV.cells
      have hS0 : V0.cell? ⟨p, 0, none⟩ = some (.bool t2') ∧ V0.cell? ⟨p, 1, none⟩ = some (.slice A2' n2' c2') := ⟨hyV.cells.1, hyV.cells.2.1⟩
      have hxV0 := hxV
      have hyV0 := hyV
      have hrV0 := hrV
      have lowV0 := lowV
      clear hxV hyV hrV lowV
      refine wpAnyH_take (i := 1) (v := .agg #[.bool t2', .slice A2' n2' c2']) rfl (by kernel_rfl) (by kernel_rfl) (by kernel_rfl) (fun _ _ _ h => h) (Or.inl ⟨by rfl, by intro w hSw; obtain ⟨q0, q1⟩ := hSw; go_simp⟩) hS0 ?_
      refine wpAnyH_take (i := 2) (v := .int .i64 (g : Int)) rfl (by kernel_rfl) (by kernel_rfl) (by kernel_rfl) (fun _ _ _ h => h) (Or.inl ⟨by rfl, by intro w hSw; go_simp⟩) hS0 ?_
      refine wpAnyH_take (i := 3) (v := .int .i64 ((g : Int) / 315)) rfl (by kernel_rfl) (by kernel_rfl) (by kernel_rfl) (fun _ _ _ h => h) (Or.inl ⟨by rfl, by intro w hSw; go_simp; exact IntWalk.i64_in _ (by omega)⟩) hS0 ?_
      refine wpAnyH_take (i := 4) (v := .int .i64 ((g : Int) / 315 % 5)) rfl (by kernel_rfl) (by kernel_rfl) (by kernel_rfl) (fun _ _ _ h => h) (Or.inl ⟨by rfl, by intro w hSw; go_simp; exact Int.tmod_eq_emod_of_nonneg (by omega)⟩) hS0 ?_
      refine wpAnyH_take (i := 5) (v := .int .i64 ((g : Int) / 315 % 5 - 2)) rfl (by kernel_rfl) (by kernel_rfl) (by kernel_rfl) (fun _ _ _ h => h) (Or.inl ⟨by rfl, by intro w hSw; go_simp; exact IntWalk.i64_in _ (by omega)⟩) hS0 ?_
      dsimp only [Act.put, List.getElem_toArray, List.getElem_cons_succ, List.getElem_cons_zero, List.setIfInBounds_toArray, List.set_cons_zero, List.set_cons_succ]
      refine two_ready (i := 0) (j := 6) (by kernel_rfl) rfl rfl (fun K hK => ?_) (fun K hK => ?_)
      · go_simp
        refine hK.out _ _ hS0 (fun _ => ?_)
        clear hK K
        refine one_ready (i := 6) (by kernel_rfl) rfl (fun K hK => ?_)
        go_simp
        refine (of_any ((g : Int) / 315 % 5 - 2) (by omega) V0).mono ?_
        rintro e U1 ⟨⟨uo, rfl, ho⟩, hB1⟩
        rw [← HO2.out] at ho
        obtain ⟨t3, A3, n3, c3, rfl⟩ := ho.form
        dsimp only
        have hx1 := hxV0.later hB1
        have hy1 := hyV0.later hB1
        have hr1 := hrV0.below hB1 hrV0.lt
        have low1 := lowV0.trans (hB1.mono lowV0.size)
        have hxU : NB U1 (w.heap.size + 1) s B m d z := hx1
        obtain ⟨g0, g1, -, -⟩ := hxU.cells
        obtain ⟨y0, y1, -, -⟩ := hy1.cells
        refine hK.out _ _ ⟨y0, y1⟩ (fun _ => ?_)
        clear hK K hB1 y0 y1
        refine one_ready (i := 7) (by kernel_rfl) rfl (fun K hK => ?_)
        go_simp
        refine (nadd_any y1v o2 _ _ U1 hy1.2 ho HLY.out HLO.out).mono ?_
        rintro e U2 ⟨⟨us, rfl, hs1⟩, hB2⟩
        obtain ⟨t4, A4, n4, c4, rfl⟩ := hs1.form
        dsimp only
        have hx2 := hx1.later hB2
        have hy2 := hy1.later hB2
        have hr2 := hr1.below hB2 hr1.lt
        have low2 := low1.trans (hB2.mono low1.size)
        obtain ⟨g0, g1, -, -⟩ := hx2.cells
        obtain ⟨y0, y1, -, -⟩ := hy2.cells
        refine hK.out _ _ ⟨y0, y1⟩ (fun _ => ?_)
        clear hK K hB2 y0 y1
        refine one_ready (i := 8) (by kernel_rfl) rfl (fun K hK => ?_)
        go_simp
        refine (nadd_any z (y1v + o2) _ _ U2 hx2.2 hs1 HLZ.out HLS.out).mono ?_
        rintro e U9 ⟨⟨ut, rfl, hs2⟩, hB9⟩
        obtain ⟨t5, A5, n5, c5, rfl⟩ := hs2.form
        dsimp only
        have hx9 := hx2.later hB9
        have hy9 := hy2.later hB9
        have hr9 := hr2.below hB9 hr2.lt
        have low9 := low2.trans (hB9.mono low2.size)
        obtain ⟨g0, g1, g2, g3⟩ := hx9.cells
        obtain ⟨y0, y1, -, -⟩ := hy9.cells
        refine hK.out _ _ ⟨y0, y1⟩ (fun _ => ?_)
        clear hK K hB9 y0 y1
        refine one_ready (i := 9) (by kernel_rfl) rfl (fun K hK => ?_)
        go_simp
        have bt := But.set2 U9.heap.size (w.heap.size + 1) U9 (.bool t5) (.slice A5 n5 c5)
        have hxA := hx9.put hs2
        have hyA := hy9.but hx9.1 bt (by omega)
        have hrA := hr9.but bt hr9.lt (by omega)
        have lowA := low9.trans (bt.low.mono (by omega))
        obtain ⟨y0, y1, -, -⟩ := hyA.cells
        refine hK.out _ _ ⟨y0, y1⟩ (fun _ => ?_)
        clear hK K y0 y1 g0 g1 g2 g3
        refine wpAnyH_done (by kernel_rfl) ?_ _
        go_wp2_with fail
        go_roundw
        case rel => exact ⟨i + 1, z + (y1v + o2), t5, A5, n5, c5, by first | rfl | go_num, by omega, hxA, HSZ.out, hrA, lowA⟩
        case measure => simp [intOf]; omega
      · go_simp
        refine (of_any ((g : Int) / 315 % 5 - 2) (by omega) V0).mono ?_
        rintro e U1 ⟨⟨uo, rfl, ho⟩, hB1⟩
        rw [← HO2.out] at ho
        obtain ⟨t3, A3, n3, c3, rfl⟩ := ho.form
        dsimp only
        have hx1 := hxV0.later hB1
        have hy1 := hyV0.later hB1
        have hr1 := hrV0.below hB1 hrV0.lt
        have low1 := lowV0.trans (hB1.mono lowV0.size)
        have hxU : NB U1 (w.heap.size + 1) s B m d z := hx1
        obtain ⟨g0, g1, -, -⟩ := hxU.cells
        obtain ⟨y0, y1, -, -⟩ := hy1.cells
        refine hK.out _ _ ⟨y0, y1⟩ (fun _ => ?_)
        clear hK K hB1 y0 y1
        refine two_ready (i := 0) (j := 7) (by kernel_rfl) rfl rfl (fun K hK => ?_) (fun K hK => ?_)
        · go_simp
          refine hK.out _ _ ⟨hy1.cells.1, hy1.cells.2.1⟩ (fun _ => ?_)
          clear hK K
          refine one_ready (i := 7) (by kernel_rfl) rfl (fun K hK => ?_)
          go_simp
          refine (nadd_any y1v o2 _ _ U1 hy1.2 ho HLY.out HLO.out).mono ?_
          rintro e U2 ⟨⟨us, rfl, hs1⟩, hB2⟩
          obtain ⟨t4, A4, n4, c4, rfl⟩ := hs1.form
          dsimp only
          have hx2 := hx1.later hB2
          have hy2 := hy1.later hB2
          have hr2 := hr1.below hB2 hr1.lt
          have low2 := low1.trans (hB2.mono low1.size)
          obtain ⟨g0, g1, -, -⟩ := hx2.cells
          obtain ⟨y0, y1, -, -⟩ := hy2.cells
          refine hK.out _ _ ⟨y0, y1⟩ (fun _ => ?_)
          clear hK K hB2 y0 y1
          refine one_ready (i := 8) (by kernel_rfl) rfl (fun K hK => ?_)
          go_simp
          refine (nadd_any z (y1v + o2) _ _ U2 hx2.2 hs1 HLZ.out HLS.out).mono ?_
          rintro e U9 ⟨⟨ut, rfl, hs2⟩, hB9⟩
          obtain ⟨t5, A5, n5, c5, rfl⟩ := hs2.form
          dsimp only
          have hx9 := hx2.later hB9
          have hy9 := hy2.later hB9
          have hr9 := hr2.below hB9 hr2.lt
          have low9 := low2.trans (hB9.mono low2.size)
          obtain ⟨g0, g1, g2, g3⟩ := hx9.cells
          obtain ⟨y0, y1, -, -⟩ := hy9.cells
          refine hK.out _ _ ⟨y0, y1⟩ (fun _ => ?_)
          clear hK K hB9 y0 y1
          refine one_ready (i := 9) (by kernel_rfl) rfl (fun K hK => ?_)
          go_simp
          have bt := But.set2 U9.heap.size (w.heap.size + 1) U9 (.bool t5) (.slice A5 n5 c5)
          have hxA := hx9.put hs2
          have hyA := hy9.but hx9.1 bt (by omega)
          have hrA := hr9.but bt hr9.lt (by omega)
          have lowA := low9.trans (bt.low.mono (by omega))
          obtain ⟨y0, y1, -, -⟩ := hyA.cells
          refine hK.out _ _ ⟨y0, y1⟩ (fun _ => ?_)
          clear hK K y0 y1 g0 g1 g2 g3
          refine wpAnyH_done (by kernel_rfl) ?_ _
          go_wp2_with fail
          go_roundw
          case rel => exact ⟨i + 1, z + (y1v + o2), t5, A5, n5, c5, by first | rfl | go_num, by omega, hxA, HSZ.out, hrA, lowA⟩
          case measure => simp [intOf]; omega
        · go_simp
          refine (nadd_any y1v o2 _ _ U1 hy1.2 ho HLY.out HLO.out).mono ?_
          rintro e U2 ⟨⟨us, rfl, hs1⟩, hB2⟩
          obtain ⟨t4, A4, n4, c4, rfl⟩ := hs1.form
          dsimp only
          have hx2 := hx1.later hB2
          have hy2 := hy1.later hB2
          have hr2 := hr1.below hB2 hr1.lt
          have low2 := low1.trans (hB2.mono low1.size)
          obtain ⟨g0, g1, -, -⟩ := hx2.cells
          obtain ⟨y0, y1, -, -⟩ := hy2.cells
          refine hK.out _ _ ⟨y0, y1⟩ (fun _ => ?_)
          clear hK K hB2 y0 y1
          refine one_ready (i := 0) (by kernel_rfl) rfl (fun K hK => ?_)
          go_simp
          refine hK.out _ _ ⟨hy2.cells.1, hy2.cells.2.1⟩ (fun _ => ?_)
          clear hK K
          refine one_ready (i := 8) (by kernel_rfl) rfl (fun K hK => ?_)
          go_simp
          refine (nadd_any z (y1v + o2) _ _ U2 hx2.2 hs1 HLZ.out HLS.out).mono ?_
          rintro e U9 ⟨⟨ut, rfl, hs2⟩, hB9⟩
          obtain ⟨t5, A5, n5, c5, rfl⟩ := hs2.form
          dsimp only
          have hx9 := hx2.later hB9
          have hy9 := hy2.later hB9
          have hr9 := hr2.below hB9 hr2.lt
          have low9 := low2.trans (hB9.mono low2.size)
          obtain ⟨g0, g1, g2, g3⟩ := hx9.cells
          obtain ⟨y0, y1, -, -⟩ := hy9.cells
          refine hK.out _ _ ⟨y0, y1⟩ (fun _ => ?_)
          clear hK K hB9 y0 y1
          refine one_ready (i := 9) (by kernel_rfl) rfl (fun K hK => ?_)
          go_simp
          have bt := But.set2 U9.heap.size (w.heap.size + 1) U9 (.bool t5) (.slice A5 n5 c5)
          have hxA := hx9.put hs2
          have hyA := hy9.but hx9.1 bt (by omega)
          have hrA := hr9.but bt hr9.lt (by omega)
          have lowA := low9.trans (bt.low.mono (by omega))
          obtain ⟨y0, y1, -, -⟩ := hyA.cells
          refine hK.out _ _ ⟨y0, y1⟩ (fun _ => ?_)
          clear hK K y0 y1 g0 g1 g2 g3
          refine wpAnyH_done (by kernel_rfl) ?_ _
          go_wp2_with fail
          go_roundw
          case rel => exact ⟨i + 1, z + (y1v + o2), t5, A5, n5, c5, by first | rfl | go_num, by omega, hxA, HSZ.out, hrA, lowA⟩
          case measure => simp [intOf]; omega
    · have hlt' : ¬ (i : Int) < 1 + (r : Int) := by omega
      obtain ⟨g0, g1, g2, g3⟩ := hx.cells
      have f0 := hr1.frozen 0
      have f1 := hr1.frozen 1
      have q0 := hr1.cell 0 _ rfl
      have q1 := hr1.cell 1 _ rfl
      go_wp2_with fail
      have bt := But.set2 wr.heap.size w.heap.size wr (.bool s) (.slice B m d)
      exact bodyPost_ret (res_row rfl rfl (hr1.set2 _ _) Tryd.underlying25 rfl sizeN) rfl ⟨⟨_, z, rfl, (hx.2.but_struct hr1 bt).grow bt.size, HSM.out.mono (by omega)⟩, hB.trans (bt.low.mono (by omega))⟩
end Go.Proofs.YtmpdoikdadjneaaDoor
