/- The law DiceReplay, walked. -/
import Derived.Test.YtagjecbgbpjobaaDlaws1
import Derived.Test.YtagjecbgbpjobaaDsides
import Derived.Test.YtagjecbgbpjobaaDshuf
import Derived.WalkArith
namespace Go.Proofs.Ytagjecbgbpjobaa
open Go.RowKit Go.Shelf Hm Hb Dm Ds

/-- the position behind k rolls of the numbers that a list leads to, and the k-th result -/
def runP (h : Int) (ns : List Int) (q : Int) : Nat → Int
  | 0 => q
  | k + 1 => (roll h (sidesI (ns.getD k 0)) (runP h ns q k)).2.2
def runR (h : Int) (ns : List Int) (q : Int) (k : Nat) : Int := (roll h (sidesI (ns.getD k 0)) (runP h ns q k)).1
def runs (h : Int) (ns : List Int) (q : Int) (k : Nat) : List Int := (List.range k).map (runR h ns q)
theorem runs_length (h : Int) (ns : List Int) (q : Int) (k : Nat) : (runs h ns q k).length = k := by simp [runs]
theorem runs_succ (h : Int) (ns : List Int) (q : Int) (k : Nat) : runs h ns q (k + 1) = runs h ns q k ++ [runR h ns q k] := by simp [runs, List.range_succ]
theorem runs_get (h : Int) (ns : List Int) (q : Int) (k i : Nat) (hi : i < k) : ((runs h ns q k).map iv)[i]? = some (iv (runR h ns q i)) := by
  rw [List.getElem?_map]
  unfold runs
  rw [List.getElem?_map, List.getElem?_range hi]
  rfl
theorem add1_u8 (u : UInt8) : IntKind.u8.wrap ((u.toNat : Int) + 1) = ((u + 1).toNat : Int) := by
  have := u.toNat_lt
  simp only [IntKind.wrap, IntKind.signed, IntKind.bits, UInt8.toNat_add]
  simp

set_option maxRecDepth 100000 in
set_option maxHeartbeats 4000000 in
theorem DiceReplay_walk (w : World) (a0 : Option Addr) (len0 cap0 : Nat) (x0 : List UInt8) (r0 : Rd w w.heap.size a0 len0 (x0.map bv)) (l0 : len0 ≤ cap0) (m0 : cap0 ≤ maxLen) (a1 : Int) (w1 : (Lit.int .i64 a1).wf = true) (a2 : Option Addr) (len2 cap2 : Nat) (x2 : List Int) (r2 : Rd w w.heap.size a2 len2 (x2.map iv)) (b2 : ∀ y ∈ x2, -9223372036854775808 ≤ y ∧ y ≤ 9223372036854775807) (l2 : len2 ≤ cap2) (m2 : cap2 ≤ maxLen) :
    Calls Try.prog 7 #[.slice a0 len0 cap0, .int .i64 a1, .slice a2 len2 cap2] w fun e W' => e = .returned (.bool true) ∧ Below w.heap.size w W' := by
  obtain ⟨i0, hi, hz0, hz1, hz2⟩ := info_parts infoI
  have hl2 : x2.length = len2 := by simpa using r2.1
  have HL2 := Lib.hid hl2
  have HB2 := Lib.hid b2
  have hmm := m2
  unfold maxLen at hmm
  clear hl2 b2 w1 m2
  go_enter Try.func7, Try.ntmps7
  go_wp2_with fail
  refine (few_t a0 len0 cap0 x0 l0 m0 20 (by omega) _ rfl w r0).mono ?_
  rintro e W1 ⟨A, m, c, rfl, hm, -, hmc, -, R1, own1, B1⟩
  have s1 := B1.size
  have r0' := r0.later B1 s1
  go_wp2_with fail
  refine (few_t a0 len0 cap0 x0 l0 m0 20 (by omega) _ rfl W1 r0').mono ?_
  rintro e W2 ⟨A2, mm, c2, rfl, hm2, -, hmc2, -, R2, -, hB⟩
  obtain ⟨bs, hbs⟩ : ∃ bs, bs = List.take 20 x0 := ⟨_, rfl⟩
  rw [← hbs] at R1 R2 own1
  clear hbs
  have s2 := hB.size
  have B2 := B1.trans (hB.mono s1)
  have own2 := own_below own1 hB (Nat.le_refl _)
  have hgl : ∀ g, (Value.slice A m c).ownBlock = some g → w.heap.size ≤ g ∧ g < W2.heap.size := fun g hg => own2.lt g hg
  have R1b := R1.later hB s2
  clear hB own1 R1 r0' B1
  go_wp2_with fail
  refine (new_any _ (by decide) A m c bs (by omega) hmc W2 R1b).mono ?_
  rintro e W3 ⟨p, b, rfl, hb, hs3, d, hB⟩
  obtain ⟨h, hh⟩ : ∃ h, h = hashI [97] bs := ⟨_, rfl⟩
  rw [show hashI _ bs = h from hh.symm] at d
  have HH := Lib.hid hh
  clear hh
  have s3 := hB.size
  have lb := d.1
  have B3 := B2.trans (hB.mono (by omega))
  have own3 := own_below own2 hB (Nat.le_refl _)
  have R2b := R2.later hB s3
  clear hB own2 R1b R2 B2
  go_wp2_with fail
  refine (new_any _ (by decide) A2 mm c2 bs (by omega) hmc2 W3 R2b).mono ?_
  rintro e W4 ⟨p2, b2, rfl, hb2, hs4, d2, hB⟩
  rw [show hashI _ bs = h from HH.out.symm] at d2
  have s4 := hB.size
  have lb2 := d2.1
  have dA := d.below hB d.lt
  have B4 := B3.trans (hB.mono (by omega))
  have own4 := own_below own3 hB (Nat.le_refl _)
  clear hB own3 R2b B3 d
  go_wp2_with fail
  -- the seed's bytes turn
  go_loopw [11] (fun i wr => ∃ (k : Nat) (ys : List UInt8), k ≤ m ∧ i = .int .i64 k ∧ ys.length = m ∧ wr.ownsRow w.heap.size 5 1 (.slice A m c) m (ys.map bv) ∧ Die wr p b h 0 ∧ Die wr p2 b2 h 0 ∧ Below w.heap.size w wr) (fun i _ => m - (intOf i).toNat)
  case atStart => exact ⟨0, bs, by omega, rfl, by have := own4.1; simpa using this, own4, dA, d2, B4⟩
  case round =>
    clear own4 dA d2 B4
    obtain ⟨k, ys, hk, rfl, hyl, hown, dp, dq, hB⟩ := hrel
    have HYL := Lib.hid hyl
    clear hyl
    have sr := hB.size
    by_cases hlt : k < m
    · obtain ⟨mm1, hmm1⟩ : ∃ q, m = q + 1 := ⟨m - 1, by omega⟩
      obtain ⟨g, rfl⟩ : ∃ g, A = some ⟨g, 0, none⟩ := by
        rcases hown.2 with ⟨_, h0⟩ | ⟨g, cap', cur, hv, hg, _⟩
        · omega
        · injection hv with h1 h2 h3
          exact ⟨g, h1⟩
      have hgg := hgl g rfl
      have hky : k < ys.length := by rw [HYL.out]; exact hlt
      have hc1 : wr.cell? ⟨g, k, none⟩ = some (.int .u8 ((ys[k].toNat : Nat) : Int)) := by
        rw [hown.cellAt k (by omega), List.getElem?_map, List.getElem?_eq_getElem hky]; rfl
      have hf1 := hown.frozenAt k
      have ho2 := (hown.stored k (bv (ys[k] + 1))).1
      have hbt : But wr.heap.size g wr (wr.setCell ⟨g, k, none⟩ (bv (ys[k] + 1))) := But.setCell _ _ _ _ _
      have dp2 := dp.but hbt dp.lt (by have := dp.1; omega) (by omega)
      have dq2 := dq.but hbt dq.lt (by have := dq.1; omega) (by omega)
      have hB2 := hB.setCell (p := ⟨g, k, none⟩) hgg.1 (bv (ys[k] + 1))
      have e1 := add1_u8 ys[k]
      have b8 := ys[k].toNat_lt
      have HE := Lib.hid (show (ys.map bv).set k (bv (ys[k] + 1)) = (ys.set k (ys[k] + 1)).map bv from by simp)
      unfold bv at hc1
      generalize ys[k] = u at *
      unfold bv at ho2 dp2 dq2 hB2
      clear hbt hmm1
      go_wp2_with fail
      go_roundw
      case rel => exact ⟨k + 1, ys.set k (u + 1), by omega, by go_num, by rw [List.length_set]; exact HYL.out, own_cast ho2 rfl HE.out, dp2, dq2, hB2⟩
      case measure => simp [intOf]; omega
    · clear hown
      go_wp2_with fail
      refine (seek_any a1 wr dp).mono ?_
      rintro e V1 ⟨⟨v1, rfl⟩, dp1, hb1⟩
      have lb1 := dp.1
      have lp1 := dp.lt
      have lb22 := dq.1
      have lq1 := dq.lt
      have dq1 := dq.but hb1 lq1 (by omega) (by omega)
      have C1 := hB.trans (hb1.low.mono (by omega))
      have t1 := hb1.size
      clear hb1 dp dq hB
      go_wp2_with fail
      refine (seek_any a1 V1 dq1).mono ?_
      rintro e V2 ⟨⟨v2, rfl⟩, dq2, hb2⟩
      have dp2 := dp1.but hb2 dp1.lt (by omega) (by omega)
      have C2 := C1.trans (hb2.low.mono (by omega))
      have t2 := hb2.size
      clear hb2 dp1 dq1 C1
      go_wp2_with fail
      go_loopw [12, 13] (fun v i wq => ∃ k : Nat, k ≤ 12 ∧ k ≤ len2 ∧ i = .int .i64 k ∧ wq.ownsRow V2.heap.size 3 1 v k ((runs h x2 a1 k).map iv) ∧ Die wq p b h (runP h x2 a1 k) ∧ Die wq p2 b2 h a1 ∧ Below w.heap.size w wq ∧ V2.heap.size ≤ wq.heap.size) (fun _ i _ => 12 - (intOf i).toNat)
      case atStart => exact ⟨0, by omega, by omega, rfl, World.ownsRow_nil _ _ _ _, dp2, dq2, C2, Nat.le_refl _⟩
      case round =>
        have lp2 := dp2.lt
        have lq2 := dq2.lt
        clear dp2 dq2 C2 t1 t2
        obtain ⟨k, hk12, hkn, rfl, hown, dp, dq, hB, hsz⟩ := hrel
        by_cases hgo : k < len2 ∧ k < 12
        · obtain ⟨g1, g2⟩ := hgo
          obtain ⟨a, u, rfl, hab, hu, hc⟩ := (r2.below hB).at g1
          have hkx : k < x2.length := by rw [HL2.out]; exact g1
          have hu' : u = iv x2[k] := by
            rw [List.getElem?_map, List.getElem?_eq_getElem hkx] at hu
            exact (Option.some.inj hu).symm
          subst hu'
          unfold iv at hc
          have hy := HB2.out x2[k] (List.getElem_mem hkx)
          have hgd : x2.getD k 0 = x2[k] := Hb.getD_at _ _ hkx
          obtain ⟨y, hyy⟩ : ∃ y, y = x2[k] := ⟨_, rfl⟩
          rw [← hyy] at hc hy hgd
          have HP := Lib.hid (show runP h x2 a1 (k + 1) = (roll h (sidesI y) (runP h x2 a1 k)).2.2 from by rw [← hgd]; rfl)
          have HR := Lib.hid (show runR h x2 a1 k = (roll h (sidesI y) (runP h x2 a1 k)).1 from by rw [← hgd]; rfl)
          have sr := sidesI_range y
          clear hu hgd hyy
          go_wp2_with fail
          refine (sides_any y hy _).mono ?_
          rintro e w' ⟨rfl, rfl⟩
          have hr := roll_any (sidesI y) (by omega) p b h (runP h x2 a1 k) wr dp
          have hri := roll_is h (sidesI y) (runP h x2 a1 k) sr.1
          obtain ⟨⟨x, e, q'⟩, hR⟩ : ∃ R, R = roll h (sidesI y) (runP h x2 a1 k) := ⟨_, rfl⟩
          have HP2 := Lib.hid (show runP h x2 a1 (k + 1) = q' from by rw [HP.out, ← hR])
          have HR2 := Lib.hid (show runR h x2 a1 k = x from by rw [HR.out, ← hR])
          rw [← hR] at hr hri
          simp only at hr hri
          clear hR
          have he : e = 0 ∨ e = 4 := by omega
          clear hri
          rcases he with rfl | rfl
          all_goals
            go_wp2_with fail
            refine hr.mono ?_
            rintro e W5 ⟨rfl, d5, hb5⟩
            unfold numErr
            clear hr
            have s5 := hb5.size
            have l5 := dp.lt
            have q5 := dq.1
            have hq5 := dq.lt
            have dq5 := dq.but hb5 hq5 (by omega) (by omega)
            have B5 := hB.trans (hb5.low.mono (by have := dp.1; omega))
            have own5 := own_but hown hb5 (by omega)
            obtain ⟨A5, c5, hv5⟩ := own_form own5
            subst hv5
            have z5 : V2.heap.size ≤ W5.heap.size := by omega
            clear hb5 dq dp hB hown
            go_wp2_with (at_builtin; refine wpList_append_own _ rfl _ _ 37 rfl V2.heap.size 3 i0 (.int .i64 0) 1 8 Try.underlying37 hi hz0 hz1 hz2 rfl (by decide) (.slice A5 k c5) k _ rfl (own5.alloc _) ⟨W5.heap.size, 0, none⟩ 1 1 [iv x] rfl rfl (cell_one_new _ _ _) (by simp [iv_one]) (by unfold maxLen; omega) (by omega) (by simp; omega) ?_; intro v' w6 hown' hgrow _; have hB6 := own_grown ((Below.refl V2.heap.size W5).alloc z5 (.cells #[.int .i64 x] 3)) (own5.alloc _) hgrow (by simp; omega))
            have d6 := d5.below hB6 (by omega)
            have dq6 := dq5.below hB6 (by omega)
            have B6 := B5.trans (hB6.mono (by omega))
            have z6 := Nat.le_trans z5 hB6.size
            go_roundw
            case rel => exact ⟨k + 1, by omega, by omega, by go_num, own_cast hown' rfl (by rw [runs_succ, HR2.out]; simp), by rw [HP2.out]; exact d6, dq6, B6, z6⟩
            case measure => simp [intOf]; omega
        · have hno : ¬ (k < len2) ∨ (k < len2 ∧ ¬ (k < 12)) := by omega
          clear hgo
          obtain ⟨A5, c5, rfl⟩ := own_form hown
          rcases hno with hno | ⟨hno, hno2⟩
          all_goals
            go_wp2_with fail
            refine (at_any wr dp).mono ?_
            rintro e w' ⟨rfl, rfl⟩
            go_wp2_with fail
            refine (seek_any a1 wr dp).mono ?_
            rintro e V3 ⟨⟨v3, rfl⟩, dp3, hb3⟩
            have l5 := dp.lt
            have q5 := dq.1
            have p5 := dp.1
            have hq5 := dq.lt
            have dq3 := dq.but hb3 hq5 (by omega) (by omega)
            have B3 := hB.trans (hb3.low.mono (by omega))
            have own3 := own_but hown hb3 (by omega)
            have z3 := hb3.size
            clear hb3 dp dq hB hown
            go_wp2_with fail
            go_loopw [17] (fun i wx => ∃ j : Nat, j ≤ k ∧ i = .int .i64 j ∧ wx.ownsRow V2.heap.size 3 1 (.slice A5 k c5) k ((runs h x2 a1 k).map iv) ∧ Die wx p b h (runP h x2 a1 j) ∧ Die wx p2 b2 h (runP h x2 a1 j) ∧ Below w.heap.size w wx ∧ V2.heap.size ≤ wx.heap.size) (fun i _ => k - (intOf i).toNat)
            case atStart => exact ⟨0, by omega, rfl, own3, dp3, dq3, B3, by omega⟩
            case round =>
              have lp3 := dp3.1
              have lq3 := dq3.1
              clear own3 dp3 dq3 B3 z3
              obtain ⟨j, hj, rfl, hown, dp, dq, hB, hsz⟩ := hrel
              have l5 := dp.lt
              have l6 := dq.lt
              by_cases hlt : j < k
              · have g1 : j < len2 := by omega
                obtain ⟨a, u, rfl, hab, hu, hc⟩ := (r2.below hB).at g1
                have hkx : j < x2.length := by rw [HL2.out]; exact g1
                have hu' : u = iv x2[j] := by
                  rw [List.getElem?_map, List.getElem?_eq_getElem hkx] at hu
                  exact (Option.some.inj hu).symm
                subst hu'
                unfold iv at hc
                have hy := HB2.out x2[j] (List.getElem_mem hkx)
                have hgd : x2.getD j 0 = x2[j] := Hb.getD_at _ _ hkx
                obtain ⟨y, hyy⟩ : ∃ y, y = x2[j] := ⟨_, rfl⟩
                rw [← hyy] at hc hy hgd
                have HP := Lib.hid (show runP h x2 a1 (j + 1) = (roll h (sidesI y) (runP h x2 a1 j)).2.2 from by rw [← hgd]; rfl)
                have HR := Lib.hid (show runR h x2 a1 j = (roll h (sidesI y) (runP h x2 a1 j)).1 from by rw [← hgd]; rfl)
                have sr := sidesI_range y
                clear hu hgd hyy
                go_wp2_with fail
                refine (sides_any y hy _).mono ?_
                rintro e w' ⟨rfl, rfl⟩
                have hr := roll_any (sidesI y) (by omega) p b h (runP h x2 a1 j) wr dp
                obtain ⟨⟨x, e, q'⟩, hR⟩ : ∃ R, R = roll h (sidesI y) (runP h x2 a1 j) := ⟨_, rfl⟩
                have HP2 := Lib.hid (show runP h x2 a1 (j + 1) = q' from by rw [HP.out, ← hR])
                have HR2 := Lib.hid (show runR h x2 a1 j = x from by rw [HR.out, ← hR])
                rw [← hR] at hr
                have HRR := Lib.hid hR
                simp only at hr
                clear hR
                go_wp2_with fail
                refine hr.mono ?_
                rintro e5 W5 ⟨rfl, d5, hb5⟩
                unfold numErr
                clear hr
                have s5 := hb5.size
                have dq5 := dq.but hb5 l6 (by omega) (by omega)
                have B5 := hB.trans (hb5.low.mono (by omega))
                have own5 := own_but hown hb5 (by omega)
                have z5 : V2.heap.size ≤ W5.heap.size := by omega
                obtain ⟨a', u', e1, -, hu', hc5⟩ := (r2.below B5).at g1
                injection e1 with e1
                subst e1
                have hc5' : W5.cell? (a.add j) = some (.int .i64 y) := by
                  have e2 := (World.cell?_of_block (w := wr) (hb5.block (k := (a.add j).block) (by rw [add_block]; omega) (by rw [add_block]; omega)))
                  rw [e2]; exact hc
                clear hb5 dq dp hB hown hu' hc5 hc
                go_wp2_with fail
                refine (sides_any y hy _).mono ?_
                rintro e w' ⟨rfl, rfl⟩
                have hr := roll_any (sidesI y) (by omega) p2 b2 h (runP h x2 a1 j) W5 dq5
                rw [← HRR.out] at hr
                simp only at hr
                go_wp2_with fail
                refine hr.mono ?_
                rintro e6 W6 ⟨rfl, dq6, hb6⟩
                unfold numErr
                clear hr
                have s6 := hb6.size
                have d6 := d5.but hb6 d5.lt (by omega) (by omega)
                have B6 := B5.trans (hb6.low.mono (by omega))
                have own6 := own_but own5 hb6 (by omega)
                have z6 : V2.heap.size ≤ W6.heap.size := by omega
                clear hb6 dq5 d5 B5 own5 hc5'
                obtain ⟨a6, u6, rfl, hab6, hu6, hc6⟩ := (Rd.of_own own6).at hlt
                rw [runs_get _ _ _ _ _ hlt] at hu6
                injection hu6 with hu6
                subst hu6
                unfold iv at hc6
                rw [HR2.out] at hc6
                go_wp2_with fail
                go_roundw
                case rel => exact ⟨j + 1, by omega, by go_num, own6, by rw [HP2.out]; exact d6, by rw [HP2.out]; exact dq6, B6, z6⟩
                case measure => simp [intOf]; omega
              · obtain rfl : j = k := by omega
                have hb : (runP h x2 a1 j == runP h x2 a1 j) = true := by simp
                go_wp2_with fail
                refine (at_any wr dp).mono ?_
                rintro e w' ⟨rfl, rfl⟩
                go_wp2_with fail
                refine (at_any wr dq).mono ?_
                rintro e w' ⟨rfl, rfl⟩
                go_wp2_with fail
                refine (lives_from w wr hB).mono ?_
                rintro e W' ⟨rfl, hB2⟩
                go_wp2_with fail
                go_ret
                exact ⟨rfl, hB2⟩
end Go.Proofs.Ytagjecbgbpjobaa
