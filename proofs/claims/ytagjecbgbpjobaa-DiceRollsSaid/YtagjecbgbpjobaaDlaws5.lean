/- The law DiceRolls, walked. -/
import Derived.Test.YtagjecbgbpjobaaDtwo
import Derived.WalkArith
import Derived.Deep.CutBlock
import Derived.StillTailTactics
namespace Go.Proofs.Ytagjecbgbpjobaa
open Go.RowKit Go.Shelf Hm Hb Dm Ds

theorem shuffle_len (h N q : Int) : ((shuffle h N q).1.getD []).length ≤ 4096 := by
  by_cases hb : N < 0 ∨ N > 4096
  · rw [show shuffle h N q = (none, 1, q) from by unfold shuffle; rw [if_pos hb]]; simp
  · obtain ⟨n, rfl⟩ : ∃ n : Nat, N = n := ⟨N.toNat, by omega⟩
    rcases shuffle_cases h q n (by omega) with ⟨l, q', hs, hl⟩ | ⟨q', hs⟩
    · rw [hs]
      have := hl.length_eq
      rw [upto_length] at this
      simp only [Option.getD_some]
      omega
    · rw [hs]; simp
theorem add_far (a : Addr) (n : Nat) (h : n ≠ 0) : a.add n = ⟨a.block, a.off + n, none⟩ := by unfold Addr.add; rw [if_neg h]

set_option maxRecDepth 100000 in
set_option maxHeartbeats 8000000 in
theorem DiceRolls_walk (w : World) (a0 : Option Addr) (len0 cap0 : Nat) (x0 : List UInt8) (r0 : Rd w w.heap.size a0 len0 (x0.map bv)) (l0 : len0 ≤ cap0) (m0 : cap0 ≤ maxLen) (a1 : ByteArray) (_ : a1.size ≤ maxLen) (a2 : Option Addr) (len2 cap2 : Nat) (x2 : List Int) (r2 : Rd w w.heap.size a2 len2 (x2.map iv)) (b2 : ∀ y ∈ x2, -9223372036854775808 ≤ y ∧ y ≤ 9223372036854775807) (l2 : len2 ≤ cap2) (m2 : cap2 ≤ maxLen) :
    Calls Try.prog 6 #[.slice a0 len0 cap0, .string a1, .slice a2 len2 cap2] w fun e W' => e = .returned (.bool true) ∧ Below w.heap.size w W' := by
  have hl2 : x2.length = len2 := by simpa using r2.1
  have HL2 := Lib.hid hl2
  have HB2 := Lib.hid b2
  have HM2 := Lib.hid m2
  have hmx : Try.prog.follows .mixedOrders = true := by kernel_rfl
  clear hl2 b2
  unfold maxLen at m2
  go_enter Try.func6, Try.ntmps6
  go_wp2_with fail
  refine (few_t a0 len0 cap0 x0 l0 m0 20 (by omega) _ rfl w r0).mono ?_
  rintro e W1 ⟨A, m, c, rfl, hm, -, hmc, -, R1, -, B1⟩
  have s1 := B1.size
  obtain ⟨bs, hbs⟩ : ∃ bs, bs = List.take 20 x0 := ⟨_, rfl⟩
  rw [← hbs] at R1
  clear hbs
  go_wp2_with fail
  refine (short_t a1 10 (by omega) _ rfl W1).mono ?_
  rintro e w' ⟨⟨t, rfl, ht, -⟩, rfl⟩
  go_wp2_with fail
  refine (new_any t (by omega) A m c bs (by omega) hmc W1 R1).mono ?_
  rintro e W2 ⟨p, b, rfl, hb, hs2, d, hB⟩
  obtain ⟨h, hh⟩ : ∃ h, h = hashI t.data.toList bs := ⟨_, rfl⟩
  rw [← hh] at d
  have HH := Lib.hid hh
  clear hh
  have s2 := hB.size
  have lb := d.1
  have B2 := B1.trans (hB.mono s1)
  have R2 := R1.below hB
  have T3 : Two (W2.alloc (.cells #[.slice A m c, .string t, .int .i64 0] 46)) p b W2.heap.size A m c t bs h 0 := by
    have k : Below W2.heap.size W2 (W2.alloc (.cells #[.slice A m c, .string t, .int .i64 0] 46)) := (Below.refl _ _).alloc (Nat.le_refl _) _
    have r3 := (R2.mono hb).below (k.mono (by omega))
    exact ⟨d.below k (by omega), ⟨World.alloc_heap_new _ _, r3.mono (by omega)⟩, r3, by omega⟩
  have B3 : Below w.heap.size w (W2.alloc (.cells #[.slice A m c, .string t, .int .i64 0] 46)) := B2.alloc B2.size _
  rw [hs2] at T3
  go_wp2_with fail
  obtain ⟨pm, hpm⟩ : ∃ pm, pm = p + 1 := ⟨_, rfl⟩
  rw [← hpm] at T3 ⊢
  clear R1 R2 B1 B2 hB d s2 hs2 hpm
  go_loopw [11] (fun i wr => ∃ (I : Nat) (q : Int), I ≤ 62 ∧ i = .int .i64 I ∧ Two wr p b pm A m c t bs h q ∧ Below w.heap.size w wr) (fun i _ => 63 - (intOf i).toNat)
  case atStart => exact ⟨0, 0, by omega, rfl, T3, B3⟩
  case round =>
    clear T3 B3
    obtain ⟨I, q, hI, rfl, T, hB⟩ := hrel
    have sr := hB.size
    obtain ⟨lp, lm, -⟩ := T.sizes
    by_cases hgo : I + 2 < len2 ∧ I < 60
    · obtain ⟨g1, g2⟩ := hgo
      have HB := Lib.hid hB
      obtain ⟨a, -, rfl, hab, -, -⟩ := r2.at (k := I) (by omega)
      have hx : ∀ k, k < 3 → I + k < x2.length := fun k hk => by rw [HL2.out]; omega
      have hcell : ∀ W, Below w.heap.size w W → ∀ k (hk : k < 3), W.cell? (a.add (I + k)) = some (.int .i64 (x2[I + k]'(hx k hk))) := fun W hW k hk => by
        obtain ⟨a', u, e1, e2, hu, hc⟩ := (r2.below hW).at (k := I + k) (by omega)
        injection e1 with e1
        subst e1
        rw [List.getElem?_map, List.getElem?_eq_getElem (hx k hk)] at hu
        rw [hc, ← Option.some.inj hu]
        rfl
      have hrng : ∀ k (hk : k < 3), -9223372036854775808 ≤ x2[I + k]'(hx k hk) ∧ x2[I + k]'(hx k hk) ≤ 9223372036854775807 := fun k hk => HB2.out _ (List.getElem_mem _)
      obtain ⟨x, hxx⟩ : ∃ x, x = x2[I + 0]'(hx 0 (by omega)) := ⟨_, rfl⟩
      obtain ⟨y, hyy⟩ : ∃ y, y = x2[I + 1]'(hx 1 (by omega)) := ⟨_, rfl⟩
      obtain ⟨z, hzz⟩ : ∃ z, z = x2[I + 2]'(hx 2 (by omega)) := ⟨_, rfl⟩
      have bx := hrng 0 (by omega)
      have by_ := hrng 1 (by omega)
      have bz := hrng 2 (by omega)
      rw [← hxx] at bx
      rw [← hyy] at by_
      rw [← hzz] at bz
      have HC := Lib.hid (show ∀ W, Below w.heap.size w W → W.cell? (a.add I) = some (.int .i64 x) ∧ W.cell? ⟨a.block, a.off + (I + 1), none⟩ = some (.int .i64 y) ∧ W.cell? ⟨a.block, a.off + (I + 2), none⟩ = some (.int .i64 z) from fun W hW =>
        ⟨by rw [hxx]; exact hcell W hW 0 (by omega), by rw [hyy, ← add_far a (I + 1) (by omega)]; exact hcell W hW 1 (by omega), by rw [hzz, ← add_far a (I + 2) (by omega)]; exact hcell W hW 2 (by omega)⟩)
      have HW := Lib.hid (show x2.drop (I + 1) = x2.drop (I + 1) from rfl)
      clear hx hcell hrng hxx hyy hzz
      obtain ⟨c0, c1, c2⟩ := HC.out wr hB
      have i0 : (0 : Int) ≤ (I : Int) := by omega
      have i1 : (I : Int) < (len2 : Int) := by omega
      have i2 : (0 : Int) ≤ (I : Int) + 1 := by omega
      have i3 : (I : Int) + 1 < (len2 : Int) := by omega
      have i4 : (0 : Int) ≤ (I : Int) + 2 := by omega
      have i5 : (I : Int) + 2 < (len2 : Int) := by omega
      have t1 : ((I : Int) + 1).toNat = I + 1 := by omega
      have t2 : ((I : Int) + 2).toNat = I + 2 := by omega
      go_wp2_with fail
      refine (around_t x 6 _ rfl (Go.WalkArith.wf_i64 bx) (by omega) _).mono ?_
      rintro e w' ⟨⟨k, rfl, hk⟩, rfl⟩
      go_upto_block 2 with (fail)
      go_cut [12, 13, 14, 15, 16, 17, 18, 19, 20, 21, 22, 23, 24, 25, 26, 27, 28, 29, 30, 31, 32, 33, 34, 35, 36, 37] from 67 to 274 (fun s _ _ _ _ _ _ _ _ _ _ _ _ _ _ _ _ _ _ _ _ _ _ _ _ _ wx => s = .bool true ∧ ∃ q', Two wx p b pm A m c t bs h q' ∧ Below w.heap.size w wx)
      case first =>
        by_cases k0 : k = 0
        · as_aux_lemma =>
            subst k0
            simp only [show ((0 : Nat) : Int) = 0 from rfl]
            go_wp2_with fail
            refine (sides_t y (Go.WalkArith.wf_i64 by_) _).mono ?_
            rintro e w' ⟨⟨n, rfl, n0, n1⟩, rfl⟩
            have hr := roll_any n (by omega) p b h q wr T.die
            obtain ⟨⟨x', e', q'⟩, hR⟩ : ∃ R, R = roll h n q := ⟨_, rfl⟩
            rw [← hR] at hr
            simp only at hr
            have HRR := Lib.hid hR
            clear hR
            go_wp2_with fail
            refine hr.mono ?_
            rintro e5 W5 ⟨rfl, d5, hb5⟩
            unfold numErr
            clear hr
            obtain ⟨ref5, sd5⟩ := T.left hb5
            have B5 := hB.trans (hb5.low.mono (by omega))
            have hr2 := rroll_any n (by omega) pm A m c (by omega) t (by omega) bs h HH.out q W5 ref5
            rw [← HRR.out] at hr2
            simp only at hr2
            have lt5 := T.lt
            clear hB T HB c0 c1 c2
            obtain ⟨c0, c1, c2⟩ := HC.out W5 B5
            go_wp2_with fail
            refine hr2.mono ?_
            rintro e6 W6 ⟨rfl, r6, hb6⟩
            unfold numErr
            have T6 := Two.right d5 sd5 r6 hb6 lt5
            have B6 := B5.trans (hb6.low.mono (by omega))
            clear hr2 hb6 hb5 ref5 sd5 d5 r6 B5 c0 c1 c2 HRR
            go_wp2_with fail
            go_meet
            case rel => exact ⟨rfl, q', T6, B6⟩
        by_cases k1 : k = 1
        · as_aux_lemma =>
            subst k1
            simp only [show ((1 : Nat) : Int) = 1 from rfl]
            have hr := roll_any y by_ p b h q wr T.die
            obtain ⟨⟨x', e', q'⟩, hR⟩ : ∃ R, R = roll h y q := ⟨_, rfl⟩
            rw [← hR] at hr
            simp only at hr
            have HRR := Lib.hid hR
            clear hR
            go_wp2_with fail
            refine hr.mono ?_
            rintro e5 W5 ⟨rfl, d5, hb5⟩
            unfold numErr
            clear hr
            obtain ⟨ref5, sd5⟩ := T.left hb5
            have B5 := hB.trans (hb5.low.mono (by omega))
            have hr2 := rroll_any y by_ pm A m c (by omega) t (by omega) bs h HH.out q W5 ref5
            rw [← HRR.out] at hr2
            simp only at hr2
            have lt5 := T.lt
            clear hB T HB c0 c1 c2
            obtain ⟨c0, c1, c2⟩ := HC.out W5 B5
            go_wp2_with fail
            refine hr2.mono ?_
            rintro e6 W6 ⟨rfl, r6, hb6⟩
            unfold numErr
            have T6 := Two.right d5 sd5 r6 hb6 lt5
            have B6 := B5.trans (hb6.low.mono (by omega))
            clear hr2 hb6 hb5 ref5 sd5 d5 r6 B5 c0 c1 c2 HRR
            go_wp2_with fail
            go_meet
            case rel => exact ⟨rfl, q', T6, B6⟩
        by_cases k2 : k = 2
        · as_aux_lemma =>
            subst k2
            simp only [show ((2 : Nat) : Int) = 2 from rfl]
            go_wp2_with fail
            refine (around_t y 12 _ rfl (Go.WalkArith.wf_i64 by_) (by omega) _).mono ?_
            rintro e w' ⟨⟨ny, rfl, hny⟩, rfl⟩
            go_wp2_with fail
            refine (around_t z 12 _ rfl (Go.WalkArith.wf_i64 bz) (by omega) _).mono ?_
            rintro e w' ⟨⟨nz, rfl, hnz⟩, rfl⟩
            have hr := hit_any ((ny : Int) - 1) (nz : Int) (by omega) (by omega) p b h q wr T.die
            obtain ⟨⟨x', e', q'⟩, hR⟩ : ∃ R, R = hit h ((ny : Int) - 1) (nz : Int) q := ⟨_, rfl⟩
            rw [← hR] at hr
            simp only at hr
            have HRR := Lib.hid hR
            clear hR
            go_wp2_with fail
            refine hr.mono ?_
            rintro e5 W5 ⟨rfl, d5, hb5⟩
            unfold boolErr
            clear hr
            obtain ⟨ref5, sd5⟩ := T.left hb5
            have B5 := hB.trans (hb5.low.mono (by omega))
            have hr2 := rhit_any ((ny : Int) - 1) (nz : Int) (by omega) (by omega) pm A m c (by omega) t (by omega) bs h HH.out q W5 ref5
            rw [← HRR.out] at hr2
            simp only at hr2
            have lt5 := T.lt
            clear hB T HB c0 c1 c2
            obtain ⟨c0, c1, c2⟩ := HC.out W5 B5
            go_wp2_with fail
            refine hr2.mono ?_
            rintro e6 W6 ⟨rfl, r6, hb6⟩
            unfold boolErr
            have T6 := Two.right d5 sd5 r6 hb6 lt5
            have B6 := B5.trans (hb6.low.mono (by omega))
            clear hr2 hb6 hb5 ref5 sd5 d5 r6 B5 c0 c1 c2 HRR
            go_wp2_with fail
            go_meet
            case rel => exact ⟨rfl, q', T6, B6⟩
        by_cases k5 : k = 5
        · as_aux_lemma =>
            subst k5
            simp only [show ((5 : Nat) : Int) = 5 from rfl]
            have hr := seek_any y wr T.die
            go_wp2_with fail
            refine hr.mono ?_
            rintro e5 W5 ⟨⟨v5, rfl⟩, d5, hb5⟩
            clear hr
            obtain ⟨ref5, sd5⟩ := T.left hb5
            have B5 := hB.trans (hb5.low.mono (by omega))
            have lt5 := T.lt
            clear hB T HB c0 c1 c2
            obtain ⟨c0, c1, c2⟩ := HC.out W5 B5
            have ca := ref5.at
            have fa := ref5.frozen 2
            have r6 := ref5.seek y
            have hb6 := But.setCell W5.heap.size pm 2 W5 (.int .i64 y)
            have T6 := Two.right d5 sd5 r6 hb6 lt5
            have B6 := B5.trans (hb6.low.mono (by omega))
            clear hb6 hb5 ref5 sd5 d5 r6 B5
            go_wp2_with fail
            go_meet
            case rel => exact ⟨rfl, y, T6, B6⟩
        by_cases k3 : k = 3
        · subst k3
          simp only [show ((3 : Nat) : Int) = 3 from rfl]
          have HDR := Lib.hid (show Rd wr wr.heap.size (some ⟨a.block, a.off + (I + 1), none⟩) (len2 - (I + 1)) ((x2.drop (I + 1)).map iv) from by
            have h1 := (r2.later hB sr).cut' (I + 1) len2 (by omega) (Nat.le_refl _)
            simp only [Option.map_some, add_far a (I + 1) (by omega)] at h1
            refine h1.cast rfl ?_
            rw [List.map_drop, List.take_of_length_le (by simp [HL2.out])])
          by_cases hz : z.tmod 4 = 0
          · as_aux_lemma =>
              go_wp2_with fail
              refine (ints_t (some ⟨a.block, a.off + (I + 1), none⟩) (len2 - (I + 1)) (cap2 - (I + 1)) (x2.drop (I + 1)) (by omega) (by have := HM2.out; omega) 3 (by omega) _ rfl wr HDR.out).mono ?_
              rintro e W3 ⟨A3, n3, c3, rfl, hn3, -, hnc3, hcm3, R3, own3, hB3⟩
              have s3 := hB3.size
              have hrg : ∀ y ∈ (x2.drop (I + 1)).take 3, -9223372036854775808 ≤ y ∧ y ≤ 9223372036854775807 := fun y hy => HB2.out y (List.mem_of_mem_drop (List.mem_of_mem_take hy))
              have hnp3 : ∀ a, A3 = some a → wr.heap.size ≤ a.block := fun a ha => by
                subst ha
                rcases own3.2 with ⟨hv, _⟩ | ⟨g, cap, cur, hv, hg, _⟩
                · injection hv with h1
                  cases h1
                · injection hv with h1
                  cases h1
                  exact hg
              obtain ⟨ws, hws⟩ : ∃ ws, ws = (x2.drop (I + 1)).take 3 := ⟨_, rfl⟩
              rw [← hws] at R3 hrg
              have T3 := T.below hB3 lm
              have HB3 := hB.trans (hB3.mono sr)
              clear hws own3 hB T c0 c1 c2 HB hB3
              have T := T3
              have hB := HB3
              clear T3 HB3
              obtain ⟨c0, c1, c2⟩ := HC.out W3 hB
              have HNP := Lib.hid hnp3
              have HRG := Lib.hid hrg
              clear hnp3 hrg
              have hcm3n : n3 ≤ maxLen := by unfold maxLen; omega
              have hpk := pick_any A3 n3 c3 ws HRG.out hcm3n p b h q W3 T.die W3.heap.size R3 (fun a ha => by have := HNP.out a ha; omega) (Nat.le_refl _)
              have hr0 := fun W hW B hr hB => rpick_any A3 n3 c3 ws HRG.out hcm3n pm A m c (by omega) t (by omega) bs h HH.out q W hW B hr (fun a ha => by have := HNP.out a ha; omega) hB
              obtain ⟨⟨x', e', q'⟩, hR⟩ : ∃ R, R = pick h ws q := ⟨_, rfl⟩
              rw [← hR] at hpk
              simp only [← hR] at hr0
              simp only at hpk
              have HR0 := Lib.hid hr0
              clear hR hr0
              go_wp2_with fail
              refine hpk.mono ?_
              rintro e5 W5 ⟨rfl, d5, hb5⟩
              unfold numErr
              clear hpk
              obtain ⟨ref5, sd5⟩ := T.left hb5
              have B5 := hB.trans (hb5.low.mono (by omega))
              have lt5 := T.lt
              have R5 := rd_but R3 (fun a ha => by have := HNP.out a ha; omega) hb5
              have hr2 := HR0.out W5 ref5 _ R5 hb5.size
              clear hB T
              go_wp2_with fail
              refine hr2.mono ?_
              rintro e6 W6 ⟨rfl, r6, hb6⟩
              unfold numErr
              have T6 := Two.right d5 sd5 r6 hb6 lt5
              have B6 := B5.trans (hb6.low.mono (by omega))
              clear hr2 hb6 hb5 ref5 sd5 d5 r6 B5 R5
              go_wp2_with fail
              go_meet
              case rel => exact ⟨rfl, q', T6, B6⟩
          · as_aux_lemma =>
              have hz' : (z.tmod 4 != 0) = true := bne_iff_ne.2 hz
              clear hz
              go_wp2_with fail
              refine (ints_t (some ⟨a.block, a.off + (I + 1), none⟩) (len2 - (I + 1)) (cap2 - (I + 1)) (x2.drop (I + 1)) (by omega) (by have := HM2.out; omega) 3 (by omega) _ rfl wr HDR.out).mono ?_
              rintro e W3 ⟨A3, n3, c3, rfl, hn3, -, hnc3, hcm3, R3, own3, hB3⟩
              have s3 := hB3.size
              have hrg : ∀ y ∈ (x2.drop (I + 1)).take 3, -9223372036854775808 ≤ y ∧ y ≤ 9223372036854775807 := fun y hy => HB2.out y (List.mem_of_mem_drop (List.mem_of_mem_take hy))
              have hnp3 : ∀ a, A3 = some a → wr.heap.size ≤ a.block := fun a ha => by
                subst ha
                rcases own3.2 with ⟨hv, _⟩ | ⟨g, cap, cur, hv, hg, _⟩
                · injection hv with h1
                  cases h1
                · injection hv with h1
                  cases h1
                  exact hg
              obtain ⟨ws, hws⟩ : ∃ ws, ws = (x2.drop (I + 1)).take 3 := ⟨_, rfl⟩
              rw [← hws] at R3 hrg
              have T3 := T.below hB3 lm
              have HB3 := hB.trans (hB3.mono sr)
              clear hws own3 hB T c0 c1 c2 HB hB3
              have T := T3
              have hB := HB3
              clear T3 HB3
              obtain ⟨c0, c1, c2⟩ := HC.out W3 hB
              have HNP := Lib.hid hnp3
              have HRG := Lib.hid hrg
              clear hnp3 hrg
              have hw1 : IntKind.i64.wrap ((I : Int) + 1) = (I : Int) + 1 := by simp only [IntKind.wrap, IntKind.signed, IntKind.bits]; simp; omega
              have hw2 : IntKind.i64.wrap ((I : Int) + 2) = (I : Int) + 2 := by simp only [IntKind.wrap, IntKind.signed, IntKind.bits]; simp; omega
              have cc1 : W3.cell? (a.add (I + 1)) = some (.int .i64 y) := by rw [add_far a (I + 1) (by omega)]; exact c1
              have cc2 : W3.cell? (a.add (I + 2)) = some (.int .i64 z) := by rw [add_far a (I + 2) (by omega)]; exact c2
              go_wp2_with fail
              refine wp_region_still_tail 18 hmx (by kernel_rfl) ?_
              simp only [List.take_succ_cons, List.take_zero, List.drop_succ_cons, List.drop_zero]
              repeat still_step
              still_call (around_w y 9 by_ (by omega) _)
              repeat still_step
              still_call (around_w z 1000 bz (by omega) _)
              repeat still_step
              still_call (around_w y 2 by_ (by omega) _)
              repeat still_step
              try refine wpStill_nil ?_
              change wpList _ _ _ _ _ W3.drew
              obtain ⟨W4, hW4⟩ : ∃ W4, W4 = W3.drew := ⟨_, rfl⟩
              have B4 : Below W3.heap.size W3 W4 := by rw [hW4]; exact (Below.refl _ _).drew
              rw [← hW4]
              have T4 := T.below B4 T.sizes.2.1
              have hB4 := hB.trans (B4.mono hB.size)
              have z4 := B4.size
              obtain ⟨u1, hu1⟩ : ∃ u1, u1 = aroundI y 9 := ⟨_, rfl⟩
              obtain ⟨u2, hu2⟩ : ∃ u2, u2 = aroundI z 1000 := ⟨_, rfl⟩
              obtain ⟨u3, hu3⟩ : ∃ u3, u3 = aroundI y 2 := ⟨_, rfl⟩
              have v1 := aroundI_range y 9 (by omega)
              have v2 := aroundI_range z 1000 (by omega)
              have v3 := aroundI_range y 2 (by omega)
              rw [← hu1] at v1 ⊢
              rw [← hu2] at v2 ⊢
              rw [← hu3] at v3 ⊢
              clear hu1 hu2 hu3 hW4 B4 T hB c0 c1 c2 cc1 cc2 R3 HNP HRG
              obtain ⟨W5, hW5⟩ : ∃ W5, W5 = W4.alloc (.cells #[.int .i64 u1, .int .i64 0, .int .i64 u2, .int .i64 u3] 3) := ⟨_, rfl⟩
              have R5 : Rd W5 W5.heap.size (some ⟨W4.heap.size, 0, none⟩) 4 ([u1, 0, u2, u3].map iv) := by rw [hW5]; exact (boxed_rds W4 ([u1, 0, u2, u3].map iv) 3).mono (by simp)
              have B5 : Below W4.heap.size W4 W5 := by rw [hW5]; exact (Below.refl _ _).alloc (Nat.le_refl _) _
              have T5 := T4.below B5 T4.sizes.2.1
              have hB5 := hB4.trans (B5.mono hB4.size)
              have hwr : ∀ x ∈ [u1, 0, u2, u3], -9223372036854775808 ≤ x ∧ x ≤ 9223372036854775807 := fun x hx => by
                simp only [List.mem_cons, List.not_mem_nil, or_false] at hx
                omega
              have HWR := Lib.hid hwr
              have lt4 := T4.sizes
              clear hwr B5 T4 hB4 v1 v2 v3
              have T := T5
              have hB := hB5
              clear T5 hB5
              go_wp2_with fail
              rw [← hW5]
              clear hW5
              have hpk := pick_any (some ⟨W4.heap.size, 0, none⟩) 4 4 [u1, 0, u2, u3] HWR.out (by unfold maxLen; omega) p b h q W5 T.die W5.heap.size R5 (fun a ha => by cases ha; show W4.heap.size ≠ p; omega) (Nat.le_refl _)
              have hr0 := fun W hW B hr hB => rpick_any (some ⟨W4.heap.size, 0, none⟩) 4 4 [u1, 0, u2, u3] HWR.out (by unfold maxLen; omega) pm A m c (by omega) t (by omega) bs h HH.out q W hW B hr (fun a ha => by cases ha; show W4.heap.size ≠ pm; omega) hB
              obtain ⟨⟨x', e', q'⟩, hR⟩ : ∃ R, R = pick h [u1, 0, u2, u3] q := ⟨_, rfl⟩
              rw [← hR] at hpk
              simp only [← hR] at hr0
              simp only at hpk
              have HR0 := Lib.hid hr0
              clear hR hr0
              refine hpk.mono ?_
              rintro e5 W6 ⟨rfl, d5, hb5⟩
              unfold numErr
              clear hpk
              obtain ⟨ref5, sd5⟩ := T.left hb5
              have B6 := hB.trans (hb5.low.mono (by omega))
              have lt5 := T.lt
              have R6 := rd_but R5 (fun a ha => by cases ha; show W4.heap.size ≠ p; omega) hb5
              have hr2 := HR0.out W6 ref5 _ R6 hb5.size
              clear hB T R5
              go_wp2_with fail
              refine hr2.mono ?_
              rintro e6 W7 ⟨rfl, r6, hb6⟩
              unfold numErr
              have T7 := Two.right d5 sd5 r6 hb6 lt5
              have B7 := B6.trans (hb6.low.mono (by omega))
              clear hr2 hb6 hb5 ref5 sd5 d5 r6 B6 R6
              go_wp2_with fail
              go_meet
              case rel => exact ⟨rfl, q', T7, B7⟩
        by_cases k4 : k = 4
        · subst k4
          simp only [show ((4 : Nat) : Int) = 4 from rfl]
          by_cases hz : z.tmod 16 = 0
          · by_cases hy5 : y ≤ 5000
            · as_aux_lemma =>
                go_wp2_with fail
                refine (around_t y 30 _ rfl (Go.WalkArith.wf_i64 by_) (by omega) _).mono ?_
                rintro e w' ⟨⟨ny, rfl, hny⟩, rfl⟩
                have hr := shuffle_any y by_ p b h q wr T.die
                have hr0 := fun W hW => rshuffle_any y by_ pm A m c (by omega) t (by omega) bs h HH.out q W hW
                have hlen := shuffle_len h y q
                obtain ⟨⟨o, e', q'⟩, hR⟩ : ∃ R, R = shuffle h y q := ⟨_, rfl⟩
                rw [← hR] at hr hr0 hlen
                simp only at hr hr0 hlen
                clear hR
                obtain ⟨L, hL⟩ : ∃ L, L = o.getD [] := ⟨_, rfl⟩
                rw [← hL] at hr hr0 hlen
                have HR0 := Lib.hid hr0
                clear hL hr0
                go_wp2_with fail
                refine hr.mono ?_
                rintro e5 W5 ⟨v5, rfl, ⟨A5, c5, rfl, R5, hA5⟩, d5, hb5⟩
                unfold listErr
                clear hr
                obtain ⟨ref5, sd5⟩ := T.left hb5
                have B5 := hB.trans (hb5.low.mono (by omega))
                have lt5 := T.lt
                clear hB T HB c0 c1 c2
                go_wp2_with fail
                refine (HR0.out W5 ref5).mono ?_
                rintro e6 W6 ⟨v6, rfl, ⟨A6, c6, rfl, R6, -⟩, r6, hb6⟩
                unfold listErr
                have T6 := Two.right d5 sd5 r6 hb6 lt5
                have B6 := B5.trans (hb6.low.mono (by omega))
                have s6 := hb6.size
                have R5' := (rd_but R5 (fun a ha => by have := hA5 a ha; omega) hb6).mono s6
                have hsm := same_ints_t A5 A6 L.length c5 L.length c6 L L W6.heap.size (by unfold maxLen; omega) W6 R5' R6 rfl
                have lt6 := T6.ref.lt
                have s66 := B6.size
                clear hb6 hb5 ref5 sd5 d5 r6 B5 R5 R5' R6 hA5
                go_wp2_with fail
                refine hsm.mono ?_
                rintro e7 W7 ⟨rfl, hq7⟩
                have b7 := hq7.below W6.heap.size
                have T7 := T6.below b7 lt6
                have B7 := B6.trans (b7.mono s66)
                clear hsm hq7 b7 T6 B6
                go_wp2_with fail
                go_meet
                case rel => exact ⟨rfl, q', T7, B7⟩
            · as_aux_lemma =>
                go_wp2_with fail
                refine (around_t y 30 _ rfl (Go.WalkArith.wf_i64 by_) (by omega) _).mono ?_
                rintro e w' ⟨⟨ny, rfl, hny⟩, rfl⟩
                have hy6 : 5000 < y := by omega
                have hr := shuffle_any 5000 (by omega) p b h q wr T.die
                have hr0 := fun W hW => rshuffle_any 5000 (by omega) pm A m c (by omega) t (by omega) bs h HH.out q W hW
                have hlen := shuffle_len h 5000 q
                obtain ⟨⟨o, e', q'⟩, hR⟩ : ∃ R, R = shuffle h 5000 q := ⟨_, rfl⟩
                rw [← hR] at hr hr0 hlen
                simp only at hr hr0 hlen
                clear hR
                obtain ⟨L, hL⟩ : ∃ L, L = o.getD [] := ⟨_, rfl⟩
                rw [← hL] at hr hr0 hlen
                have HR0 := Lib.hid hr0
                clear hL hr0
                go_wp2_with fail
                refine hr.mono ?_
                rintro e5 W5 ⟨v5, rfl, ⟨A5, c5, rfl, R5, hA5⟩, d5, hb5⟩
                unfold listErr
                clear hr
                obtain ⟨ref5, sd5⟩ := T.left hb5
                have B5 := hB.trans (hb5.low.mono (by omega))
                have lt5 := T.lt
                clear hB T HB c0 c1 c2
                go_wp2_with fail
                refine (HR0.out W5 ref5).mono ?_
                rintro e6 W6 ⟨v6, rfl, ⟨A6, c6, rfl, R6, -⟩, r6, hb6⟩
                unfold listErr
                have T6 := Two.right d5 sd5 r6 hb6 lt5
                have B6 := B5.trans (hb6.low.mono (by omega))
                have s6 := hb6.size
                have R5' := (rd_but R5 (fun a ha => by have := hA5 a ha; omega) hb6).mono s6
                have hsm := same_ints_t A5 A6 L.length c5 L.length c6 L L W6.heap.size (by unfold maxLen; omega) W6 R5' R6 rfl
                have lt6 := T6.ref.lt
                have s66 := B6.size
                clear hb6 hb5 ref5 sd5 d5 r6 B5 R5 R5' R6 hA5
                go_wp2_with fail
                refine hsm.mono ?_
                rintro e7 W7 ⟨rfl, hq7⟩
                have b7 := hq7.below W6.heap.size
                have T7 := T6.below b7 lt6
                have B7 := B6.trans (b7.mono s66)
                clear hsm hq7 b7 T6 B6
                go_wp2_with fail
                go_meet
                case rel => exact ⟨rfl, q', T7, B7⟩
          · as_aux_lemma =>
              have hz' : (z.tmod 16 == 0) = false := beq_eq_false_iff_ne.2 hz
              clear hz
              go_wp2_with fail
              refine (around_t y 30 _ rfl (Go.WalkArith.wf_i64 by_) (by omega) _).mono ?_
              rintro e w' ⟨⟨ny, rfl, hny⟩, rfl⟩
              have hr := shuffle_any ((ny : Int) - 2) (by omega) p b h q wr T.die
              have hr0 := fun W hW => rshuffle_any ((ny : Int) - 2) (by omega) pm A m c (by omega) t (by omega) bs h HH.out q W hW
              have hlen := shuffle_len h ((ny : Int) - 2) q
              obtain ⟨⟨o, e', q'⟩, hR⟩ : ∃ R, R = shuffle h ((ny : Int) - 2) q := ⟨_, rfl⟩
              rw [← hR] at hr hr0 hlen
              simp only at hr hr0 hlen
              clear hR
              obtain ⟨L, hL⟩ : ∃ L, L = o.getD [] := ⟨_, rfl⟩
              rw [← hL] at hr hr0 hlen
              have HR0 := Lib.hid hr0
              clear hL hr0
              go_wp2_with fail
              refine hr.mono ?_
              rintro e5 W5 ⟨v5, rfl, ⟨A5, c5, rfl, R5, hA5⟩, d5, hb5⟩
              unfold listErr
              clear hr
              obtain ⟨ref5, sd5⟩ := T.left hb5
              have B5 := hB.trans (hb5.low.mono (by omega))
              have lt5 := T.lt
              clear hB T HB c0 c1 c2
              go_wp2_with fail
              refine (HR0.out W5 ref5).mono ?_
              rintro e6 W6 ⟨v6, rfl, ⟨A6, c6, rfl, R6, -⟩, r6, hb6⟩
              unfold listErr
              have T6 := Two.right d5 sd5 r6 hb6 lt5
              have B6 := B5.trans (hb6.low.mono (by omega))
              have s6 := hb6.size
              have R5' := (rd_but R5 (fun a ha => by have := hA5 a ha; omega) hb6).mono s6
              have hsm := same_ints_t A5 A6 L.length c5 L.length c6 L L W6.heap.size (by unfold maxLen; omega) W6 R5' R6 rfl
              have lt6 := T6.ref.lt
              have s66 := B6.size
              clear hb6 hb5 ref5 sd5 d5 r6 B5 R5 R5' R6 hA5
              go_wp2_with fail
              refine hsm.mono ?_
              rintro e7 W7 ⟨rfl, hq7⟩
              have b7 := hq7.below W6.heap.size
              have T7 := T6.below b7 lt6
              have B7 := B6.trans (b7.mono s66)
              clear hsm hq7 b7 T6 B6
              go_wp2_with fail
              go_meet
              case rel => exact ⟨rfl, q', T7, B7⟩
        exfalso
        omega
      case rest =>
        obtain ⟨rfl, q', T', hB'⟩ := hcut
        clear T hB HB c0 c1 c2
        have ca := T'.ref.at
        have HAT := Lib.hid (show ∀ n, Calls Try.prog 38 #[.pointer (some ⟨p, 0, none⟩)] (wc.drewN n) fun e w'' => e = .returned (.int .i64 q') ∧ w'' = wc.drewN n from fun n =>
          (at_any (wc.drewN n) (T'.die.below (below_drewN (Below.refl wc.heap.size wc) n) T'.die.lt)).mono fun _ _ ⟨he, hw⟩ => ⟨he, hw.symm⟩)
        have lm' := T'.ref.lt
        go_wp2_with fail
        go_quiet (first | (go_at_call 38; refine Calls.quiet_of_same (HAT.out _)))
        obtain ⟨W5, hW5⟩ : ∃ W5, W5 = wc.drewN nq := ⟨_, rfl⟩
        have b5 : Below wc.heap.size wc W5 := by rw [hW5]; exact below_drewN (Below.refl _ _) _
        rw [← hW5]
        have T5 := T'.below b5 lm'
        have B5 := hB'.trans (b5.mono hB'.size)
        clear hW5 b5 T' hB' ca HAT
        go_wp2_with fail
        go_roundw
        case rel => exact ⟨I + 3, q', by omega, by go_num, T5, B5⟩
        case measure => simp [intOf]; omega
    · have hno : ¬ (I + 2 < len2) ∨ (I + 2 < len2 ∧ ¬ (I < 60)) := by omega
      clear hgo
      have hl := lives_from w wr hB
      clear T hB
      rcases hno with hno | ⟨hno, hno2⟩
      all_goals
        go_wp2_with fail
        refine hl.mono ?_
        rintro e W' ⟨rfl, hB2⟩
        go_wp2_with fail
        go_ret
        exact ⟨rfl, hB2⟩
end Go.Proofs.Ytagjecbgbpjobaa
