/- The law DiceTickets, walked. -/
import Derived.Test.YtagjecbgbpjobaaDlaws3
import Derived.Test.YtagjecbgbpjobaaDrowo
import Derived.Test.YtagjecbgbpjobaaWrd4
import Derived.Test.YtagjecbgbpjobaaWmath2
namespace Go.Proofs.Ytagjecbgbpjobaa
open Go.RowKit Go.Shelf Hm Hb Dm Ds Wm

theorem below_box {W W' : World} {q B : Nat} (h : W.grownBy W' (some q)) (hB : B ≤ W.heap.size) (hq : B ≤ q) : Below B W W' := (Below.refl B W).grown h hB (fun k e => by cases e; exact hq)
theorem joinB_length (rows : List (List UInt8)) : (joinB rows).length = 8 := bytesUpto_length _ _
theorem rI_round (n : Int) (h1 : -9223372036854775808 ≤ n) (h2 : n ≤ 9223372036854775807) : rI (0, vu (zz n)) = (n, 0, []) := by
  have := rU_round (zz n) (zz_lt h1 h2) []
  rw [List.append_nil] at this
  unfold rI
  rw [this, unzz_zz]

set_option maxRecDepth 100000 in
set_option maxHeartbeats 4000000 in
theorem DiceTickets_walk (w : World) (a0 : Option Addr) (len0 cap0 : Nat) (x0 : List (List UInt8)) (r0 : RdRows w w.heap.size a0 len0 x0) (l0 : len0 ≤ cap0) (m0 : cap0 ≤ maxLen) (a1 : Int) (w1 : (Lit.int .i64 a1).wf = true) (a2 : Int) (w2 : (Lit.int .i64 a2).wf = true) :
    Calls Try.prog 10 #[.slice a0 len0 cap0, .int .i64 a1, .int .i64 a2] w fun e W' => e = .returned (.bool true) ∧ Below w.heap.size w W' := by
  obtain ⟨i0, hi, hz0, hz1, hz2⟩ := info_parts infoS
  have b1 := bounds_i64 w1
  have hmm := m0
  unfold maxLen at hmm
  clear m0 w1
  go_enter Try.func10, Try.ntmps10
  go_wp2_with fail
  go_loopw [7, 8] (fun v i wr => ∃ (k : Nat) (vs : List Value) (rows : List (List UInt8)), k ≤ 4 ∧ k ≤ len0 ∧ i = .int .i64 k ∧ rows.length = k ∧ (∀ r ∈ rows, r.length ≤ 12) ∧ wr.ownsRow w.heap.size 22 1 v k vs ∧ RowsO wr w.heap.size vs rows ∧ Below w.heap.size w wr) (fun _ i _ => 4 - (intOf i).toNat)
  case atStart => exact ⟨0, [], [], by omega, by omega, rfl, rfl, by simp, World.ownsRow_nil _ _ _ _, RowsO.nil _ _, Below.refl _ _⟩
  case round =>
    obtain ⟨k, vs, rows, hk4, hkl, rfl, hrl, hr20, hown, hro, hB⟩ := hrel
    have HRL := Lib.hid hrl
    have HR20 := Lib.hid hr20
    have sr := hB.size
    have BW := hB
    clear hrl hr20
    by_cases hgo : k < len0 ∧ k < 4
    · obtain ⟨g1, g2⟩ := hgo
      obtain ⟨a, A', c', hkx, rfl, hab, hcell, hlc, hcmx, hrd⟩ := RdR.of_rows (r0.later BW BW.size) k g1
      generalize x0[k] = row at *
      obtain ⟨A9, c9, hv9⟩ := own_form hown
      subst hv9
      go_wp2_with fail
      refine (few_t A' row.length c' row hlc hcmx 12 (by omega) _ rfl wr hrd).mono ?_
      rintro e W3 ⟨A3, n3, c3, rfl, hn3, hn3l, -, -, -, own3, hB3⟩
      obtain ⟨rw3, hrw3⟩ : ∃ r, r = List.take 12 row := ⟨_, rfl⟩
      rw [← hrw3] at hn3l own3
      subst hn3l
      have s3 := hB3.size
      have own3' := own_base own3 sr
      have hown3 := own_below hown hB3 (Nat.le_refl _)
      have hro3 := hro.below hB3
      have b3 := hB.trans (hB3.mono sr)
      clear hB3 hrw3 own3 hcell hrd
      go_wp2_with (at_builtin; refine wpList_append_own _ rfl _ _ 23 rfl w.heap.size 22 i0 (.slice none 0 0) 1 24 Try.underlying23 hi hz0 hz1 hz2 rfl (by decide) (.slice A9 k c9) k _ rfl (hown3.alloc _) ⟨W3.heap.size, 0, none⟩ 1 1 [.slice A3 rw3.length c3] rfl rfl (cell_one_new _ _ _) (by simp [Value.oneCell']) (by unfold maxLen; omega) (by omega) (by simp; omega) ?_; intro v' w5 hown' hgrow _)
      have ba : Below W3.heap.size W3 (W3.alloc (.cells #[.slice A3 rw3.length c3] 22)) := (Below.refl _ _).alloc (Nat.le_refl _) _
      have hro5 := ((hro3.push rw3 A3 c3 own3').below ba).grown (hown3.alloc _) hgrow
      have b5 := own_grown (b3.alloc b3.size (.cells #[.slice A3 rw3.length c3] 22)) (hown3.alloc _) hgrow (by simp; omega)
      go_roundw
      case rel =>
        refine ⟨k + 1, _, _, by omega, by omega, by go_num, by simp [HRL.out], ?_, hown', hro5, b5⟩
        intro r hr
        rcases List.mem_append.1 hr with hr | hr
        · exact HR20.out r hr
        · simp only [List.mem_singleton] at hr
          subst hr
          exact hn3
      case measure => simp [intOf]; omega
    · have hno : ¬ (k < len0) ∨ (k < len0 ∧ ¬ (k < 4)) := by omega
      clear hgo
      obtain ⟨A9, c9, hv9⟩ := own_form hown
      subst hv9
      have RW : RdR wr wr.heap.size A9 k rows := ⟨vs, Rd.of_own hown, hro.rd⟩
      have hsm : small rows := fun r hr => by have := HR20.out r hr; omega
      have HSM := Lib.hid hsm
      have szw := BW.size
      clear hown hro hB hsm
      rcases hno with hno | ⟨hno, hno2⟩
      all_goals
        go_wp2_with fail
        refine (join_any A9 k c9 rows (by omega) HSM.out wr RW).mono ?_
        rintro e W1 ⟨g, rfl, hg, R1, hB1⟩
        have s1 := hB1.size
        have B1 := BW.trans (hB1.mono szw)
        obtain ⟨J, hJ⟩ : ∃ J, J = joinB rows := ⟨_, rfl⟩
        have hJl : J.length = 8 := by rw [hJ]; exact joinB_length rows
        rw [← hJ] at R1
        have HJL := Lib.hid hJl
        clear hB1 RW BW hJ hJl
        have bA := (Below.refl W1.heap.size W1).alloc (Nat.le_refl _) (.cells #[.slice none 0 0] 66)
        have RA := R1.below bA
        have wA := Wr.new W1
        have hys : ([] ++ (vu 8 ++ J)).length ≤ 1000 := by
          have := vu_len10 (n := 8) (by omega)
          simp only [List.nil_append, List.length_append, HJL.out]
          omega
        have HYS := Lib.hid hys
        clear hys
        go_wp2_with fail
        refine (w_raw W1.heap.size _ 8 8 J [] (by omega) (by simp) _ wA RA).mono ?_
        rintro e W2 ⟨rfl, wB, hB2⟩
        have bB := bA.trans hB2
        have s2 := bB.size
        have R2 := R1.below bB
        obtain ⟨ys, hyy⟩ : ∃ ys, ys = [] ++ (vu 8 ++ J) := ⟨_, rfl⟩
        rw [← hyy] at wB HYS
        have HYY := Lib.hid hyy
        clear hB2 RA wA R1 bA hyy
        go_wp2_with fail
        refine (w_int W1.heap.size a1 ys b1.1 b1.2 (by have := HYS.out; omega) W2 wB).mono ?_
        rintro e W3 ⟨rfl, wC, hB3⟩
        have bC := bB.trans hB3
        have s3 := hB3.size
        have R3 := R2.below hB3
        have hz3 : (ys ++ vu (zz a1)).length ≤ 1100 := by
          have := vu_len10 (n := zz a1) (zz_lt b1.1 b1.2)
          have h2 := HYS.out
          rw [List.length_append]
          omega
        obtain ⟨zs, hzz⟩ : ∃ zs, zs = ys ++ vu (zz a1) := ⟨_, rfl⟩
        rw [← hzz] at wC hz3
        have hrr : rR (0, zs) = (J, 0, vu (zz a1)) := by
          have := rR_round J (by rw [HJL.out]; omega) (vu (zz a1))
          rw [HJL.out] at this
          rw [hzz, HYY.out, List.nil_append]
          exact this
        have HRR := Lib.hid hrr
        have HZ3 := Lib.hid hz3
        have HRI := Lib.hid (rI_round a1 b1.1 b1.2)
        clear hzz hrr hz3 R2 hB3 wB bB
        have B3 := B1.trans (bC.mono B1.size)
        go_wp2_with fail
        refine (w_done W1.heap.size zs (by have := HZ3.out; omega) W3 wC).mono ?_
        rintro e W4 ⟨A4, c4, rfl, ho4, -, hB4⟩
        have s4 := hB4.size
        have R4 := R3.below (hB4.mono (by omega))
        have B4 := B3.trans (hB4.mono (by omega))
        have l4 := own_le ho4
        have rd4 := Rd.of_own ho4
        clear hB4 R3 ho4 wC B3 bC
        go_wp2_with fail
        refine (r_read A4 zs.length c4 zs (by have := HZ3.out; omega) l4 W4 rd4).mono ?_
        rintro e W5 ⟨q, rfl, hq, hR5, hB5⟩
        have s5 := hB5.size
        have R5 := R4.below (hB5.mono (by omega))
        have B5 := B4.trans (hB5.mono (by omega))
        clear hB5 R4 rd4 B4
        go_wp2_with fail
        have ci := r_raw q _ (0, zs) (by show zs.length ≤ _; have := HZ3.out; omega) W5 hR5
        rw [HRR.out] at ci
        simp only at ci
        refine ci.mono ?_
        rintro e W6 ⟨v6, rfl, ho6, hR6, hG6⟩
        rw [HJL.out] at ho6
        obtain ⟨A6, c6, hv6⟩ := own_form ho6
        subst hv6
        have lq := hR5.lt
        have hB6 := below_box hG6 (show w.heap.size ≤ W5.heap.size by omega) (show w.heap.size ≤ q by omega)
        have hB6' := below_box hG6 (show W1.heap.size ≤ W5.heap.size by omega) (show W1.heap.size ≤ q by omega)
        have R6 := R5.below hB6'
        have B6 := B5.trans hB6
        have s6 := hG6.size
        clear hG6 hB6 hB6' R5 B5 hR5 ci
        go_wp2_with fail
        have ci := r_int q _ (0, vu (zz a1)) W6 hR6
        rw [HRI.out] at ci
        simp only at ci
        refine ci.mono ?_
        rintro e W7 ⟨rfl, hR7, hG7⟩
        have lq6 := hR6.lt
        have hB7 := below_box hG7 (show w.heap.size ≤ W6.heap.size by omega) (show w.heap.size ≤ q by omega)
        have hB7' := below_box hG7 (show W1.heap.size ≤ W6.heap.size by omega) (show W1.heap.size ≤ q by omega)
        have R7 := (R6.below hB7').mono (B' := W7.heap.size) (by have := hG7.size; omega)
        have B7 := B6.trans hB7
        have s7 := hG7.size
        have hnq : (Value.slice A6 8 c6).ownBlock ≠ some q := fun e => by
          have := (ho6.lt q e).1
          omega
        have ho7 := ho6.kept hG7 (.inr hnq)
        have T7 := Rd.of_own ho7
        have lc6 := own_le ho7
        clear hG7 hB7 hB7' R6 B6 hR6 ci ho6 ho7 hnq
        go_wp2_with fail
        refine (new_any _ (by decide) A6 8 c6 J (by omega) lc6 W7 T7).mono ?_
        rintro e W8 ⟨p, b, rfl, hb, hs8, d, hB8⟩
        obtain ⟨h, hh⟩ : ∃ h, h = hashI [116, 105, 99, 107, 101, 116] J := ⟨_, rfl⟩
        rw [show hashI _ J = h from hh.symm] at d
        have HH := Lib.hid hh
        clear hh
        have s8 := hB8.size
        have lb := d.1
        have R8 := R7.below hB8
        have T8 := T7.below hB8
        have B8 := B7.trans (hB8.mono (by omega))
        have ce := r_end q _ (0, []) W8 (hR7.below hB8 (Nat.le_refl _))
        rw [show endOf (0, []) = 0 from rfl] at ce
        clear hB8 R7 T7 B7 hR7 hs8
        go_wp2_with fail
        refine ce.mono ?_
        rintro e w' ⟨rfl, rfl⟩
        clear ce
        have hne : (a1 != a1) = false := by simp
        go_wp2_with fail
        refine (seek_any a1 W8 d).mono ?_
        rintro e W9 ⟨⟨v9, rfl⟩, d9, hB9⟩
        have R9 := R8.below (hB9.low.mono (by omega))
        have T9 := T8.below (hB9.low.mono (by omega))
        have B9 := B8.trans (hB9.low.mono (by omega))
        have s9 := hB9.size
        clear hB9 R8 T8 B8 d
        go_wp2_with fail
        refine (around_t a2 1000 _ rfl w2 (by omega) W9).mono ?_
        rintro e w' ⟨⟨nn, rfl, hnn⟩, rfl⟩
        have hri := roll_is h (1 + (nn : Int)) a1 (by omega)
        have hr := roll_any (1 + (nn : Int)) (by omega) p b h a1 W9 d9
        obtain ⟨⟨x, e, q'⟩, hR⟩ : ∃ R, R = roll h (1 + (nn : Int)) a1 := ⟨_, rfl⟩
        rw [← hR] at hr hri
        simp only at hr hri
        have HRL := Lib.hid hR.symm
        clear hR
        have lp9 := d9.lt
        have bxx : -9223372036854775808 ≤ x ∧ x ≤ 9223372036854775807 := by omega
        have he : e = 0 ∨ e = 4 := by omega
        clear hri hne
        rcases he with rfl | rfl
        · go_wp2_with fail
          refine hr.mono ?_
          rintro e5 W10 ⟨rfl, -, hB10⟩
          unfold numErr
          have s10 := hB10.size
          have R10 := (R9.below (hB10.low.mono (by omega))).mono (B' := W10.heap.size) (by omega)
          have T10 := (T9.below (hB10.low.mono (by omega))).mono (B' := W10.heap.size) (by omega)
          have B10 := B9.trans (hB10.low.mono (by omega))
          clear hr hB10 R9 T9 B9 d9
          obtain ⟨C, hC⟩ : ∃ C, C = commitI J := ⟨_, rfl⟩
          have HC := Lib.hid hC
          clear hC
          have v1 := bytes_any ⟨#[115, 101, 101, 100]⟩ (by decide) (some ⟨g, 0, none⟩) 8 8 J (by omega) (by omega) W10 R10
          rw [show bytesM _ J = C from HC.out.symm] at v1
          go_wp2_with fail
          refine v1.mono ?_
          rintro e6 W11 ⟨rfl, hB11⟩
          have s11 := hB11.size
          have R11 := R10.later hB11 s11
          have T11 := T10.later hB11 s11
          have B11 := B10.trans (hB11.mono (by omega))
          clear v1 hB11 R10 T10 B10
          have v1 := verify_any C ⟨#[116, 105, 99, 107, 101, 116]⟩ (by decide) (some ⟨g, 0, none⟩) 8 8 J (by omega) (by omega) a1 (1 + (nn : Int)) x (by omega) W11 R11
          rw [show hashI _ J = h from HH.out.symm, HC.out, verB_own J h (1 + (nn : Int)) a1 x 0 q' HRL.out, ← HC.out] at v1
          go_wp2_with fail
          refine v1.mono ?_
          rintro e7 W12 ⟨rfl, hB12⟩
          have s12 := hB12.size
          have R12 := R11.later hB12 s12
          have T12 := T11.later hB12 s12
          have B12 := B11.trans (hB12.mono (by omega))
          clear v1 hB12 R11 T11 B11
          have v1 := bytes_any ⟨#[115, 101, 101, 100]⟩ (by decide) (some ⟨g, 0, none⟩) 8 8 J (by omega) (by omega) W12 R12
          rw [show bytesM _ J = C from HC.out.symm] at v1
          go_wp2_with fail
          refine v1.mono ?_
          rintro e8 W13 ⟨rfl, hB13⟩
          have s13 := hB13.size
          have T13 := T12.later hB13 s13
          have B13 := B12.trans (hB13.mono (by omega))
          clear v1 hB13 R12 T12 B12
          have v1 := opens_any C A6 8 c6 J (by omega) lc6 W13 T13
          rw [← HC.out, show (C == C) = true from beq_self_eq_true C] at v1
          go_wp2_with fail
          refine v1.mono ?_
          rintro e9 W14 ⟨rfl, hB14⟩
          have hl := lives_from w W14 (B13.trans (hB14.mono B13.size))
          clear v1 hB14 T13 B13
          go_wp2_with fail
          refine hl.mono ?_
          rintro e W' ⟨rfl, hB15⟩
          go_wp2_with fail
          go_ret
          exact ⟨rfl, hB15⟩
        · go_wp2_with fail
          refine hr.mono ?_
          rintro e5 W10 ⟨rfl, -, hB10⟩
          unfold numErr
          have hl := lives_from w W10 (B9.trans (hB10.low.mono (by omega)))
          clear hr hB10 R9 T9 B9 d9
          go_wp2_with fail
          refine hl.mono ?_
          rintro e W' ⟨rfl, hB15⟩
          go_wp2_with fail
          go_ret
          exact ⟨rfl, hB15⟩
end Go.Proofs.Ytagjecbgbpjobaa
