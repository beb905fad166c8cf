/- The law DiceVerifies, walked. -/
import Derived.Test.YtagjecbgbpjobaaDlaws2
import Derived.Test.YtagjecbgbpjobaaDver
namespace Go.Proofs.Ytagjecbgbpjobaa
open Go.RowKit Go.Shelf Hm Hb Dm Ds

theorem commitI_range (bs : List UInt8) : 0 ≤ commitI bs ∧ commitI bs < 18446744073709551616 := ⟨UI_nonneg _, UI_lt _⟩
theorem verB_own (bs : List UInt8) (h n q x e q' : Int) (hr : roll h n q = (x, e, q')) : verB (commitI bs) bs h n q x = (e == 0) := by
  unfold verB; rw [hr]; simp
theorem verB_next (bs : List UInt8) (h n q x e q' : Int) (hn : n ≤ 9223372036854775807) (hr : roll h n q = (x, e, q')) : verB (commitI bs) bs h n q (wrap64 (x + 1)) = false := by
  unfold verB; rw [hr]
  by_cases h1 : 1 ≤ n
  · have := roll_is h n q h1
    rw [hr] at this
    rcases this with ⟨k0, k1, k2⟩ | ⟨k0, k1⟩
    · simp only at k0 k1 k2
      have e1 : wrap64 (x + 1) = x + 1 := by unfold wrap64; omega
      have e2 : (x == wrap64 (x + 1)) = false := by rw [e1]; exact beq_eq_false_iff_ne.2 (by omega)
      simp only [e2]
      simp
    · simp only at k0
      subst k0
      simp
  · rw [roll_arg h n q (by omega)] at hr
    injection hr with h2 h3
    injection h3 with h3 h4
    subst h3
    simp
theorem verB_other (bs : List UInt8) (h n q r : Int) : verB (IntKind.u64.wrap (commitI bs + 1)) bs h n q r = false := by
  have hc := commitI_range bs
  have e1 : (IntKind.u64.wrap (commitI bs + 1) == commitI bs) = false := by
    rw [wrapU, UI_BI]
    exact beq_eq_false_iff_ne.2 (by omega)
  unfold verB
  rw [e1]
  simp

set_option maxRecDepth 100000 in
set_option maxHeartbeats 4000000 in
theorem DiceVerifies_walk (w : World) (a0 : Option Addr) (len0 cap0 : Nat) (x0 : List UInt8) (r0 : Rd w w.heap.size a0 len0 (x0.map bv)) (l0 : len0 ≤ cap0) (m0 : cap0 ≤ maxLen) (a1 : ByteArray) (w1 : a1.size ≤ maxLen) (a2 : Int) (w2 : (Lit.int .i64 a2).wf = true) (a3 : Int) (w3 : (Lit.int .i64 a3).wf = true) (a4 : Int) (w4 : (Lit.int .u64 a4).wf = true) (a5 : Int) (w5 : (Lit.int .i64 a5).wf = true) :
    Calls Try.prog 9 #[.slice a0 len0 cap0, .string a1, .int .i64 a2, .int .i64 a3, .int .u64 a4, .int .i64 a5] w fun e W' => e = .returned (.bool true) ∧ Below w.heap.size w W' := by
  have b3 := bounds_i64 w3
  clear w2 w4
  go_enter Try.func9, Try.ntmps9
  go_wp2_with fail
  refine (few_t a0 len0 cap0 x0 l0 m0 20 (by omega) _ rfl w r0).mono ?_
  rintro e W1 ⟨A, m, c, rfl, hm, -, hmc, -, R1, -, B1⟩
  have s1 := B1.size
  obtain ⟨bs, hbs⟩ : ∃ bs, bs = List.take 20 x0 := ⟨_, rfl⟩
  rw [← hbs] at R1
  clear hbs
  go_wp2_with fail
  refine (short_t a1 10 (by omega) _ rfl W1).mono ?_
  rintro e w' ⟨⟨t, rfl, ht, -⟩, rfl⟩
  go_wp2_with fail
  refine (sides_t a3 w3 _).mono ?_
  rintro e w' ⟨⟨k, rfl, k0, k1⟩, rfl⟩
  have q1 : (W1.alloc (.cells #[.int .i64 a3, .int .i64 k] 3)).heap[W1.heap.size]? = some (.cells #[.int .i64 a3, .int .i64 k] 3 (0, 0)) := World.alloc_heap_new W1 _
  have B2 : Below W1.heap.size W1 (W1.alloc (.cells #[.int .i64 a3, .int .i64 k] 3)) := (Below.refl _ _).alloc (Nat.le_refl _) _
  have s2 : (W1.alloc (.cells #[.int .i64 a3, .int .i64 k] 3)).heap.size = W1.heap.size + 1 := by simp
  go_wp2_with fail
  obtain ⟨W2, hW2⟩ : ∃ W2, W2 = W1.alloc (.cells #[.int .i64 a3, .int .i64 k] 3) := ⟨_, rfl⟩
  rw [← hW2] at q1 B2 s2 ⊢
  clear hW2
  have R2 := R1.later B2 B2.size
  have B3 := B1.trans (B2.mono s1)
  obtain ⟨G, hG⟩ : ∃ G, G = W1.heap.size := ⟨_, rfl⟩
  rw [← hG] at q1 s1 s2 ⊢
  clear hG B1 B2 R1
  refine (commit_any A m c bs (by omega) hmc W2 R2).mono ?_
  rintro e W3 ⟨rfl, hB⟩
  have s3 := hB.size
  have q3 := (hB.block G (by omega)).trans q1
  have R3 := R2.later hB s3
  have B4 := B3.trans (hB.mono (by omega))
  clear hB q1 R2 B3
  have hc := commitI_range bs
  obtain ⟨C, hC⟩ : ∃ C, C = commitI bs := ⟨_, rfl⟩
  rw [← hC] at hc ⊢
  have HC := Lib.hid hC
  clear hC
  obtain ⟨h, hh⟩ : ∃ h, h = hashI t.data.toList bs := ⟨_, rfl⟩
  have HH := Lib.hid hh
  clear hh
  go_wp2_with fail
  go_loopw [17] (fun i wr => ∃ j : Nat, j ≤ 2 ∧ i = .int .i64 j ∧ Below W3.heap.size W3 wr) (fun i _ => 2 - (intOf i).toNat)
  case atStart => exact ⟨0, by omega, rfl, Below.refl _ _⟩
  case round =>
    obtain ⟨j, hj, rfl, hB⟩ := hrel
    have sr := hB.size
    have B5 := B4.trans (hB.mono (by omega))
    by_cases hlt : j < 2
    · obtain ⟨kk, bk, ck⟩ : ∃ kk : Int, (-9223372036854775808 ≤ kk ∧ kk ≤ 9223372036854775807) ∧ wr.cell? ⟨G, j, none⟩ = some (.int .i64 kk) := by
        have p1 := (hB.block G (by omega)).trans q3
        rcases (show j = 0 ∨ j = 1 by omega) with rfl | rfl
        · exact ⟨a3, b3, by simp [World.cell?, p1]⟩
        · exact ⟨k, by omega, by simp [World.cell?, p1]⟩
      have R4 := R3.later hB sr
      have bj : (j : Int) < 2 := by omega
      have bj0 : (0 : Int) ≤ (j : Int) := by omega
      go_wp2_with fail
      refine (around_t a5 7 _ rfl w5 (by omega) _).mono ?_
      rintro e w' ⟨⟨nr, rfl, hnr⟩, rfl⟩
      clear ck
      have v1 := verify_any a4 t (by omega) A m c bs (by omega) hmc a2 kk a5 bk wr R4
      rw [← HH.out] at v1
      go_wp2_with fail
      refine v1.mono ?_
      rintro e W4 ⟨rfl, hB4⟩
      clear v1
      have s4 := hB4.size
      have R5 := R4.later hB4 s4
      have B6 := hB.trans (hB4.mono sr)
      clear hB hB4 R4
      have v1 := rverify_any a4 t (by omega) A m c bs (by omega) a2 kk a5 bk W4 R5
      rw [← HH.out] at v1
      go_wp2_with fail
      refine v1.mono ?_
      rintro e W5 ⟨rfl, hB5⟩
      clear v1
      have s5 := hB5.size
      have R6 := R5.later hB5 s5
      have B7 := B6.trans (hB5.mono (by omega))
      clear hB5 R5 B6
      have v1 := verify_any C t (by omega) A m c bs (by omega) hmc a2 kk nr bk W5 R6
      rw [← HH.out] at v1
      go_wp2_with fail
      refine v1.mono ?_
      rintro e W6 ⟨rfl, hB6⟩
      clear v1
      have s6 := hB6.size
      have R7 := R6.later hB6 s6
      have B8 := B7.trans (hB6.mono (by omega))
      clear hB6 R6 B7
      have v1 := rverify_any C t (by omega) A m c bs (by omega) a2 kk nr bk W6 R7
      rw [← HH.out] at v1
      go_wp2_with fail
      refine v1.mono ?_
      rintro e W7 ⟨rfl, hB7⟩
      clear v1
      have s7 := hB7.size
      have R8 := R7.later hB7 s7
      have B9 := B8.trans (hB7.mono (by omega))
      clear hB7 R7 B8
      go_wp2_with fail
      refine (new_any t (by omega) A m c bs (by omega) hmc W7 R8).mono ?_
      rintro e W8 ⟨p, b, rfl, hb, hs8, d, hB8⟩
      rw [← HH.out] at d
      have s8 := hB8.size
      have R9 := R8.below hB8
      have B10 := B9.trans (hB8.mono (by omega))
      have lb := d.1
      have lp := d.lt
      clear hB8 R8 B9
      go_wp2_with fail
      refine (seek_any a2 W8 d).mono ?_
      rintro e W9 ⟨⟨v, rfl⟩, d9, hB9⟩
      have s9 := hB9.size
      have R10 := R9.below (hB9.low.mono (by omega))
      have B11 := B10.trans (hB9.low.mono (by omega))
      clear hB9 R9 B10 d
      obtain ⟨⟨x, e, q'⟩, hR⟩ : ∃ R, R = roll h kk a2 := ⟨_, rfl⟩
      have v1 := roll_any kk bk p b h a2 W9 d9
      rw [← hR] at v1
      have HR := Lib.hid hR.symm
      clear hR
      simp only at v1
      have hx : -9223372036854775808 ≤ x ∧ x ≤ 9223372036854775807 := by
        have h2 := HR.out
        by_cases h1 : 1 ≤ kk
        · have h3 := roll_is h kk a2 h1
          rw [h2] at h3
          simp only at h3
          omega
        · rw [roll_arg h kk a2 (by omega)] at h2
          injection h2 with h4 h5
          omega
      go_wp2_with fail
      refine v1.mono ?_
      rintro e W10 ⟨rfl, -, hB10⟩
      unfold numErr
      clear v1
      have s10 := hB10.size
      have lp9 := d9.lt
      have R11 := (R10.below (hB10.low.mono (by omega))).mono (B' := W10.heap.size) (by omega)
      have B12 := B11.trans (hB10.low.mono (by omega))
      clear hB10 R10 B11 d9
      have v1 := verify_any C t (by omega) A m c bs (by omega) hmc a2 kk x bk W10 R11
      rw [← HH.out, HC.out, verB_own bs h kk a2 x e q' HR.out, ← HC.out] at v1
      go_wp2_with fail
      refine v1.mono ?_
      rintro ee W11 ⟨rfl, hB11⟩
      clear v1
      have s11 := hB11.size
      have R12 := R11.later hB11 s11
      have B13 := B12.trans (hB11.mono (by omega))
      clear hB11 R11 B12
      obtain ⟨eb, heb⟩ : ∃ eb, eb = (e == 0) := ⟨_, rfl⟩
      rw [← heb]
      have heb' := heb.symm
      clear heb
      have v1 := verify_any C t (by omega) A m c bs (by omega) hmc a2 kk (wrap64 (x + 1)) bk W11 R12
      rw [← HH.out, HC.out, verB_next bs h kk a2 x e q' bk.2 HR.out, ← HC.out] at v1
      go_wp2_with fail
      refine v1.mono ?_
      rintro ee W12 ⟨rfl, hB12⟩
      clear v1
      have s12 := hB12.size
      have R13 := R12.later hB12 s12
      have B14 := B13.trans (hB12.mono (by omega))
      clear hB12 R12 B13
      have v1 := verify_any (IntKind.u64.wrap (C + 1)) t (by omega) A m c bs (by omega) hmc a2 kk x bk W12 R13
      rw [← HH.out, HC.out, verB_other bs h kk a2 x, ← HC.out] at v1
      go_wp2_with fail
      refine v1.mono ?_
      rintro ee W13 ⟨rfl, hB13⟩
      clear v1
      have B15 := B14.trans (hB13.mono (by omega))
      clear hB13 R13 B14
      go_wp2_with fail
      go_roundw
      case rel => exact ⟨j + 1, by omega, by go_num, B15⟩
      case measure => simp [intOf]; omega
    · obtain rfl : j = 2 := by omega
      simp only [show ((2 : Nat) : Int) = 2 from rfl]
      go_wp2_with fail
      refine (lives_any wr).mono ?_
      rintro e W' ⟨rfl, hB2⟩
      go_wp2_with fail
      go_ret
      exact ⟨rfl, B5.trans (hB2.mono (by omega))⟩
end Go.Proofs.Ytagjecbgbpjobaa
