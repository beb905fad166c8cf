/- The reference's Bound and Near. -/
import Derived.Test.YtmpdoikdadjneaaDoorCUnum
namespace Go.Proofs.YtmpdoikdadjneaaDoor
open Go.RowKit Go.Shelf Hb Vm Ds Vr

theorem bound_any (n : Int) (m : Nat) (hn : -9223372036854775808 ≤ n ∧ n ≤ 9223372036854775807) (hm : m ≤ 1000000) (w : World) :
    Calls Tryd.prog 35 #[.int .i64 n, .int .i64 (m : Int)] w fun e w' => (∃ z : Int, e = .returned (.int .i64 z) ∧ -(m : Int) ≤ z ∧ z ≤ (m : Int)) ∧ w = w' := by
  have HN := Lib.hid hn
  clear hn
  go_enter Tryd.func35, Tryd.ntmps35
  go_wp2_with fail
  refine (around_any n (2 * (m : Int) + 1) HN.out (by omega) w).mono ?_
  rintro e w' ⟨rfl, rfl⟩
  obtain ⟨g0, g1⟩ := aroundI_range n (2 * (m : Int) + 1) (by omega)
  obtain ⟨r, hr⟩ := Int.eq_ofNat_of_zero_le g0
  rw [hr] at g1 ⊢
  clear hr g0
  go_wp2_with fail
  go_ret
  exact ⟨⟨(r : Int) - (m : Int), rfl, by omega, by omega⟩, rfl⟩

/-- the exponent of a bound -/
def nearE (k : Nat) : Nat := if k % 4 = 0 then 16384 else if k % 4 = 1 then 16383 else if k % 4 = 2 then 8192 else 63
theorem nearE_le (k : Nat) : nearE k ≤ 16384 := by unfold nearE; split <;> (try split) <;> (try split) <;> omega

set_option maxRecDepth 100000 in
set_option maxHeartbeats 4000000 in
theorem near_any (n : Int) (hn : -9223372036854775808 ≤ n ∧ n ≤ 9223372036854775807) (w : World) :
    Calls Tryd.prog 24 #[.int .i64 n] w fun e W' => (∃ u z, e = .returned u ∧ Ni W' W'.heap.size u z ∧ Sm z (nearE (aroundI n 28).toNat + 2)) ∧ Below w.heap.size w W' := by
  obtain ⟨w1, hw1⟩ : ∃ w1, w1 = w.alloc (.cells #[.bool false, .slice none 0 0] 25) := ⟨_, rfl⟩
  have b1 : Row w1 w.heap.size 25 [.bool false, .slice none 0 0] := by rw [hw1]; exact Row.new w _ [.bool false, .slice none 0 0]
  have bw : Below w.heap.size w w1 := by rw [hw1]; exact (Below.refl _ w).alloc (Nat.le_refl _) _
  obtain ⟨k, hk⟩ : ∃ k, k = (aroundI n 28).toNat := ⟨_, rfl⟩
  rw [← hk]
  have hka : aroundI n 28 = (k : Int) ∧ k < 28 := by have := aroundI_range n 28 (by omega); omega
  have HKA := Lib.hid hka
  have HN := Lib.hid hn
  clear hn hk hka
  go_enter Tryd.func24, Tryd.ntmps24
  go_wp2_with fail
  rw [← hw1]
  clear hw1
  refine (around_any n 28 HN.out (by omega) w1).mono ?_
  rintro e w' ⟨rfl, rfl⟩
  rw [HKA.out.1]
  have hk28 := HKA.out.2
  clear HKA
  obtain ⟨E, hE⟩ : ∃ E, E = nearE k := ⟨_, rfl⟩
  have hEl : 63 ≤ E ∧ E ≤ 16384 := by rw [hE]; unfold nearE; split <;> (try split) <;> (try split) <;> omega
  have hrow := Row.new w1 3 [.int .i64 16384, .int .i64 16383, .int .i64 8192, .int .i64 63]
  have hcell : (w1.alloc (.cells #[.int .i64 16384, .int .i64 16383, .int .i64 8192, .int .i64 63] 3)).cell? ⟨w1.heap.size, k % 4, none⟩ = some (.int .i64 (E : Int)) := by
    refine hrow.cell (k % 4) _ ?_
    have h : k % 4 = 0 ∨ k % 4 = 1 ∨ k % 4 = 2 ∨ k % 4 = 3 := by omega
    rw [hE]
    unfold nearE
    rcases h with h | h | h | h <;> rw [h] <;> rfl
  have HE := Lib.hid hE
  clear hE hrow
  go_wp2_with fail
  clear hcell
  obtain ⟨w2, hw2⟩ : ∃ w2, w2 = w1.alloc (.cells #[.int .i64 16384, .int .i64 16383, .int .i64 8192, .int .i64 63] 3) := ⟨_, rfl⟩
  have hBn : Below w1.heap.size w1 w2 := by rw [hw2]; exact (Below.refl _ _).alloc (Nat.le_refl _) _
  rw [← hw2]
  have b2 := b1.below hBn b1.lt
  have low2 := bw.trans (hBn.mono bw.size)
  clear hw2 b1 bw hBn
  obtain ⟨b, hb⟩ : ∃ b : Nat, b = 2 := ⟨_, rfl⟩
  have HB := Lib.hid hb
  clear hb
  refine (power_any b HB.out E _ rfl (Nat.le_trans hEl.2 (by decide)) w2).mono ?_
  rintro e W1 ⟨⟨u1, rfl, hu1⟩, hB1⟩
  have b3 := b2.below hB1 b2.lt
  have low3 := low2.trans (hB1.mono low2.size)
  clear b2 low2 hB1
  go_wp2_with fail
  refine (of_any ((k : Int) / 4 - 3) (by omega) W1).mono ?_
  rintro e W2 ⟨⟨u2, rfl, hu2⟩, hB2⟩
  obtain ⟨o, ho⟩ : ∃ o : Int, o = (k : Int) / 4 - 3 := ⟨_, rfl⟩
  rw [← ho] at hu2
  have hso : Sm o 2 := sm_small (b := 4) rfl (by omega)
  have hu1' := hu1.later hB2 hB2.size
  have b4 := b3.below hB2 b3.lt
  have low4 := low3.trans (hB2.mono low3.size)
  have hsp := sm_pow b E HB.out
  obtain ⟨P, hP⟩ : ∃ P : Int, P = ((b ^ E : Nat) : Int) := ⟨_, rfl⟩
  rw [← hP] at hu1' hsp
  clear hu1 b3 low3 hB2 ho hP
  go_wp2_with fail
  refine (nadd_any P o _ _ W2 hu1' hu2 (Nat.le_trans (ds_two hsp) (by omega)) (Nat.le_trans (ds_two hso) (by decide))).mono ?_
  rintro e W3 ⟨⟨u3, rfl, hu3⟩, hB3⟩
  have hsz : Sm (P + o) (E + 2) := hsp.add (hso.mono (by omega))
  have HSZ := Lib.hid hsz
  have b5 := b4.below hB3 b4.lt
  have low5 := low4.trans (hB3.mono low4.size)
  obtain ⟨z, hz⟩ : ∃ z, z = P + o := ⟨_, rfl⟩
  rw [← hz] at hu3
  have HZ := Lib.hid hz
  obtain ⟨s3, A3, n3, c3, rfl⟩ := hu3.form
  clear hu1' hu2 hsp hso hsz b4 low4 hB3 hz
  go_wp2_with fail
  have xz := NB.new hu3
  have hBn := (Below.refl W3.heap.size W3).alloc (Nat.le_refl _) (.cells #[.bool s3, .slice A3 n3 c3] 25)
  have b6 := b5.below hBn b5.lt
  have low6 := low5.trans (hBn.mono low5.size)
  obtain ⟨W4, hW4⟩ : ∃ W4, W4 = W3.alloc (.cells #[.bool s3, .slice A3 n3 c3] 25) := ⟨_, rfl⟩
  rw [← hW4] at xz b6 low6 ⊢
  clear hW4 hu3 b5 low5 hBn
  obtain ⟨p, hp⟩ : ∃ p, p = W3.heap.size := ⟨_, rfl⟩
  rw [← hp] at xz ⊢
  clear hp
  have hnd : -9223372036854775808 ≤ n.tdiv 28 ∧ n.tdiv 28 ≤ 9223372036854775807 := by
    have h1 := HN.out
    have h2 : (n.tdiv 28).natAbs = n.natAbs / 28 := Int.natAbs_tdiv n 28
    omega
  rw [show wrap64 (n.tdiv 28) = n.tdiv 28 from by unfold wrap64; omega]
  refine (around_any (n.tdiv 28) 2 hnd (by omega) W4).mono ?_
  rintro e w' ⟨rfl, rfl⟩
  obtain ⟨g0, g1⟩ := aroundI_range (n.tdiv 28) 2 (by omega)
  obtain ⟨r, hr⟩ : ∃ r, r = aroundI (n.tdiv 28) 2 := ⟨_, rfl⟩
  rw [← hr] at g0 g1 ⊢
  clear hr hnd
  obtain ⟨k0, k1, -, -⟩ := xz.cells
  have f0 := b6.frozen 0
  have f1 := b6.frozen 1
  have q0 := b6.cell 0 _ rfl
  have q1 := b6.cell 1 _ rfl
  by_cases hr1 : r = 1
  · subst hr1
    clear f0 f1 q0 q1
    go_wp2_with fail
    refine (nneg_any z _ W4 xz.2 (Nat.le_trans (ds_two (by rw [HZ.out]; exact HSZ.out)) (by omega))).mono ?_
    rintro e W5 ⟨⟨u5, rfl, hu5⟩, hB5⟩
    obtain ⟨s5, A5, n5, c5, rfl⟩ := hu5.form
    have b7 := b6.below hB5 b6.lt
    have low7 := low6.trans (hB5.mono low6.size)
    clear b6 low6 xz hB5 k0 k1
    have f0 := b7.frozen 0
    have f1 := b7.frozen 1
    have q0 := b7.cell 0 _ rfl
    have q1 := b7.cell 1 _ rfl
    go_wp2_with fail
    have bt := But.set2 W5.heap.size w.heap.size W5 (.bool s5) (.slice A5 n5 c5)
    exact bodyPost_ret (res_row rfl rfl (b7.set2 _ _) Tryd.underlying25 rfl sizeN) rfl ⟨⟨_, -z, rfl, (hu5.but_struct b7 bt).grow bt.size, by rw [← HE.out, HZ.out]; exact HSZ.out.neg⟩, low7.trans (bt.low.mono (by omega))⟩
  · have hr1' : (r == 1) = false := beq_eq_false_iff_ne.2 hr1
    clear hr1
    go_wp2_with fail
    have bt := But.set2 W4.heap.size w.heap.size W4 (.bool s3) (.slice A3 n3 c3)
    exact bodyPost_ret (res_row rfl rfl (b6.set2 _ _) Tryd.underlying25 rfl sizeN) rfl ⟨⟨_, z, rfl, (xz.2.but_struct b6 bt).grow bt.size, by rw [← HE.out, HZ.out]; exact HSZ.out⟩, low6.trans (bt.low.mono (by omega))⟩
end Go.Proofs.YtmpdoikdadjneaaDoor
