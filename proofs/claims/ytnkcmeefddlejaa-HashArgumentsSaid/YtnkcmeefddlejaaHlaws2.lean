/- The laws HashGroups and HashArguments, walked. -/
import Derived.Test.YtnkcmeefddlejaaHlaws1
namespace Go.Proofs.Ytnkcmeefddlejaa
open Go.RowKit Hm Hb

set_option maxRecDepth 100000 in
set_option maxHeartbeats 2000000 in
theorem HashGroups_walk (w : World) (a0 : ByteArray) (_ : a0.size ≤ maxLen) (a1 : Option Addr) (n c : Nat) (xs : List UInt8) (r : Rd w w.heap.size a1 n (xs.map bv)) (hnc : n ≤ c) (hc : c ≤ maxLen) :
    Calls Try.prog 8 #[.string a0, .slice a1 n c] w fun e W' => e = .returned (.bool true) ∧ Below w.heap.size w W' := by
  obtain ⟨i0, hi, hz0, hz1, hz2⟩ := info_parts infoI
  obtain ⟨i1, gi, gz0, gz1, gz2⟩ := info_parts infoU8
  go_enter Try.func8, Try.ntmps8
  go_wp2_with fail
  refine (short_t a0 20 (by omega) _ rfl _).mono ?_
  rintro e W ⟨⟨t, rfl, ht, -⟩, rfl⟩
  go_wp2_with fail
  refine (few_t a1 n c xs hnc hc 60 (by omega) _ rfl _ r).mono ?_
  rintro e W1 ⟨A, m, d, rfl, hm, hmX, hmd, hd, R1, -, B1⟩
  obtain ⟨X, hX⟩ : ∃ X, X = xs.take 60 := ⟨_, rfl⟩
  rw [← hX] at R1 hmX
  have HX := Lib.hid hmX
  clear hX hmX
  have s1 := B1.size
  go_wp2_with fail
  refine (rwords_any _ _ _ X (by omega) _ R1).mono ?_
  rintro e W2 ⟨v, rfl, hown, hB2⟩
  rw [show ((wl X).map uv).length = nw m from by simp [wl_length, HX.out]] at hown
  obtain ⟨Av, cv, rfl⟩ := own_form hown
  have hRv := Rd.of_own hown
  have hnw : nw m * 8 ≤ m + 7 := by unfold nw; omega
  have B2 := B1.trans (hB2.mono s1)
  have R2 := R1.later hB2 hB2.size
  have s2 := B2.size
  clear hown hB2
  go_wp2_with fail
  go_loopw [8, 9] (fun v i wr => ∃ k : Nat, k ≤ nw m ∧ i = .int .i64 k ∧ wr.ownsRow W2.heap.size 3 1 v k ((wlUpto X k).map fun x => iv (wrap64 x)) ∧ Below W2.heap.size W2 wr) (fun _ i _ => nw m - (intOf i).toNat)
  case atStart => exact ⟨0, Nat.zero_le _, rfl, World.ownsRow_nil _ _ _ _, Below.refl _ _⟩
  case round =>
    obtain ⟨k, hk, rfl, hown, hB⟩ := hrel
    have hsz := hB.size
    by_cases hlt : k < nw m
    · obtain ⟨a, u, rfl, hab, hu, hc⟩ := (hRv.below hB).at hlt
      have hu' : u = .int .u64 (wk X k) := by
        have hlt' : k < nw X.length := by rw [← HX.out]; exact hlt
        simp only [wl, List.map_map, List.getElem?_map, List.getElem?_range hlt', Option.map_some] at hu
        exact (Option.some.inj hu).symm
      subst hu'
      clear hu
      go_wp2_with (at_builtin; refine wpList_append_own _ rfl _ _ 22 rfl W2.heap.size 3 i0 (.int .i64 0) 1 8 Try.underlying22 hi hz0 hz1 hz2 rfl (by decide) _ k _ rfl (hown.alloc _) ⟨wr.heap.size, 0, none⟩ 1 1 [iv (wrap64 (wk X k))] rfl rfl (cell_one_new _ _ _) (by simp [iv_one]) (by unfold maxLen; omega) (by omega) (by simp; omega) ?_; intro v' w1 hown' hgrow _)
      go_roundw
      case rel => exact ⟨k + 1, by omega, by go_num, own_cast hown' rfl (by rw [wlUpto_succ]; simp), own_grown (hB.alloc hsz _) (hown.alloc _) hgrow (by simp; omega)⟩
      case measure => simp [intOf]; omega
    · obtain rfl : k = nw m := by omega
      have hwl : wlUpto X (nw m) = wl X := by unfold wlUpto wl; rw [HX.out]
      rw [hwl] at hown
      clear hwl
      obtain ⟨Au, cu, rfl⟩ := own_form hown
      have B3 := B2.trans (hB.mono s2)
      have R3 := R2.later hB hsz
      have s3 := B3.size
      go_wp2_with fail
      refine (bytes_any t (by omega) A m d X (by omega) hmd _ R3).mono ?_
      rintro e W4 ⟨rfl, hB4⟩
      have hown4 := own_below hown hB4 (Nat.le_refl _)
      have z4 : W2.heap.size ≤ W4.heap.size := Nat.le_trans hsz hB4.size
      have R4 := (R2.below hB).below (hB4.mono hsz)
      have B4 := B3.trans (hB4.mono s3)
      have s4 := B4.size
      clear hown hB4 R3 R2 R1
      go_wp2_with (at_builtin; refine wpList_append_own _ rfl _ _ 22 rfl W2.heap.size 3 i0 (.int .i64 0) 1 8 Try.underlying22 hi hz0 hz1 hz2 rfl (by decide) (.slice Au (nw m) cu) (nw m) _ rfl (hown4.alloc _) ⟨W4.heap.size, 0, none⟩ 1 1 [iv (m : Int)] rfl rfl (cell_one_new _ _ _) (by simp [iv_one]) (by unfold maxLen; omega) (by omega) (by simp; omega) ?_; intro v' w5 hown5 hgrow5 _; obtain ⟨g', cap', rfl⟩ := ownsRow_succ hown5)
      have hB5 : Below W2.heap.size W4 w5 := own_grown ((Below.refl _ W4).alloc z4 _) (hown4.alloc _) hgrow5 (by simp; omega)
      have B5 := B4.trans (hB5.mono s2)
      have z5 : W2.heap.size ≤ w5.heap.size := Nat.le_trans z4 hB5.size
      have R5 := R4.below hB5
      have s5 := B5.size
      have hRs := (Rd.of_own hown5).cast (ys := ((wl X).map wrap64 ++ [(m : Int)]).map iv) rfl (by simp)
      have hres : sumM t.data.toList ((wl X).map wrap64 ++ [(m : Int)]) = bytesM t.data.toList X := by unfold bytesM; rw [HX.out]
      refine ((sum_any t (by omega) _ _ _ _ (by omega) _ hRs).mono (fun _ _ ⟨he, hb⟩ => (⟨he.trans (ret_u64 hres), hb⟩ : _ ∧ _))).mono ?_
      rintro e W6 ⟨rfl, hB6⟩
      have B6 := B5.trans (hB6.mono s5)
      have s6 := B6.size
      have R6 := (R5.mono z5).later hB6 hB6.size
      clear hown5 hgrow5 hRs hres hB5 hB6 R5 R4 hown4 hRv
      go_wp2_with fail
      refine (few_t A m d X hmd hd 60 (by omega) _ rfl _ R6).mono ?_
      rintro e W7 ⟨A7, m7, d7, rfl, hm7, hm7X, hmd7, hd7, -, hown7, hB7⟩
      rw [List.take_of_length_le (by rw [← HX.out]; exact hm)] at hm7X hown7
      obtain rfl : m7 = m := by rw [hm7X, ← HX.out]
      clear hm7X
      have B7 := B6.trans (hB7.mono s6)
      have R7 := R6.later hB7 hB7.size
      have R7' := R6.below hB7
      have z7 := hB7.size
      have s7 := B7.size
      clear hB7 R6
      have hB8k : ∀ w8, (W7.alloc (.cells #[bv 0] 5)).grownBy w8 (Value.slice A7 m7 d7).ownBlock → Below W6.heap.size W7 w8 := fun w8 hg => own_grown ((Below.refl _ W7).alloc z7 _) (hown7.alloc _) hg (by simp; omega)
      have HB8 := Lib.hid hB8k
      clear hB8k
      by_cases h8 : m7 % 8 = 0
      · have hb8 : ((m7 : Int) % 8 == 0) = true := beq_iff_eq.2 (by omega)
        go_wp2_with (at_builtin; refine wpList_append_own _ rfl _ _ 30 rfl W6.heap.size 5 i1 (.int .u8 0) 1 1 Try.underlying30 gi gz0 gz1 gz2 rfl (by decide) (.slice A7 m7 d7) m7 _ rfl (hown7.alloc _) ⟨W7.heap.size, 0, none⟩ 1 1 [bv 0] rfl rfl (cell_one_new _ _ _) (by simp [bv_one]) (by unfold maxLen; omega) (by omega) (by simp; omega) ?_; intro v' w8 hown8 hgrow8 _; obtain ⟨g8, cap8, rfl⟩ := ownsRow_succ hown8)
        have hB8 := HB8.out w8 hgrow8
        have B8 := B7.trans (hB8.mono s6)
        have s8 := B8.size
        refine (lives_any _).mono ?_
        rintro e W9 ⟨rfl, hB⟩
        have B9 := B8.trans (hB.mono s8)
        clear hB
        go_wp2_with fail
        go_ret
        exact ⟨rfl, B9⟩
      · have hb8 : ((m7 : Int) % 8 == 0) = false := beq_eq_false_iff_ne.2 (by omega)
        have hne : (bytesM t.data.toList (X ++ [0]) != bytesM t.data.toList X) = true := bne_iff_ne.2 (bytes_longer _ X (by rw [← HX.out]; exact h8) (by rw [← HX.out]; omega))
        go_wp2_with (at_builtin; refine wpList_append_own _ rfl _ _ 30 rfl W6.heap.size 5 i1 (.int .u8 0) 1 1 Try.underlying30 gi gz0 gz1 gz2 rfl (by decide) (.slice A7 m7 d7) m7 _ rfl (hown7.alloc _) ⟨W7.heap.size, 0, none⟩ 1 1 [bv 0] rfl rfl (cell_one_new _ _ _) (by simp [bv_one]) (by unfold maxLen; omega) (by omega) (by simp; omega) ?_; intro v' w8 hown8 hgrow8 _; obtain ⟨g8, cap8, rfl⟩ := ownsRow_succ hown8)
        have hB8 := HB8.out w8 hgrow8
        have B8 := B7.trans (hB8.mono s6)
        have s8 := B8.size
        have R8 := R7'.below hB8
        have z8 := hB8.size
        have RL := (Rd.of_own hown8).cast (ys := (X ++ [0]).map bv) rfl (by simp)
        refine (bytes_any t (by omega) _ _ _ (X ++ [0]) (by omega) (own_le hown8) _ RL).mono ?_
        rintro e W9 ⟨rfl, hB⟩
        have B9 := B8.trans (hB.mono s8)
        have R9 := (R8.mono (Nat.le_trans z7 z8)).later hB hB.size
        have s9 := B9.size
        clear hB hB8 hown8 hgrow8 RL R8
        go_wp2_with fail
        refine (bytes_any t (by omega) A m7 d X (by omega) hmd _ R9).mono ?_
        rintro e W10 ⟨rfl, hB⟩
        have B10 := B9.trans (hB.mono s9)
        have s10 := B10.size
        clear hB R9
        go_wp2_with fail
        refine (lives_any _).mono ?_
        rintro e W11 ⟨rfl, hB⟩
        have B11 := B10.trans (hB.mono s10)
        clear hB
        go_wp2_with fail
        go_ret
        exact ⟨rfl, B11⟩

set_option maxRecDepth 100000 in
set_option maxHeartbeats 2000000 in
theorem HashArguments_walk (w : World) (a1 : Option Addr) (n c : Nat) (xs : List Int) (r : Rd w w.heap.size a1 n (xs.map iv)) (_ : ∀ y ∈ xs, -9223372036854775808 ≤ y ∧ y ≤ 9223372036854775807) (hnc : n ≤ c) (hc : c ≤ maxLen) (a2 : Option Addr) (n2 c2 : Nat) (ys : List UInt8) (r2 : Rd w w.heap.size a2 n2 (ys.map bv)) (hnc2 : n2 ≤ c2) (hc2 : c2 ≤ maxLen) :
    Calls Try.prog 10 #[.slice a1 n c, .slice a2 n2 c2] w fun e W' => e = .returned (.bool true) ∧ Below w.heap.size w W' := by
  go_enter Try.func10, Try.ntmps10
  go_wp2_with fail
  refine (ints_t a1 n c xs hnc hc 10 (by omega) _ rfl _ r).mono ?_
  rintro e W1 ⟨A, m, d, rfl, hm, -, hmd, hd, R1, -, B1⟩
  have s1 := B1.size
  have q1 := r2.later B1 s1
  have p1 := r.later B1 s1
  go_wp2_with fail
  refine (few_t a2 n2 c2 ys hnc2 hc2 30 (by omega) _ rfl _ q1).mono ?_
  rintro e W2 ⟨C, k, f, rfl, hk, -, hkf, hf, Q2, -, hB⟩
  have B2 := B1.trans (hB.mono s1)
  have s2 := B2.size
  have R2 := R1.later hB hB.size
  have p2 := p1.later hB hB.size
  have q2 := q1.later hB hB.size
  clear hB R1 p1 q1
  go_wp2_with fail
  refine (sum_any _ (by decide) A m d _ (by omega) _ R2).mono ?_
  rintro e W3 ⟨rfl, hB⟩
  have B3 := B2.trans (hB.mono s2)
  have s3 := B3.size
  have R3 := R2.later hB hB.size
  have Q3 := Q2.later hB hB.size
  have p3 := p2.later hB hB.size
  have q3 := q2.later hB hB.size
  clear hB R2 Q2 p2 q2
  go_wp2_with fail
  refine (bytes_any _ (by decide) C k f _ (by omega) hkf _ Q3).mono ?_
  rintro e W4 ⟨rfl, hB⟩
  have B4 := B3.trans (hB.mono s3)
  have s4 := B4.size
  have R4 := R3.later hB hB.size
  have Q4 := Q3.later hB hB.size
  have p4 := p3.later hB hB.size
  have q4 := q3.later hB hB.size
  clear hB R3 Q3 p3 q3
  go_wp2_with fail
  refine (ints_t a1 n c xs hnc hc 10 (by omega) _ rfl _ p4).mono ?_
  rintro e W5 ⟨A', m', d', rfl, hm', -, hmd', hd', R5', -, hB⟩
  have B5 := B4.trans (hB.mono s4)
  have s5 := B5.size
  have R5 := R4.later hB hB.size
  have Q5 := Q4.later hB hB.size
  have q5 := q4.later hB hB.size
  clear hB R4 Q4 p4 q4
  go_wp2_with fail
  refine (same_ints_t A A' m d m' d' _ _ _ (by omega) _ R5 R5' rfl).mono ?_
  rintro e W6 ⟨rfl, hq⟩
  have hB := hq.below W5.heap.size
  have B6 := B5.trans (hB.mono s5)
  have s6 := B6.size
  have R6 := R5.later hB hB.size
  have Q6 := Q5.later hB hB.size
  have q6 := q5.later hB hB.size
  clear hB hq R5 Q5 q5 R5'
  go_wp2_with fail
  refine (few_t a2 n2 c2 ys hnc2 hc2 30 (by omega) _ rfl _ q6).mono ?_
  rintro e W7 ⟨C', k', f', rfl, hk', -, hkf', hf', Q7', -, hB⟩
  have B7 := B6.trans (hB.mono s6)
  have s7 := B7.size
  have R7 := R6.later hB hB.size
  have Q7 := Q6.later hB hB.size
  clear hB R6 Q6 q6
  go_wp2_with fail
  refine (same_bytes_t C C' k f k' f' _ _ _ (by omega) _ Q7 Q7' rfl).mono ?_
  rintro e W8 ⟨rfl, hq⟩
  have hB := hq.below W7.heap.size
  have B8 := B7.trans (hB.mono s7)
  have s8 := B8.size
  have R8 := R7.later hB hB.size
  have Q8 := Q7.later hB hB.size
  clear hB hq R7 Q7 Q7'
  go_wp2_with fail
  refine (sum_any _ (by decide) A m d _ (by omega) _ R8).mono ?_
  rintro e W9 ⟨rfl, hB⟩
  have B9 := B8.trans (hB.mono s8)
  have s9 := B9.size
  have Q9 := Q8.later hB hB.size
  clear hB R8 Q8
  go_wp2_with fail
  refine (bytes_any _ (by decide) C k f _ (by omega) hkf _ Q9).mono ?_
  rintro e W10 ⟨rfl, hB⟩
  have B10 := B9.trans (hB.mono s9)
  have s10 := B10.size
  clear hB Q9
  go_wp2_with fail
  refine (lives_any _).mono ?_
  rintro e W11 ⟨rfl, hB⟩
  have B11 := B10.trans (hB.mono s10)
  clear hB
  go_wp2_with fail
  go_ret
  exact ⟨rfl, B11⟩
end Go.Proofs.Ytnkcmeefddlejaa
