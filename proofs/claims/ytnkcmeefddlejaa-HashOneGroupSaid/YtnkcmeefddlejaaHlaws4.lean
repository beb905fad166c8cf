/- The law HashOneGroup, walked. -/
import Derived.Test.YtnkcmeefddlejaaHlaws3
namespace Go.Proofs.Ytnkcmeefddlejaa
open Go.RowKit Hm Hb

theorem byte_of {a : Int} (h : (Lit.int .u8 a).wf = true) : ∃ q : UInt8, a = (q.toNat : Int) := by
  have hb := bounds_u8 h
  refine ⟨UInt8.ofNat a.toNat, ?_⟩
  simp only [UInt8.toNat_ofNat']
  omega
theorem ofInt_u8 (n : UInt8) : BitVec.ofInt 8 (n.toNat : Int) = n.toBitVec := by
  apply BitVec.eq_of_toNat_eq
  simp
theorem wrap_u8 (n : UInt8) : IntKind.u8.wrap (n.toNat : Int) = (n.toNat : Int) := by
  have := n.toNat_lt
  simp only [IntKind.wrap, IntKind.signed, IntKind.bits]
  simp
  omega
theorem xor_u8 (a b : UInt8) : bits .xor .u8 (a.toNat : Int) (b.toNat : Int) = ((a ^^^ b).toNat : Int) := by
  show IntKind.u8.wrap (((BitVec.ofInt 8 (a.toNat : Int) ^^^ BitVec.ofInt 8 (b.toNat : Int)).toNat : Nat) : Int) = _
  rw [ofInt_u8, ofInt_u8, ← UInt8.toBitVec_xor]
  exact wrap_u8 _
theorem group_same (X : List UInt8) (k : Nat) (u v : UInt8) (i : Nat) (hi : i / 8 ≠ k / 8) : X[i]? = (X.set k u)[i]? ∧ ((k + 1) % 8 ≠ 0 → X[i]? = ((X.set k u).set (k + 1) v)[i]?) := by
  have h1 : k ≠ i := by rintro rfl; exact hi rfl
  refine ⟨by rw [List.getElem?_set_ne h1], fun h8 => ?_⟩
  have h2 : k + 1 ≠ i := by rintro rfl; omega
  rw [List.getElem?_set_ne h2, List.getElem?_set_ne h1]

set_option maxRecDepth 100000 in
set_option maxHeartbeats 2000000 in
theorem HashOneGroup_walk (w : World) (a0 : ByteArray) (_ : a0.size ≤ maxLen) (a1 : Option Addr) (n c : Nat) (xs : List UInt8) (r : Rd w w.heap.size a1 n (xs.map bv)) (hnc : n ≤ c) (hc : c ≤ maxLen) (at_ : Int) (wat : (Lit.int .i64 at_).wf = true) (one : Int) (w1 : (Lit.int .u8 one).wf = true) (two : Int) (w2 : (Lit.int .u8 two).wf = true) :
    Calls Try.prog 6 #[.string a0, .slice a1 n c, .int .i64 at_, .int .u8 one, .int .u8 two] w fun e W' => e = .returned (.bool true) ∧ Below w.heap.size w W' := by
  obtain ⟨q1, rfl⟩ := byte_of w1
  obtain ⟨q2, rfl⟩ := byte_of w2
  obtain ⟨i0, hi, hz0, hz1, hz2⟩ := info_parts infoU8
  clear w1 w2
  go_enter Try.func6, Try.ntmps6
  go_wp2_with fail
  refine (short_t a0 20 (by omega) _ rfl _).mono ?_
  rintro e W ⟨⟨t, rfl, ht, -⟩, rfl⟩
  go_wp2_with fail
  refine (few_t a1 n c xs hnc hc 39 (by omega) _ rfl _ r).mono ?_
  rintro e W1 ⟨A, m, d, rfl, hm, hmX, -, -, -, own1, B1⟩
  obtain ⟨X, hX⟩ : ∃ X, X = xs.take 39 ++ [65] := ⟨_, rfl⟩
  have hXl : X.length = m + 1 := by rw [hX, hmX]; simp
  have s1 := B1.size
  have HX := Lib.hid hX
  have HXl := Lib.hid hXl
  clear hX hXl hmX
  go_wp2_with (at_builtin; refine wpList_append_own _ rfl _ _ 30 rfl w.heap.size 5 i0 (.int .u8 0) 1 1 Try.underlying30 hi hz0 hz1 hz2 rfl (by decide) (.slice A m d) m _ rfl (own1.alloc _) ⟨W1.heap.size, 0, none⟩ 1 1 [bv 65] rfl rfl (cell_one_new _ _ _) (by simp [bv_one]) (by unfold maxLen; omega) (by omega) (by simp; omega) ?_; intro v' W2 own2 hg2 _; obtain ⟨g2, c2, rfl⟩ := ownsRow_succ own2)
  have B2 : Below w.heap.size w W2 := own_grown (B1.alloc s1 _) (own1.alloc _) hg2 (by simp; omega)
  have own2' := own_cast (ys := X.map bv) own2 rfl (by rw [HX.out]; simp)
  have R2 := Rd.of_own own2'
  have hc2 := own_cap own2'
  have hc2' := own_le own2'
  have s2 := B2.size
  clear own2 own2' hg2 own1
  refine (few_t (some ⟨g2, 0, none⟩) (m + 1) c2 X hc2' hc2 40 (by omega) _ rfl _ R2).mono ?_
  rintro e W3 ⟨A3, m3, d3, rfl, hm3, hm3X, -, -, -, own3, hB3⟩
  rw [List.take_of_length_le (by rw [HXl.out]; omega)] at hm3X own3
  obtain rfl : m3 = m + 1 := by rw [hm3X, HXl.out]
  obtain ⟨g3, e3, hv3⟩ := ownsRow_succ own3
  obtain ⟨rfl, rfl⟩ : A3 = some ⟨g3, 0, none⟩ ∧ d3 = e3 := by injection hv3 with h1 h2 h3; exact ⟨h1, h3⟩
  clear hm3X hv3
  have B3 := B2.trans (hB3.mono s2)
  have s3 := B3.size
  have z3 := hB3.size
  go_wp2_with fail
  refine (around_t at_ (m + 1) _ (by simp) wat (by omega) _).mono ?_
  rintro e W4 ⟨⟨k, rfl, hk⟩, rfl⟩
  have hkX : k < X.length := by rw [HXl.out]; exact hk
  have hcell3 : W3.cell? ⟨g3, k, none⟩ = some (.int .u8 (X[k].toNat : Int)) := by
    rw [own3.cellAt k (by omega), List.getElem?_map, List.getElem?_eq_getElem hkX]; rfl
  have hfr3 := own3.frozenAt k
  have hd3 := own_le own3
  obtain ⟨own4, hB4⟩ := own_set (k := k) own3 (bv (X[k] ^^^ q1))
  have R4a := R2.below (hB3.trans hB4)
  have z4 := Nat.le_trans z3 hB4.size
  have B4 := B3.trans (hB4.mono s2)
  unfold bv at own4 hB4 B4
  rw [← xor_u8] at own4 hB4 B4
  unfold bv at R4a z4
  rw [← xor_u8] at R4a z4
  by_cases hlt : (k : Int) + 1 < (m : Int) + 1
  · have hk1X : k + 1 < X.length := by rw [HXl.out]; omega
    by_cases h8 : (k + 1) % 8 = 0
    · have hb8 : (((k : Int) + 1) % 8 != 0) = false := by rw [bne_eq_false_iff_eq]; omega
      obtain ⟨W5, hW5⟩ : ∃ W5, W5 = W3.setCell ⟨g3, k, none⟩ (.int .u8 (bits BinOp.xor .u8 (X[k].toNat : Int) (q1.toNat : Int))) := ⟨_, rfl⟩
      rw [← hW5] at own4 hB4 B4 R4a z4
      have HW5 := Lib.hid hW5
      clear hW5
      obtain ⟨Y, hY⟩ : ∃ Y, Y = X.set k (X[k] ^^^ q1) := ⟨_, rfl⟩
      have RB := (Rd.of_own own4).cast (ys := Y.map bv) rfl (by rw [hY, List.map_set, xor_u8]; rfl)
      have RA : Rd W5 W5.heap.size (some ⟨g2, 0, none⟩) (m + 1) (X.map bv) := R4a.mono z4
      have B5 := B4
      have hkey : (bytesM t.data.toList X == bytesM t.data.toList Y) = decide (X = Y) := by
        rw [Bool.eq_iff_iff, beq_iff_eq, decide_eq_true_iff]
        exact bytes_group _ X Y (by rw [hY]; simp) (k / 8) (fun i hi => by rw [hY]; exact (group_same X k _ 0 i hi).1)
      have HY := Lib.hid hY
      clear hY own4 hB4 B4 R4a z4 own3
      go_wp2_with fail
      rw [← HW5.out]
      refine (bytes_from W5 t (by omega) _ _ _ X (by omega) hc2' RA _ (Below.refl _ _)).mono ?_
      rintro e W6 ⟨rfl, b6⟩
      go_wp2_with fail
      refine (bytes_from W5 t (by omega) _ _ _ Y (by omega) hd3 RB _ b6).mono ?_
      rintro e W7 ⟨rfl, b7⟩
      have RA7 := RA.later b7 b7.size
      have RB7 := RB.later b7 b7.size
      clear b6
      generalize hdec : decide (X = Y) = bb at hkey
      have HD := Lib.hid hdec
      clear hdec
      cases bb
      all_goals
        go_wp2_with fail
        refine (((same_bytes _ _ _ _ _ _ X Y _ (by unfold maxLen; omega) _ RA7 RB7).mono (fun _ _ ⟨he, hq⟩ => (⟨he.trans (ret_bool HD.out), hq⟩ : _ ∧ _)))).mono ?_
        rintro e W8 ⟨rfl, hq⟩
        have b8 := b7.trans ((hq.below W7.heap.size).mono b7.size)
        clear hq
        go_wp2_with fail
        refine (lives_from W5 _ b8).mono ?_
        rintro e W9 ⟨rfl, b9⟩
        go_wp2_with fail
        go_ret
        exact ⟨rfl, B5.trans (b9.mono B5.size)⟩
    · have hb8 : (((k : Int) + 1) % 8 != 0) = true := by rw [bne_iff_ne]; omega
      have hcell5 : W3.cell? ⟨g3, k + 1, none⟩ = some (.int .u8 (X[k + 1].toNat : Int)) := by
        rw [own3.cellAt (k + 1) (by omega), List.getElem?_map, List.getElem?_eq_getElem hk1X]; rfl
      have hfr5 := own3.frozenAt (k + 1)
      clear own3
      obtain ⟨own5, hB5⟩ := own_set (k := k + 1) own4 (bv (X[k + 1] ^^^ q2))
      unfold bv at own5 hB5
      rw [← xor_u8] at own5 hB5
      have B5 := B4.trans (hB5.mono s2)
      obtain ⟨W5, hW5⟩ : ∃ W5, W5 = (W3.setCell ⟨g3, k, none⟩ (.int .u8 (bits BinOp.xor .u8 (X[k].toNat : Int) (q1.toNat : Int)))).setCell ⟨g3, k + 1, none⟩ (.int .u8 (bits BinOp.xor .u8 (X[k + 1].toNat : Int) (q2.toNat : Int))) := ⟨_, rfl⟩
      have RA0 := (R4a.below hB5).mono (Nat.le_trans z4 hB5.size)
      rw [← hW5] at own5 hB5 B5 RA0
      have HW5 := Lib.hid hW5
      clear hW5
      obtain ⟨Y, hY⟩ : ∃ Y, Y = (X.set k (X[k] ^^^ q1)).set (k + 1) (X[k + 1] ^^^ q2) := ⟨_, rfl⟩
      have RB := (Rd.of_own own5).cast (ys := Y.map bv) rfl (by rw [hY, List.map_set, List.map_set, xor_u8, xor_u8]; rfl)
      have RA : Rd W5 W5.heap.size (some ⟨g2, 0, none⟩) (m + 1) (X.map bv) := RA0
      have hkey : (bytesM t.data.toList X == bytesM t.data.toList Y) = decide (X = Y) := by
        rw [Bool.eq_iff_iff, beq_iff_eq, decide_eq_true_iff]
        exact bytes_group _ X Y (by rw [hY]; simp) (k / 8) (fun i hi => by rw [hY]; exact (group_same X k _ _ i hi).2 h8)
      have HY := Lib.hid hY
      clear hY own4 hB4 B4 R4a z4 own5 hB5 RA0
      go_wp2_with fail
      rw [← HW5.out]
      refine (bytes_from W5 t (by omega) _ _ _ X (by omega) hc2' RA _ (Below.refl _ _)).mono ?_
      rintro e W6 ⟨rfl, b6⟩
      go_wp2_with fail
      refine (bytes_from W5 t (by omega) _ _ _ Y (by omega) hd3 RB _ b6).mono ?_
      rintro e W7 ⟨rfl, b7⟩
      have RA7 := RA.later b7 b7.size
      have RB7 := RB.later b7 b7.size
      clear b6
      generalize hdec : decide (X = Y) = bb at hkey
      have HD := Lib.hid hdec
      clear hdec
      cases bb
      all_goals
        go_wp2_with fail
        refine (((same_bytes _ _ _ _ _ _ X Y _ (by unfold maxLen; omega) _ RA7 RB7).mono (fun _ _ ⟨he, hq⟩ => (⟨he.trans (ret_bool HD.out), hq⟩ : _ ∧ _)))).mono ?_
        rintro e W8 ⟨rfl, hq⟩
        have b8 := b7.trans ((hq.below W7.heap.size).mono b7.size)
        clear hq
        go_wp2_with fail
        refine (lives_from W5 _ b8).mono ?_
        rintro e W9 ⟨rfl, b9⟩
        go_wp2_with fail
        go_ret
        exact ⟨rfl, B5.trans (b9.mono B5.size)⟩
  · obtain ⟨W5, hW5⟩ : ∃ W5, W5 = W3.setCell ⟨g3, k, none⟩ (.int .u8 (bits BinOp.xor .u8 (X[k].toNat : Int) (q1.toNat : Int))) := ⟨_, rfl⟩
    rw [← hW5] at own4 hB4 B4 R4a z4
    have HW5 := Lib.hid hW5
    clear hW5
    obtain ⟨Y, hY⟩ : ∃ Y, Y = X.set k (X[k] ^^^ q1) := ⟨_, rfl⟩
    have RB := (Rd.of_own own4).cast (ys := Y.map bv) rfl (by rw [hY, List.map_set, xor_u8]; rfl)
    have RA : Rd W5 W5.heap.size (some ⟨g2, 0, none⟩) (m + 1) (X.map bv) := R4a.mono z4
    have B5 := B4
    have hkey : (bytesM t.data.toList X == bytesM t.data.toList Y) = decide (X = Y) := by
      rw [Bool.eq_iff_iff, beq_iff_eq, decide_eq_true_iff]
      exact bytes_group _ X Y (by rw [hY]; simp) (k / 8) (fun i hi => by rw [hY]; exact (group_same X k _ 0 i hi).1)
    have HY := Lib.hid hY
    clear hY own4 hB4 B4 R4a z4 own3
    go_wp2_with fail
    rw [← HW5.out]
    refine (bytes_from W5 t (by omega) _ _ _ X (by omega) hc2' RA _ (Below.refl _ _)).mono ?_
    rintro e W6 ⟨rfl, b6⟩
    go_wp2_with fail
    refine (bytes_from W5 t (by omega) _ _ _ Y (by omega) hd3 RB _ b6).mono ?_
    rintro e W7 ⟨rfl, b7⟩
    have RA7 := RA.later b7 b7.size
    have RB7 := RB.later b7 b7.size
    clear b6
    generalize hdec : decide (X = Y) = bb at hkey
    have HD := Lib.hid hdec
    clear hdec
    cases bb
    all_goals
      go_wp2_with fail
      refine (((same_bytes _ _ _ _ _ _ X Y _ (by unfold maxLen; omega) _ RA7 RB7).mono (fun _ _ ⟨he, hq⟩ => (⟨he.trans (ret_bool HD.out), hq⟩ : _ ∧ _)))).mono ?_
      rintro e W8 ⟨rfl, hq⟩
      have b8 := b7.trans ((hq.below W7.heap.size).mono b7.size)
      clear hq
      go_wp2_with fail
      refine (lives_from W5 _ b8).mono ?_
      rintro e W9 ⟨rfl, b9⟩
      go_wp2_with fail
      go_ret
      exact ⟨rfl, B5.trans (b9.mono B5.size)⟩
end Go.Proofs.Ytnkcmeefddlejaa
