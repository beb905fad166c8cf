/- The law WireHash, walked. -/
import Derived.Test.YtigbknhlmifikaaWlaws1
import Derived.Test.YtigbknhlmifikaaHbytes
namespace Go.Proofs.Ytigbknhlmifikaa
open Go.RowKit Hb Wm

theorem u64_nat {a : Int} (h : (Lit.int .u64 a).wf = true) : ∃ u : Nat, u < 18446744073709551616 ∧ a = (u : Int) := ⟨a.toNat, by have := bounds_u64 h; omega, by have := bounds_u64 h; omega⟩
theorem vu_len8 {n : Nat} (h : n < 72057594037927936) : (vu n).length ≤ 8 := vu_len 7 n (by omega)

set_option maxRecDepth 100000 in
set_option maxHeartbeats 2000000 in
theorem WireHash_walk (w : World) (a0 : Int) (w0 : (Lit.int .u64 a0).wf = true) (a1 : Int) (w1 : (Lit.int .u64 a1).wf = true) (a2 : Int) (w2 : (Lit.int .i64 a2).wf = true) (a3 : ByteArray) (_ : a3.size ≤ maxLen) :
    Calls Try.prog 10 #[.int .u64 a0, .int .u64 a1, .int .i64 a2, .string a3] w fun e W' => e = .returned (.bool true) ∧ Below w.heap.size w W' := by
  obtain ⟨u, hu, rfl⟩ := u64_nat w0
  obtain ⟨v, hv, rfl⟩ := u64_nat w1
  go_enter Try.func10, Try.ntmps10
  go_wp2_with fail
  refine (around_t a2 56 _ rfl w2 (by omega) w).mono ?_
  rintro e W ⟨⟨s, rfl, hs⟩, rfl⟩
  obtain ⟨m, hm⟩ : ∃ m, m = u / 2 ^ (8 + s) := ⟨_, rfl⟩
  obtain ⟨n, hn⟩ : ∃ n, n = v / 2 ^ (8 + s) := ⟨_, rfl⟩
  have p1 : 2 ^ 8 ≤ 2 ^ (8 + s) := Nat.pow_le_pow_right (by omega) (by omega)
  have hml : m < 72057594037927936 := by rw [hm, Nat.div_lt_iff_lt_mul (Nat.pow_pos (by decide))]; omega
  have hnl : n < 72057594037927936 := by rw [hn, Nat.div_lt_iff_lt_mul (Nat.pow_pos (by decide))]; omega
  have hm' : (u : Int) / 2 ^ (8 + s) = (m : Int) := by rw [hm]; simp
  have hn' : (v : Int) / 2 ^ (8 + s) = (n : Int) := by rw [hn]; simp
  have lm := vu_len8 hml
  have ln := vu_len8 hnl
  clear hm hn p1
  go_wp2_with fail
  have B0 := (Below.refl w.heap.size w).alloc (Nat.le_refl _) (.cells #[.slice none 0 0] 32)
  refine (w_uint w.heap.size m _ rfl [] (by omega) (by decide) _ (Wr.new w)).mono ?_
  rintro e W1 ⟨rfl, hX, hB⟩
  have B1 := B0.trans hB
  have s1 := B1.size
  clear hB
  have BY := (Below.refl W1.heap.size W1).alloc (Nat.le_refl _) (.cells #[.slice none 0 0] 32)
  go_wp2_with fail
  refine (w_uint W1.heap.size n _ rfl [] (by omega) (by decide) _ (Wr.new W1)).mono ?_
  rintro e W2 ⟨rfl, hY, hB⟩
  replace BY := BY.trans hB
  have hX2 := hX.below BY (Nat.le_refl _)
  have B2 := B1.trans (BY.mono s1)
  have s2 := B2.size
  clear hB BY hX
  rw [List.nil_append] at hX2 hY
  go_wp2_with fail
  refine (w_done w.heap.size _ (by omega) _ hX2).mono ?_
  rintro e W3 ⟨A, c, rfl, ho, -, hB⟩
  have hY3 := hY.below hB (Nat.le_refl _)
  have R3 := Rd.of_own ho
  have l3 := own_le ho
  have B3 := B2.trans (hB.mono s2)
  have s3 := B3.size
  clear hB hY ho hX2
  go_wp2_with fail
  refine (w_done W1.heap.size _ (by omega) _ hY3).mono ?_
  rintro e W4 ⟨A', c', rfl, ho, -, hB⟩
  have R4 := R3.later hB hB.size
  have R4' := Rd.of_own ho
  have l4 := own_le ho
  have B4 := B3.trans (hB.mono s3)
  have s4 := B4.size
  clear hB hY3 ho R3
  obtain ⟨xs, hxs⟩ : ∃ xs, xs = vu m := ⟨_, rfl⟩
  obtain ⟨ys, hys⟩ : ∃ ys, ys = vu n := ⟨_, rfl⟩
  rw [← hxs] at lm R4 l3
  rw [← hys] at ln R4' l4
  simp only [← hxs, ← hys]
  have hinj : m = n ↔ xs = ys := by
    rw [hxs, hys]
    exact ⟨fun h => by rw [h], fun h => vu_inj (by omega) (by omega) h⟩
  have HINJ := Lib.hid hinj
  clear hxs hys hinj
  go_wp2_with fail
  refine (short_t a3 20 (by omega) _ rfl _).mono ?_
  rintro e W ⟨⟨t, rfl, ht, -⟩, rfl⟩
  by_cases hl : xs.length = ys.length
  · have hdl : ((xs.length : Int) != (ys.length : Int)) = false := by simp [hl]
    have hgr : Hm.bytesM t.data.toList xs = Hm.bytesM t.data.toList ys ↔ xs = ys := Hm.bytes_group _ xs ys hl 0 fun i hi => by
      rw [List.getElem?_eq_none (by omega), List.getElem?_eq_none (by omega)]
    obtain ⟨H, hH⟩ : ∃ H, H = Hm.bytesM t.data.toList xs := ⟨_, rfl⟩
    obtain ⟨H', hH'⟩ : ∃ H', H' = Hm.bytesM t.data.toList ys := ⟨_, rfl⟩
    have c1 := bytes_any t (by omega) A xs.length c xs (by omega) l3 _ R4
    have key : (H = H') ↔ m = n := by rw [hH, hH', hgr]; exact HINJ.out.symm
    rw [← hH] at c1
    have HH' := Lib.hid hH'
    clear hH hgr hH'
    by_cases hmn : m = n
    · have e1 : ((m : Int) == (n : Int)) = true := by simp; omega
      have e2 : (H == H') = true := by simp; exact key.2 hmn
      clear key hmn hl
      go_wp2_with fail
      refine c1.mono ?_
      rintro e W5 ⟨rfl, hB⟩
      have B5 := B4.trans (hB.mono s4)
      have R5 := R4'.later hB hB.size
      have c2 := bytes_any t (by omega) A' ys.length c' ys (by omega) l4 _ R5
      rw [← HH'.out] at c2
      have s5 := B5.size
      clear hB R4'
      go_wp2_with fail
      refine c2.mono ?_
      rintro e W6 ⟨rfl, hB⟩
      have B6 := B5.trans (hB.mono s5)
      clear hB
      go_wp2_with fail
      refine (lives_from w _ B6).mono ?_
      rintro e W7 ⟨rfl, B7⟩
      go_wp2_with fail
      go_ret
      exact ⟨rfl, B7⟩
    · have e1 : ((m : Int) == (n : Int)) = false := by simp; omega
      have e2 : (H == H') = false := by simp; intro h; exact hmn (key.1 h)
      clear key hmn hl
      go_wp2_with fail
      refine c1.mono ?_
      rintro e W5 ⟨rfl, hB⟩
      have B5 := B4.trans (hB.mono s4)
      have R5 := R4'.later hB hB.size
      have c2 := bytes_any t (by omega) A' ys.length c' ys (by omega) l4 _ R5
      rw [← HH'.out] at c2
      have s5 := B5.size
      clear hB R4'
      go_wp2_with fail
      refine c2.mono ?_
      rintro e W6 ⟨rfl, hB⟩
      have B6 := B5.trans (hB.mono s5)
      clear hB
      go_wp2_with fail
      refine (lives_from w _ B6).mono ?_
      rintro e W7 ⟨rfl, B7⟩
      go_wp2_with fail
      go_ret
      exact ⟨rfl, B7⟩
  · have hdl : ((xs.length : Int) != (ys.length : Int)) = true := by simp; omega
    have hmn : ((m : Int) != (n : Int)) = true := by
      simp
      intro h
      exact hl (by rw [HINJ.out.1 (by omega)])
    go_wp2_with fail
    refine (lives_from w _ B4).mono ?_
    rintro e W7 ⟨rfl, B7⟩
    go_wp2_with fail
    go_ret
    exact ⟨rfl, B7⟩
end Go.Proofs.Ytigbknhlmifikaa
