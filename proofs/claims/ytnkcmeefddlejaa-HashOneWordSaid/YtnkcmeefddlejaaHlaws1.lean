/- The laws HashSum, HashBytes and HashArguments, walked. -/
import Derived.Test.YtnkcmeefddlejaaHrefsum
import Derived.Test.YtnkcmeefddlejaaHpairs
namespace Go.Proofs.Ytnkcmeefddlejaa
open Go.RowKit Hm Hb

/-- a copy of some elements, as a slice that reads -/
theorem Fresh.rd {w W : World} {e : TypeId} {xs : List Value} {v : Value} (h : Fresh w e xs W v) : ∃ A c, v = .slice A xs.length c ∧ Rd W W.heap.size A xs.length xs ∧ W.ownsRow w.heap.size e 1 (.slice A xs.length c) xs.length xs ∧ Below w.heap.size w W ∧ xs.length ≤ c := by
  obtain ⟨A, c, rfl⟩ := own_form h.1
  refine ⟨A, c, rfl, Rd.of_own h.1, h.1, h.2, ?_⟩
  rcases h.1.2 with ⟨_, h0⟩ | ⟨g, cap, cur, hv, _, _, hn, _⟩
  · omega
  · injection hv with h1 h2 h3; omega
theorem short_t (a0 : ByteArray) (k : Nat) (hk : k ≤ 1000) (K : Int) (hK : K = (k : Int)) (w : World) : Calls Try.prog 11 #[.string a0, .int .i64 K] w fun e w' => (∃ t, e = .returned (.string t) ∧ t.size ≤ k ∧ t.data.toList = a0.data.toList.take k) ∧ w = w' := by
  subst hK
  exact (short_any a0 k hk w).mono fun _ _ ⟨he, hw⟩ => ⟨⟨_, he, by rw [shortB_size]; omega, shortB_list a0 k⟩, hw⟩
theorem ints_t (A : Option Addr) (n c : Nat) (xs : List Int) (hnc : n ≤ c) (hc : c ≤ maxLen) (k : Nat) (hk : k ≤ 1000) (K : Int) (hK : K = (k : Int)) (w : World) (hr : Rd w w.heap.size A n (xs.map iv)) :
    Calls Try.prog 12 #[.slice A n c, .int .i64 K] w fun e W => ∃ A' m c', e = .returned (.slice A' m c') ∧ m ≤ k ∧ m = (xs.take k).length ∧ m ≤ c' ∧ c' ≤ maxLen ∧ Rd W W.heap.size A' m ((xs.take k).map iv) ∧ W.ownsRow w.heap.size 3 1 (.slice A' m c') m ((xs.take k).map iv) ∧ Below w.heap.size w W := by
  subst hK
  refine (ints_any A n c xs hnc hc k hk w hr).mono ?_
  rintro e W ⟨v, rfl, hF⟩
  have hlen : ((xs.take k).map iv).length = (xs.take k).length := by simp
  obtain ⟨A', c', rfl, h1, h2, h3, h4⟩ := hF.rd
  rw [hlen] at h1 h2 h4 ⊢
  refine ⟨A', _, c', rfl, by simp; omega, rfl, h4, own_cap h2, h1, h2, h3⟩
theorem few_t (A : Option Addr) (n c : Nat) (xs : List UInt8) (hnc : n ≤ c) (hc : c ≤ maxLen) (k : Nat) (hk : k ≤ 1000) (K : Int) (hK : K = (k : Int)) (w : World) (hr : Rd w w.heap.size A n (xs.map bv)) :
    Calls Try.prog 16 #[.slice A n c, .int .i64 K] w fun e W => ∃ A' m c', e = .returned (.slice A' m c') ∧ m ≤ k ∧ m = (xs.take k).length ∧ m ≤ c' ∧ c' ≤ maxLen ∧ Rd W W.heap.size A' m ((xs.take k).map bv) ∧ W.ownsRow w.heap.size 5 1 (.slice A' m c') m ((xs.take k).map bv) ∧ Below w.heap.size w W := by
  subst hK
  refine (few_any A n c xs hnc hc k hk w hr).mono ?_
  rintro e W ⟨v, rfl, hF⟩
  have hlen : ((xs.take k).map bv).length = (xs.take k).length := by simp
  obtain ⟨A', c', rfl, h1, h2, h3, h4⟩ := hF.rd
  rw [hlen] at h1 h2 h4 ⊢
  refine ⟨A', _, c', rfl, by simp; omega, rfl, h4, own_cap h2, h1, h2, h3⟩

set_option maxRecDepth 100000 in
set_option maxHeartbeats 1000000 in
theorem HashSum_walk (w : World) (a0 : ByteArray) (_ : a0.size ≤ maxLen) (a1 : Option Addr) (n c : Nat) (xs : List Int) (r : Rd w w.heap.size a1 n (xs.map iv)) (_ : ∀ y ∈ xs, -9223372036854775808 ≤ y ∧ y ≤ 9223372036854775807) (hnc : n ≤ c) (hc : c ≤ maxLen) :
    Calls Try.prog 3 #[.string a0, .slice a1 n c] w fun e W' => e = .returned (.bool true) ∧ Below w.heap.size w W' := by
  go_enter Try.func3, Try.ntmps3
  go_wp2_with fail
  refine (short_t a0 40 (by omega) _ rfl _).mono ?_
  rintro e W ⟨⟨t, rfl, ht, -⟩, rfl⟩
  go_wp2_with fail
  refine (ints_t a1 n c xs hnc hc 12 (by omega) _ rfl _ r).mono ?_
  rintro e W1 ⟨A, m, d, rfl, hm, -, -, -, R1, -, B1⟩
  have s1 := B1.size
  go_wp2_with fail
  refine (sum_any t (by omega) A m d _ (by omega) _ R1).mono ?_
  rintro e W2 ⟨rfl, hB⟩
  have B2 := B1.trans (hB.mono s1)
  have R2 := R1.below hB
  have s2 := B2.size
  have z2 := hB.size
  clear hB
  go_wp2_with fail
  refine (rsum_any t (by omega) A m d _ (by omega) _ (R2.mono z2)).mono ?_
  rintro e W3 ⟨rfl, hB⟩
  have B3 := B2.trans (hB.mono s2)
  have s3 := B3.size
  clear hB
  go_wp2_with fail
  refine (sum_any t (by omega) none 0 0 [] (by omega) _ (Rd.nil _ _ _)).mono ?_
  rintro e W4 ⟨rfl, hB⟩
  have B4 := B3.trans (hB.mono s3)
  have s4 := B4.size
  clear hB
  go_wp2_with fail
  refine (rsum_any t (by omega) none 0 0 [] (by omega) _ (Rd.nil _ _ _)).mono ?_
  rintro e W5 ⟨rfl, hB⟩
  have B5 := B4.trans (hB.mono s4)
  have s5 := B5.size
  clear hB
  go_wp2_with fail
  refine (lives_any _).mono ?_
  rintro e W6 ⟨rfl, hB⟩
  have B6 := B5.trans (hB.mono s5)
  clear hB
  go_wp2_with fail
  go_ret
  exact ⟨rfl, B6⟩

set_option maxRecDepth 100000 in
set_option maxHeartbeats 1000000 in
theorem HashBytes_walk (w : World) (a0 : ByteArray) (_ : a0.size ≤ maxLen) (a1 : Option Addr) (n c : Nat) (xs : List UInt8) (r : Rd w w.heap.size a1 n (xs.map bv)) (hnc : n ≤ c) (hc : c ≤ maxLen) (x : Int) (_ : (Lit.int .u64 x).wf = true) (y : Int) (_ : (Lit.int .u64 y).wf = true) :
    Calls Try.prog 4 #[.string a0, .slice a1 n c, .int .u64 x, .int .u64 y] w fun e W' => e = .returned (.bool true) ∧ Below w.heap.size w W' := by
  go_enter Try.func4, Try.ntmps4
  go_wp2_with fail
  refine (short_t a0 20 (by omega) _ rfl _).mono ?_
  rintro e W ⟨⟨t, rfl, ht, -⟩, rfl⟩
  go_wp2_with fail
  refine (few_t a1 n c xs hnc hc 60 (by omega) _ rfl _ r).mono ?_
  rintro e W1 ⟨A, m, d, rfl, hm, -, hmd, -, R1, -, B1⟩
  have s1 := B1.size
  go_wp2_with fail
  refine (bytes_any t (by omega) A m d _ (by omega) hmd _ R1).mono ?_
  rintro e W2 ⟨rfl, hB⟩
  have B2 := B1.trans (hB.mono s1)
  have R2 := R1.below hB
  have s2 := B2.size
  have z2 := hB.size
  clear hB
  go_wp2_with fail
  refine (rbytes_any t (by omega) A m d _ (by omega) _ (R2.mono z2)).mono ?_
  rintro e W3 ⟨rfl, hB⟩
  have B3 := B2.trans (hB.mono s2)
  have s3 := B3.size
  clear hB
  go_wp2_with fail
  refine (pair_any x y _).mono ?_
  rintro e W4 ⟨rfl, hB⟩
  have B4 := B3.trans (hB.mono s3)
  have s4 := B4.size
  clear hB
  go_wp2_with fail
  refine (rpair_any x y _).mono ?_
  rintro e W5 ⟨rfl, hB⟩
  have B5 := B4.trans (hB.mono s4)
  have s5 := B5.size
  clear hB
  go_wp2_with fail
  refine (lives_any _).mono ?_
  rintro e W6 ⟨rfl, hB⟩
  have B6 := B5.trans (hB.mono s5)
  clear hB
  go_wp2_with fail
  go_ret
  exact ⟨rfl, B6⟩
end Go.Proofs.Ytnkcmeefddlejaa
