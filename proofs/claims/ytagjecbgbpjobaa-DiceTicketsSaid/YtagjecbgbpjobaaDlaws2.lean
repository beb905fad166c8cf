/- The law DiceWords, walked. -/
import Derived.Test.YtagjecbgbpjobaaDlaws1
import Derived.Test.YtagjecbgbpjobaaDref
namespace Go.Proofs.Ytagjecbgbpjobaa
open Go.RowKit Go.Shelf Hm Hb Dm Ds

theorem reduce_w (x n : Int) (hx : 0 ≤ x ∧ x < 18446744073709551616) (hn : -9223372036854775808 ≤ n ∧ n ≤ 9223372036854775807) (w : World) :
    Calls Try.prog 24 #[.int .u64 x, .int .i64 n] w fun e w' => e = .returned (.tuple #[.int .i64 (red x n).1, .bool (red x n).2]) ∧ w' = w :=
  (reduce_any x n hx hn w).mono fun _ _ ⟨he, hw⟩ => ⟨he, hw.symm⟩
theorem rreduce_w (x n : Int) (hx : 0 ≤ x ∧ x < 18446744073709551616) (hn : -9223372036854775808 ≤ n ∧ n ≤ 9223372036854775807) (w : World) :
    Calls Try.prog 25 #[.int .u64 x, .int .i64 n] w fun e w' => e = .returned (.tuple #[.int .i64 (red x n).1, .bool (red x n).2]) ∧ w' = w :=
  (rreduce_any x n hx hn w).mono fun _ _ ⟨he, hw⟩ => ⟨he, hw.symm⟩

set_option maxRecDepth 100000 in
set_option maxHeartbeats 4000000 in
theorem DiceWords_walk (w : World) (a0 : Option Addr) (len0 cap0 : Nat) (x0 : List UInt8) (r0 : Rd w w.heap.size a0 len0 (x0.map bv)) (l0 : len0 ≤ cap0) (m0 : cap0 ≤ maxLen) (a1 : ByteArray) (w1 : a1.size ≤ maxLen) (a2 : Int) (w2 : (Lit.int .i64 a2).wf = true) (a3 : Int) (w3 : (Lit.int .u64 a3).wf = true) (a4 : Int) (w4 : (Lit.int .i64 a4).wf = true) :
    Calls Try.prog 4 #[.slice a0 len0 cap0, .string a1, .int .i64 a2, .int .u64 a3, .int .i64 a4] w fun e W' => e = .returned (.bool true) ∧ Below w.heap.size w W' := by
  have b3 := wf_u64 w3
  have b4 := bounds_i64 w4
  have hmx : Try.prog.follows .mixedOrders = true := by kernel_rfl
  clear w3
  go_enter Try.func4, Try.ntmps4
  go_wp2_with fail
  refine (few_t a0 len0 cap0 x0 l0 m0 40 (by omega) _ rfl w r0).mono ?_
  rintro e W1 ⟨A, m, c, rfl, hm, -, hmc, -, R1, -, B1⟩
  have s1 := B1.size
  go_wp2_with fail
  refine (short_t a1 20 (by omega) _ rfl W1).mono ?_
  rintro e w' ⟨⟨t, rfl, ht, -⟩, rfl⟩
  go_wp2_with fail
  refine (rword_any t (by omega) A m c _ (by omega) a2 W1 R1).mono ?_
  rintro e W2 ⟨rfl, hB⟩
  have B2 := B1.trans (hB.mono s1)
  have R2 := R1.later hB hB.size
  have s2 := B2.size
  clear hB B1 R1
  obtain ⟨x, hx⟩ : ∃ x, x = wordI (hashI t.data.toList (List.take 40 x0)) a2 := ⟨_, rfl⟩
  have bx : 0 ≤ x ∧ x < 18446744073709551616 := by rw [hx]; exact wordI_range _ _
  rw [← hx]
  have HX := Lib.hid hx
  clear hx
  go_wp2_with fail
  refine (wordAt_any t (by omega) A m c _ (by omega) hmc a2 W2 R2).mono ?_
  rintro e W3 ⟨rfl, hB⟩
  rw [← HX.out]
  have B3 := B2.trans (hB.mono s2)
  have s3 := B3.size
  clear hB B2 R2
  go_wp2_with fail
  refine (sides_t a4 w4 _).mono ?_
  rintro e w' ⟨⟨k, rfl, k0, k1⟩, rfl⟩
  go_wp2_with fail
  obtain ⟨W4, hW4⟩ : ∃ W4, W4 = ((W3.alloc (.cells #[.int .u64 a3, .int .u64 x, .int .u64 (18446744073709551615 - a3 % 64), .int .u64 (a3 % 100)] 24)).alloc (.cells #[.int .i64 a4, .int .i64 k] 3)) := ⟨_, rfl⟩
  have B4 : Below W3.heap.size W3 W4 := by rw [hW4]; exact ((Below.refl _ _).alloc (Nat.le_refl _) _).alloc (by simp) _
  have s4 : W4.heap.size = W3.heap.size + 2 := by rw [hW4]; simp
  have q1 : W4.heap[W3.heap.size]? = some (.cells #[.int .u64 a3, .int .u64 x, .int .u64 (18446744073709551615 - a3 % 64), .int .u64 (a3 % 100)] 24 (0, 0)) := by rw [hW4]; exact (Below.heap_alloc _ _ _ (by simp)).trans (World.alloc_heap_new W3 _)
  have q2 : W4.heap[W3.heap.size + 1]? = some (.cells #[.int .i64 a4, .int .i64 k] 3 (0, 0)) := by rw [hW4]; have h := World.alloc_heap_new (W3.alloc (.cells #[.int .u64 a3, .int .u64 x, .int .u64 (18446744073709551615 - a3 % 64), .int .u64 (a3 % 100)] 24)) (.cells #[.int .i64 a4, .int .i64 k] 3); rwa [World.size_alloc] at h
  rw [← hW4]
  have B5 := B3.trans (B4.mono s3)
  clear hW4 B4 B3
  obtain ⟨G, hG⟩ : ∃ G, G = W3.heap.size := ⟨_, rfl⟩
  rw [← hG] at q1 q2 s4 s3 ⊢
  clear hG
  obtain ⟨y, hy⟩ : ∃ y, y = 18446744073709551615 - a3 % 64 := ⟨_, rfl⟩
  obtain ⟨z, hz⟩ : ∃ z, z = a3 % 100 := ⟨_, rfl⟩
  rw [← hy, ← hz] at q1
  have by_ : 0 ≤ y ∧ y < 18446744073709551616 := by omega
  have bz : 0 ≤ z ∧ z < 18446744073709551616 := by omega
  have bk : -9223372036854775808 ≤ k ∧ k ≤ 9223372036854775807 := by omega
  clear hy hz
  go_loopw [16] (fun i wr => ∃ j : Nat, j ≤ 8 ∧ i = .int .i64 j ∧ Below W4.heap.size W4 wr) (fun i _ => 8 - (intOf i).toNat)
  case atStart => exact ⟨0, by omega, rfl, Below.refl _ _⟩
  case round =>
    obtain ⟨j, hj, rfl, hB⟩ := hrel
    have p1 := (hB.block G (by omega)).trans q1
    have p2 := (hB.block (G + 1) (by omega)).trans q2
    have c0 : wr.cell? ⟨G, 0, none⟩ = some (.int .u64 a3) := by simp [World.cell?, p1]
    have c1 : wr.cell? ⟨G, 1, none⟩ = some (.int .u64 x) := by simp [World.cell?, p1]
    have c2 : wr.cell? ⟨G, 2, none⟩ = some (.int .u64 y) := by simp [World.cell?, p1]
    have c3 : wr.cell? ⟨G, 3, none⟩ = some (.int .u64 z) := by simp [World.cell?, p1]
    have e0 : wr.cell? ⟨G + 1, 0, none⟩ = some (.int .i64 a4) := by simp [World.cell?, p2]
    have e1 : wr.cell? ⟨G + 1, 1, none⟩ = some (.int .i64 k) := by simp [World.cell?, p2]
    clear p1 p2
    have sr := hB.size
    by_cases h8 : j = 8
    · subst h8
      simp only [show ((8 : Nat) : Int) = 8 from rfl]
      go_wp2_with fail
      refine (lives_any wr).mono ?_
      rintro e W' ⟨rfl, hB2⟩
      go_wp2_with fail
      go_ret
      exact ⟨rfl, (B5.trans (hB.mono (by omega))).trans (hB2.mono (by have := hB.size; omega))⟩
    · have hj' : j = 0 ∨ j = 1 ∨ j = 2 ∨ j = 3 ∨ j = 4 ∨ j = 5 ∨ j = 6 ∨ j = 7 := by omega
      clear h8 hj
      rcases hj' with rfl | rfl | rfl | rfl | rfl | rfl | rfl | rfl
      all_goals
        simp only [show ((0 : Nat) : Int) = 0 from rfl, show ((1 : Nat) : Int) = 1 from rfl, show ((2 : Nat) : Int) = 2 from rfl, show ((3 : Nat) : Int) = 3 from rfl, show ((4 : Nat) : Int) = 4 from rfl, show ((5 : Nat) : Int) = 5 from rfl, show ((6 : Nat) : Int) = 6 from rfl, show ((7 : Nat) : Int) = 7 from rfl]
        go_wp2_with fail
        go_quiet (first | (go_at_call 24; refine Calls.quiet_of_same (reduce_w _ _ (by assumption) (by assumption) _)))
        obtain ⟨W5, hW5⟩ : ∃ W5, W5 = wr.drewN nq := ⟨_, rfl⟩
        have hB5 : Below wr.heap.size wr W5 := by rw [hW5]; exact below_drewN (Below.refl _ _) _
        rw [← hW5]
        clear hW5
        have v0 := (hB5.cell (p := ⟨G, 0, none⟩) (by show G < _; omega)).trans c0
        have v1 := (hB5.cell (p := ⟨G, 1, none⟩) (by show G < _; omega)).trans c1
        have v2 := (hB5.cell (p := ⟨G, 2, none⟩) (by show G < _; omega)).trans c2
        have v3 := (hB5.cell (p := ⟨G, 3, none⟩) (by show G < _; omega)).trans c3
        have n0 := (hB5.cell (p := ⟨G + 1, 0, none⟩) (by show G + 1 < _; omega)).trans e0
        have n1 := (hB5.cell (p := ⟨G + 1, 1, none⟩) (by show G + 1 < _; omega)).trans e1
        have hB6 := hB.trans (hB5.mono hB.size)
        clear hB hB5 nq sr c0 c1 c2 c3 e0 e1
        go_wp2_with fail
        go_quiet (first | (go_at_call 25; refine Calls.quiet_of_same (rreduce_w _ _ (by assumption) (by assumption) _)))
        obtain ⟨W7, hW7⟩ : ∃ W7, W7 = W5.drewN nq := ⟨_, rfl⟩
        have hB7 : Below W5.heap.size W5 W7 := by rw [hW7]; exact below_drewN (Below.refl _ _) _
        rw [← hW7]
        clear hW7 v0 v1 v2 v3 n0 n1
        have hB8 := hB6.trans (hB7.mono hB6.size)
        clear hB6 hB7
        go_wp2_with fail
        go_roundw
        case rel => first | exact ⟨1, by omega, rfl, hB8⟩ | exact ⟨2, by omega, rfl, hB8⟩ | exact ⟨3, by omega, rfl, hB8⟩ | exact ⟨4, by omega, rfl, hB8⟩ | exact ⟨5, by omega, rfl, hB8⟩ | exact ⟨6, by omega, rfl, hB8⟩ | exact ⟨7, by omega, rfl, hB8⟩ | exact ⟨8, by omega, rfl, hB8⟩
        case measure => simp [intOf]
end Go.Proofs.Ytagjecbgbpjobaa
