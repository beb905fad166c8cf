/- The examples of the chapter. -/
import Derived.Test.YtagjecbgbpjobaaDroll
import Derived.Lib.SlBytesConst
namespace Go.Proofs.Ytagjecbgbpjobaa
open Go.RowKit Go.Shelf Hm Hb Dm Ds

theorem live_r1 : redR 10 4 = .returned (.tuple #[.int .i64 2, .bool true]) := redR_in (by omega) (by decide)
theorem live_r2 : redR 18446744073709551615 3 = .returned (.tuple #[.int .i64 0, .bool false]) := redR_out (by decide)
theorem live_r3 : redR 18446744073709551615 4 = .returned (.tuple #[.int .i64 3, .bool true]) := redR_in (by omega) (by decide)

set_option maxRecDepth 100000 in
set_option maxHeartbeats 2000000 in
theorem lives_any (w : World) : Calls Try.prog 18 #[] w fun e w' => e = .returned (.bool true) ∧ Below w.heap.size w w' := by
  have r1 := reduce_any 10 4 (by omega) (by omega) w
  have r2 := reduce_any 18446744073709551615 3 (by omega) (by omega) w
  have r3 := reduce_any 18446744073709551615 4 (by omega) (by omega) w
  rw [live_r1] at r1
  rw [live_r2] at r2
  rw [live_r3] at r3
  have hconv := Lib.run_convert_bytes_const (P := Try.prog) w 22 5 #[.int .u8 115] 1 1 Try.underlying22 Try.underlying5
  obtain ⟨W1, hW1⟩ : ∃ W1, W1 = w.alloc (.cells #[.int .u8 115] 5 ((#[.int .u8 115] : Array Value).size, (#[.int .u8 115] : Array Value).size + 1)) := ⟨_, rfl⟩
  have hR1' : Rd W1 W1.heap.size (some ⟨w.heap.size, 0, none⟩) 1 ([115].map bv) := by
    rw [hW1]
    refine ⟨rfl, fun _ => ⟨_, rfl, by simp, fun j u hu => ?_⟩⟩
    rw [add_plain, cell_of_row _ _ _ _ _ _ (World.alloc_heap_new w _)]
    simpa [bv] using hu
  have hB1 : Below w.heap.size w W1 := by rw [hW1]; exact (Below.refl _ w).alloc (Nat.le_refl _) _
  rw [← hW1] at hconv
  clear hW1
  have s1 := hB1.size
  go_enter Try.func18, Try.ntmps18
  go_wp2_with fail
  refine r1.mono ?_
  rintro e w' ⟨rfl, rfl⟩
  go_wp2_with fail
  refine r2.mono ?_
  rintro e w' ⟨rfl, rfl⟩
  go_wp2_with fail
  refine r3.mono ?_
  rintro e w' ⟨rfl, rfl⟩
  clear r1 r2 r3
  go_wp2_with fail
  refine (new_any ⟨#[108]⟩ (by decide) _ 1 1 [115] (by omega) (by omega) W1 hR1').mono ?_
  rintro e W2 ⟨p, b, rfl, hb, hs2, d, hB2⟩
  have s2 := hB2.size
  have B2 := hB1.trans (hB2.mono s1)
  clear hconv hB1 hB2 hR1'
  go_wp2_with fail
  refine (roll_any 1 (by omega) p b _ 0 W2 d).mono ?_
  rintro e W3 ⟨he, d3, hB3⟩
  rw [roll_one] at he d3
  subst he
  have B3 := B2.trans (hB3.low.mono (by have := d.1; omega))
  unfold numErr
  clear hB3 B2 d
  go_wp2_with fail
  refine (at_any W3 d3).mono ?_
  rintro e w' ⟨rfl, rfl⟩
  go_wp2_with fail
  go_ret
  exact ⟨ret_bool (by rw [show wrap64 1 = 1 from by unfold wrap64; omega]; rfl), B3⟩
theorem lives_from (W0 w : World) (hb : Below W0.heap.size W0 w) : Calls Try.prog 18 #[] w fun e W' => e = .returned (.bool true) ∧ Below W0.heap.size W0 W' :=
  (lives_any w).mono fun _ _ ⟨he, h⟩ => ⟨he, hb.trans (h.mono hb.size)⟩
end Go.Proofs.Ytagjecbgbpjobaa
