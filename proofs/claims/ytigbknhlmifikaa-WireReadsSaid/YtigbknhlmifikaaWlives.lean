/- The documented examples of package wire hold, and asking for them writes nothing that was there. -/
import Derived.Test.YtigbknhlmifikaaWrd4
namespace Go.Proofs.Ytigbknhlmifikaa
open Go.RowKit Hb Wm

theorem Hb.Rd.grown {w w' : World} {B n p : Nat} {A : Option Addr} {xs : List Value} (h : Rd w B A n xs) (hg : w.grownBy w' (some p)) (hB : B ≤ w.heap.size) (hp : B ≤ p) : Rd w' B A n xs := h.below (below_of_grown hg hB hp)
theorem vu300 : vu 300 = [172, 2] := by rw [vu_big (by decide), vu_small (by decide)]; rfl
theorem vu1 : vu 1 = [1] := by rw [vu_small (by decide)]; rfl
theorem vu2 : vu 2 = [2] := by rw [vu_small (by decide)]; rfl

set_option maxRecDepth 100000 in
set_option maxHeartbeats 2000000 in
theorem lives_any (w : World) : Calls Try.prog 18 #[] w fun e W' => e = .returned (.bool true) ∧ Below w.heap.size w W' := by
  go_enter Try.func18, Try.ntmps18
  have B0 := (Below.refl w.heap.size w).alloc (Nat.le_refl _) (.cells #[.slice none 0 0] 32)
  have s0 := B0.size
  go_wp2_with fail
  refine (w_uint w.heap.size 300 _ rfl [] (by decide) (by decide) _ (Wr.new w)).mono ?_
  rintro e W1 ⟨rfl, hW, hB⟩
  have B1 := B0.trans hB
  clear hB
  go_wp2_with fail
  refine (w_int w.heap.size (-1) _ (by decide) (by decide) (by rw [vu300]; decide) _ hW).mono ?_
  rintro e W2 ⟨rfl, hW, hB⟩
  have B2 := B1.trans hB
  clear hB
  go_wp2_with fail
  refine (w_text w.heap.size _ _ (by decide) (by rw [vu300, show zz (-1) = 1 from rfl, vu1]; decide) _ hW).mono ?_
  rintro e W3 ⟨rfl, hW, hB⟩
  have B3 := B2.trans hB
  clear hB
  have hL : ([] ++ vu 300 ++ vu (zz (-1))) ++ (vu (ByteArray.mk #[97, 98]).size ++ (ByteArray.mk #[97, 98]).data.toList) = [172, 2, 1, 2, 97, 98] := by
    rw [vu300, show zz (-1) = 1 from rfl, vu1, show (ByteArray.mk #[97, 98]).size = 2 from rfl, vu2]; rfl
  rw [hL] at hW
  clear hL
  go_wp2_with fail
  refine (w_done w.heap.size _ (by decide) W3 hW).mono ?_
  rintro e W4 ⟨A, c, rfl, ho, -, hB⟩
  have B4 := B3.trans (hB.mono B3.size)
  have s4 := B4.size
  have R4 := Rd.of_own ho
  have hle := own_le ho
  clear hB hW ho
  go_wp2_with fail
  refine (r_read A _ c _ (by decide) hle W4 R4).mono ?_
  rintro e W5 ⟨p, rfl, hp, hR, hB⟩
  have B5 := B4.trans (hB.mono s4)
  have s5 := B5.size
  have R5 := R4.below hB
  have hz := hB.size
  have hpl := hR.lt
  clear hB R4
  go_wp2_with fail
  refine (r_read _ 2 2 [128, 0] (by decide) (by decide) _ ((boxed_rds W5 [bv 128, bv 0] 5).mono (by simp))).mono ?_
  rintro e W6 ⟨q, rfl, hq, hS, hB⟩
  have hBx := ((Below.refl W5.heap.size W5).alloc (Nat.le_refl _) (.cells #[bv 128, bv 0] 5)).trans (hB.mono (by simp))
  have B6 := B5.trans (hBx.mono s5)
  have R6 := R5.below (hBx.mono hz)
  have hR6 := hR.below hBx (Nat.le_refl _)
  have z6 := hBx.size
  have hqp : p < q := by simp at hq; omega
  have hQ : ∀ k, Between (W5.alloc (.cells #[bv 128, bv 0] 5)).heap.size q k → k ≠ p := fun k hk => by unfold Between at hk; simp at hk; omega
  clear hB R5 hR hBx
  go_wp2_with fail
  refine (r_uint p _ _ W6 hR6).mono ?_
  rw [show rU (0, [172, 2, 1, 2, 97, 98]) = (300, 0, [1, 2, 97, 98]) from by decide]
  rintro e W7 ⟨rfl, hR, hG⟩
  have B7 := B6.trans (below_of_grown hG B6.size (by omega))
  have R7 := R6.grown hG (by omega) hp
  have hS7 := hS.grown hG hQ (by omega)
  have z7 := hG.size
  clear hG hR6 hS R6
  go_wp2_with fail
  refine (r_int p _ _ W7 hR).mono ?_
  rw [show rI (0, [1, 2, 97, 98]) = (-1, 0, [2, 97, 98]) from by decide]
  rintro e W8 ⟨rfl, hR, hG⟩
  have B8 := B7.trans (below_of_grown hG B7.size (by omega))
  have R8 := R7.grown hG (by omega) hp
  have hS8 := hS7.grown hG hQ (by omega)
  have z8 := hG.size
  clear hG hS7 R7
  go_wp2_with fail
  refine (r_text p _ _ (by decide) W8 hR).mono ?_
  rw [show rR (0, [2, 97, 98]) = ([97, 98], 0, []) from by decide]
  rintro e W9 ⟨rfl, hR, hG⟩
  have B9 := B8.trans (below_of_grown hG B8.size (by omega))
  have R9 := R8.grown hG (by omega) hp
  have hS9 := hS8.grown hG hQ (by omega)
  have z9 := hG.size
  clear hG hS8 R8
  go_wp2_with fail
  refine (r_int q _ _ W9 hS9).mono ?_
  rw [show rI (0, [128, 0]) = (0, 2, []) from by decide]
  rintro e W10 ⟨rfl, hS, hG⟩
  have B10 := B9.trans (below_of_grown hG B9.size (by omega))
  have R10 := R9.grown hG (by omega) (by omega)
  have hR10 := hR.grown hG (fun k hk => by unfold Between at hk; omega) (by omega)
  have z10 := hG.size
  clear hG hS9 R9 hR
  go_wp2_with fail
  have RX := boxed_rds W10 [bv 172, bv 2, bv 1, bv 2, bv 97, bv 98] 5
  have BX := (Below.refl W10.heap.size W10).alloc (Nat.le_refl _) (.cells #[bv 172, bv 2, bv 1, bv 2, bv 97, bv 98] 5)
  refine (same_bytes_t A _ _ c _ _ [172, 2, 1, 2, 97, 98] [172, 2, 1, 2, 97, 98] (W10.heap.size + 1) (by decide) _ ((R10.later (BX.mono (by omega)) (by omega))) RX rfl).mono ?_
  rintro e W11 ⟨rfl, hq⟩
  have BY := BX.trans (hq.below _)
  have B11 := B10.trans (BY.mono B10.size)
  have hS11 := hS.below BY (Nat.le_refl _)
  have hR11 := hR10.below BY (Nat.le_refl _)
  clear hq BX RX hS hR10 R10
  go_wp2_with fail
  refine (r_end p _ _ W11 hR11).mono ?_
  rintro e W12 ⟨rfl, rfl⟩
  go_wp2_with fail
  refine (r_end q _ _ W11 hS11).mono ?_
  rintro e W12 ⟨rfl, rfl⟩
  go_wp2_with fail
  go_ret
  exact ⟨rfl, B11⟩
end Go.Proofs.Ytigbknhlmifikaa
