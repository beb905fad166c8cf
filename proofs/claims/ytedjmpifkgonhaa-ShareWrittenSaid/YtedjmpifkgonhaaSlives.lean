/- The examples of the chapter. -/
import Derived.Test.YtedjmpifkgonhaaSrsp
namespace Go.Proofs.Ytedjmpifkgonhaa
open Go.RowKit Hb Sm Sx

theorem ord_is (rs o : List Nat) (hp : o.Perm (List.range rs.length)) (hs : o.Pairwise fun i j => ¬ before rs j i) : ord rs = o := by
  refine (ord_unique rs o hp ?_).symm
  intro a b hab i j hi hj
  obtain ⟨ha, rfl⟩ := List.getElem?_eq_some_iff.1 hi
  obtain ⟨hb, rfl⟩ := List.getElem?_eq_some_iff.1 hj
  exact List.pairwise_iff_getElem.1 hs a b ha hb hab
theorem live_split1 : split 10 [1, 1, 1] = [4, 3, 3] := by
  have h : ord (rs 10 ([1, 1, 1] : List Nat).sum [1, 1, 1]) = [0, 1, 2] := ord_is _ _ (by decide) (by decide)
  unfold split
  rw [h]
  decide
theorem live_split2 : split 10 [3, 0, 4] = [4, 0, 6] := by
  have h : ord (rs 10 ([3, 0, 4] : List Nat).sum [3, 0, 4]) = [2, 0, 1] := ord_is _ _ (by decide) (by decide)
  unfold split
  rw [h]
  decide
theorem live_part : partS 10 2 3 = (6, 0) := by decide
theorem live_ceil : ceilS 10 2 3 = (7, 0) := by decide
theorem split_t (t : Nat) (T : Int) (hT : T = (t : Int)) (ws : List Nat) (n c : Nat) (A : Option Addr) (ht : t ≤ 1099511627776) (hws : ∀ x ∈ ws, x ≤ 1099511627776) (hS0 : 0 < ws.sum) (hn : n ≤ 8) (w : World) (hr : Rd w w.heap.size A n (ws.map nv)) (xs : List Nat) (hx : xs = split t ws) :
    Calls Try.prog 19 #[.int .i64 T, .slice A n c] w fun e w' => ∃ A' c', e = .returned (.tuple #[.slice A' n c', .int .i64 0]) ∧ Rd w' w'.heap.size A' n (xs.map nv) ∧ w'.ownsRow w.heap.size 3 1 (.slice A' n c') n (xs.map nv) ∧ Below w.heap.size w w' := by
  subst hT hx
  exact split_ok t ws n c A ht hws ws.sum rfl hS0 hn w hr
theorem boxed3 (w : World) (x y z : Nat) : Rd (w.alloc (.cells #[.int .i64 x, .int .i64 y, .int .i64 z] 3)) (w.heap.size + 1) (some ⟨w.heap.size, 0, none⟩) 3 ([x, y, z].map nv) :=
  boxed_rds w ([x, y, z].map nv) 3

theorem split_box (t : Nat) (T : Int) (hT : T = (t : Int)) (x y z : Nat) (X Y Z : Int) (hX : X = (x : Int)) (hY : Y = (y : Int)) (hZ : Z = (z : Int)) (ht : t ≤ 1099511627776) (hws : ∀ x' ∈ [x, y, z], x' ≤ 1099511627776) (hS0 : 0 < [x, y, z].sum) (xs : List Nat) (hx : split t [x, y, z] = xs) (W : World) :
    Calls Try.prog 19 #[.int .i64 T, .slice (some ⟨W.heap.size, 0, none⟩) 3 3] (W.alloc (.cells #[.int .i64 X, .int .i64 Y, .int .i64 Z] 3)) fun e w' => ∃ A' c', e = .returned (.tuple #[.slice A' 3 c', .int .i64 0]) ∧ Rd w' w'.heap.size A' 3 (xs.map nv) ∧ Below W.heap.size W w' := by
  subst hX hY hZ
  have s1 : (W.alloc (.cells #[.int .i64 x, .int .i64 y, .int .i64 z] 3)).heap.size = W.heap.size + 1 := by simp
  refine (split_t t T hT [x, y, z] 3 _ _ ht hws hS0 (by omega) _ ((boxed3 W x y z).mono (by omega)) xs hx.symm).mono ?_
  rintro e w' ⟨A', c', he, hr, -, hB⟩
  exact ⟨A', c', he, hr, ((Below.refl W.heap.size W).alloc (Nat.le_refl _) _).trans (hB.mono (by omega))⟩
theorem same_box (x y z : Nat) (X Y Z : Int) (hX : X = (x : Int)) (hY : Y = (y : Int)) (hZ : Z = (z : Int)) (A : Option Addr) (c : Nat) (W : World) (hr : Rd W W.heap.size A 3 ([x, y, z].map nv)) :
    Calls Try.prog 21 #[.slice A 3 c, .slice (some ⟨W.heap.size, 0, none⟩) 3 3] (W.alloc (.cells #[.int .i64 X, .int .i64 Y, .int .i64 Z] 3)) fun e w' => e = .returned (.bool true) ∧ Below W.heap.size W w' := by
  subst hX hY hZ
  have s1 : (W.alloc (.cells #[.int .i64 x, .int .i64 y, .int .i64 z] 3)).heap.size = W.heap.size + 1 := by simp
  have b1 := (Below.refl W.heap.size W).alloc (Nat.le_refl _) (.cells #[.int .i64 x, .int .i64 y, .int .i64 z] 3)
  refine (same3_nat A (some ⟨W.heap.size, 0, none⟩) 3 c 3 3 [x, y, z] [x, y, z] (W.heap.size + 1) (by omega) _ (hr.later b1 (by omega)) (boxed3 W x y z) rfl).mono ?_
  rintro e w' ⟨he, hq⟩
  exact ⟨he, b1.trans (hq.below _)⟩

set_option maxRecDepth 100000 in
set_option maxHeartbeats 2000000 in
theorem lives_any (w : World) : Calls Try.prog 17 #[] w fun e w' => e = .returned (.bool true) ∧ Below w.heap.size w w' := by
  have c1 := spart 10 2 3 w
  rw [live_part] at c1
  unfold pair at c1
  go_enter Try.func17, Try.ntmps17
  go_wp2_with fail
  refine c1.mono ?_
  rintro e W1 ⟨rfl, hq1⟩
  have B1 := hq1.below w.heap.size
  have c2 := sceil 10 2 3 W1
  rw [live_ceil] at c2
  unfold pair at c2
  clear c1 hq1
  go_wp2_with fail
  refine c2.mono ?_
  rintro e W2 ⟨rfl, hq2⟩
  have B2 := B1.trans (hq2.below w.heap.size)
  clear c2 hq2 B1
  have s2 := B2.size
  go_wp2_with fail
  refine (split_box 10 _ rfl 1 1 1 _ _ _ rfl rfl rfl (by omega) (by decide) (by decide) [4, 3, 3] live_split1 W2).mono ?_
  rintro e W3 ⟨A3, c3, rfl, r3, hB⟩
  have B3 := B2.trans (hB.mono s2)
  have s3 := B3.size
  clear hB B2
  go_wp2_with fail
  refine (split_box 10 _ rfl 3 0 4 _ _ _ rfl rfl rfl (by omega) (by decide) (by decide) [4, 0, 6] live_split2 W3).mono ?_
  rintro e W4 ⟨A4, c4, rfl, r4, hB⟩
  have B4 := B3.trans (hB.mono s3)
  have s4 := B4.size
  have r3' := r3.later hB hB.size
  clear hB B3 r3
  go_wp2_with fail
  refine (same_box 4 3 3 _ _ _ rfl rfl rfl A3 c3 W4 r3').mono ?_
  rintro e W5 ⟨rfl, hB⟩
  have B5 := B4.trans (hB.mono s4)
  have s5 := B5.size
  have r4' := r4.later hB hB.size
  clear hB B4 r3' r4
  go_wp2_with fail
  refine (same_box 4 0 6 _ _ _ rfl rfl rfl A4 c4 W5 r4').mono ?_
  rintro e W6 ⟨rfl, hB⟩
  have B6 := B5.trans (hB.mono s5)
  clear hB B5 r4'
  go_wp2_with fail
  go_ret
  exact ⟨rfl, B6⟩
theorem lives_from (W0 w : World) (hb : Below W0.heap.size W0 w) : Calls Try.prog 17 #[] w fun e W' => e = .returned (.bool true) ∧ Below W0.heap.size W0 W' :=
  (lives_any w).mono fun _ _ ⟨he, h⟩ => ⟨he, hb.trans (h.mono hb.size)⟩
end Go.Proofs.Ytedjmpifkgonhaa
