/- The law SharePart, walked. -/
import Derived.Test.YtedjmpifkgonhaaSlaws3
namespace Go.Proofs.Ytedjmpifkgonhaa
open Go.RowKit Hb Sm Sx

/-- entry i of three lists of five numbers -/
def Trip (w : World) (ga gb gc i : Nat) : Prop := ∃ x y z : Int, w.cell? ⟨ga, i, none⟩ = some (.int .i64 x) ∧ w.cell? ⟨gb, i, none⟩ = some (.int .i64 y) ∧ w.cell? ⟨gc, i, none⟩ = some (.int .i64 z)
def Five (w : World) (g i : Nat) : Prop := ∃ x : Int, w.cell? ⟨g, i, none⟩ = some (.int .i64 x)
theorem Five.new (w : World) (a0 a1 a2 a3 a4 : Int) : ∀ i, i < 5 → Five (w.alloc (.cells #[.int .i64 a0, .int .i64 a1, .int .i64 a2, .int .i64 a3, .int .i64 a4] 3)) w.heap.size i := by
  intro i hi
  match i, hi with
  | 0, _ => exact ⟨a0, by simp⟩
  | 1, _ => exact ⟨a1, by simp⟩
  | 2, _ => exact ⟨a2, by simp⟩
  | 3, _ => exact ⟨a3, by simp⟩
  | 4, _ => exact ⟨a4, by simp⟩
theorem Five.alloc {w : World} {g i : Nat} (h : Five w g i) (o : Obj) : Five (w.alloc o) g i := by
  obtain ⟨x, h⟩ := h
  exact ⟨x, alloc_cell h o⟩
theorem trip5 (w : World) (a0 a1 a2 a3 a4 b0 b1 b2 b3 b4 c0 c1 c2 c3 c4 : Int) :
    (∀ i, i < 5 → Trip (((w.alloc (.cells #[.int .i64 a0, .int .i64 a1, .int .i64 a2, .int .i64 a3, .int .i64 a4] 3)).alloc (.cells #[.int .i64 b0, .int .i64 b1, .int .i64 b2, .int .i64 b3, .int .i64 b4] 3)).alloc (.cells #[.int .i64 c0, .int .i64 c1, .int .i64 c2, .int .i64 c3, .int .i64 c4] 3)) w.heap.size (w.heap.size + 1) (w.heap.size + 1 + 1) i) ∧
    Below w.heap.size w (((w.alloc (.cells #[.int .i64 a0, .int .i64 a1, .int .i64 a2, .int .i64 a3, .int .i64 a4] 3)).alloc (.cells #[.int .i64 b0, .int .i64 b1, .int .i64 b2, .int .i64 b3, .int .i64 b4] 3)).alloc (.cells #[.int .i64 c0, .int .i64 c1, .int .i64 c2, .int .i64 c3, .int .i64 c4] 3)) := by
  have s1 : (w.alloc (.cells #[.int .i64 a0, .int .i64 a1, .int .i64 a2, .int .i64 a3, .int .i64 a4] 3)).heap.size = w.heap.size + 1 := by simp
  have s2 : ((w.alloc (.cells #[.int .i64 a0, .int .i64 a1, .int .i64 a2, .int .i64 a3, .int .i64 a4] 3)).alloc (.cells #[.int .i64 b0, .int .i64 b1, .int .i64 b2, .int .i64 b3, .int .i64 b4] 3)).heap.size = w.heap.size + 1 + 1 := by simp
  constructor
  · intro i hi
    have h1 := ((Five.new w a0 a1 a2 a3 a4 i hi).alloc (.cells #[.int .i64 b0, .int .i64 b1, .int .i64 b2, .int .i64 b3, .int .i64 b4] 3)).alloc (.cells #[.int .i64 c0, .int .i64 c1, .int .i64 c2, .int .i64 c3, .int .i64 c4] 3)
    have h2 := (Five.new (w.alloc (.cells #[.int .i64 a0, .int .i64 a1, .int .i64 a2, .int .i64 a3, .int .i64 a4] 3)) b0 b1 b2 b3 b4 i hi).alloc (.cells #[.int .i64 c0, .int .i64 c1, .int .i64 c2, .int .i64 c3, .int .i64 c4] 3)
    have h3 := Five.new ((w.alloc (.cells #[.int .i64 a0, .int .i64 a1, .int .i64 a2, .int .i64 a3, .int .i64 a4] 3)).alloc (.cells #[.int .i64 b0, .int .i64 b1, .int .i64 b2, .int .i64 b3, .int .i64 b4] 3)) c0 c1 c2 c3 c4 i hi
    rw [s1] at h2
    rw [s2] at h3
    obtain ⟨x, h1⟩ := h1
    obtain ⟨y, h2⟩ := h2
    obtain ⟨z, h3⟩ := h3
    exact ⟨x, y, z, h1, h2, h3⟩
  · exact (((Below.refl w.heap.size w).alloc (Nat.le_refl _) _).alloc (by omega) _).alloc (by omega) _

set_option maxRecDepth 100000 in
set_option maxHeartbeats 8000000 in
theorem SharePart_walk (w : World) (a0 : Int) (w0 : (Lit.int .i64 a0).wf = true) (a1 : Int) (w1 : (Lit.int .i64 a1).wf = true) (a2 : Int) (w2 : (Lit.int .i64 a2).wf = true) :
    Calls Try.prog 3 #[.int .i64 a0, .int .i64 a1, .int .i64 a2] w fun e W' => e = .returned (.bool true) ∧ Below w.heap.size w W' := by
  go_enter Try.func3, Try.ntmps3
  go_wp2_with fail
  refine (around3 a0 1099511627777 _ rfl (bounds_i64 w0) (by omega) w).mono ?_
  rintro e W ⟨⟨t, rfl, ht, -⟩, rfl⟩
  go_wp2_with fail
  refine (around3 a1 1152921504606846977 _ rfl (bounds_i64 w1) (by omega) w).mono ?_
  rintro e W ⟨⟨n, rfl, hn, -⟩, rfl⟩
  go_wp2_with fail
  refine (around3 a2 1152921504606846977 _ rfl (bounds_i64 w2) (by omega) w).mono ?_
  rintro e W ⟨⟨d, rfl, hd, -⟩, rfl⟩
  obtain ⟨D, hD⟩ : ∃ D, D = d + 1 := ⟨_, rfl⟩
  have e1 : (d : Int) + 1 = (D : Int) := by omega
  have hD0 : 0 < D := by omega
  have hD1 : ((D : Int) == 0) = false := by simp; omega
  obtain ⟨R, hR⟩ : ∃ R, R = n % D := ⟨_, rfl⟩
  have e2 : (n : Int) % (D : Int) = (R : Int) := by rw [hR]; exact (Int.natCast_emod _ _).symm
  clear hR hD
  go_wp2_with fail
  go_loopw [13, 14, 15, 16, 17, 18, 19, 20, 21] (fun ix _ _ _ _ _ _ _ _ wx => ∃ k : Nat, k ≤ 5 ∧ ix = .int .i64 k ∧ Hid (∀ i, i < 5 → Trip wx w.heap.size (w.heap.size + 1) (w.heap.size + 1 + 1) i) ∧ Hid (Below w.heap.size w wx)) (fun ix _ _ _ _ _ _ _ _ _ => 5 - (intOf ix).toNat)
  case atStart => exact ⟨0, by omega, rfl, (trip5 w _ _ _ _ _ _ _ _ _ _ _ _ _ _ _).1, (trip5 w _ _ _ _ _ _ _ _ _ _ _ _ _ _ _).2⟩
  case round =>
    clear e1 e2 hD1 hD0
    obtain ⟨k, hk5, rfl, HT, HB⟩ := hrel
    by_cases hlt : k < 5
    · obtain ⟨x, y, z, cx, cy, cz⟩ := HT.out k hlt
      have b1 : (k : Int) < 5 := by omega
      obtain ⟨r, hr⟩ : ∃ r, r = partS x y z := ⟨_, rfl⟩
      obtain ⟨s, hs⟩ : ∃ s, s = ceilS x y z := ⟨_, rfl⟩
      have C1 := Lib.hid (show ∀ W : World, Calls Try.prog 13 #[.int .i64 x, .int .i64 y, .int .i64 z] W fun e w' => e = .returned (.tuple #[.int .i64 r.1, .int .i64 r.2]) ∧ ∃ m, w' = W.drewN m from fun W => by rw [hr]; exact spart x y z W)
      have C2 := Lib.hid (show ∀ W : World, Calls Try.prog 14 #[.int .i64 x, .int .i64 y, .int .i64 z] W fun e w' => e = .returned (.tuple #[.int .i64 r.1, .int .i64 r.2]) ∧ ∃ m, w' = W.drewN m from fun W => by rw [hr]; exact (rpart x y z W).mono fun _ _ ⟨he, hw⟩ => ⟨he, 0, hw.symm⟩)
      have C3 := Lib.hid (show ∀ W : World, Calls Try.prog 15 #[.int .i64 x, .int .i64 y, .int .i64 z] W fun e w' => e = .returned (.tuple #[.int .i64 s.1, .int .i64 s.2]) ∧ ∃ m, w' = W.drewN m from fun W => by rw [hs]; exact sceil x y z W)
      have C4 := Lib.hid (show ∀ W : World, Calls Try.prog 16 #[.int .i64 x, .int .i64 y, .int .i64 z] W fun e w' => e = .returned (.tuple #[.int .i64 s.1, .int .i64 s.2]) ∧ ∃ m, w' = W.drewN m from fun W => by rw [hs]; exact (rceil x y z W).mono fun _ _ ⟨he, hw⟩ => ⟨he, 0, hw.symm⟩)
      obtain ⟨r1, r2⟩ := r
      obtain ⟨s1, s2⟩ := s
      clear hr hs
      have n1 : (r1 != r1) = false := by simp
      have n2 : (r2 != r2) = false := by simp
      have n3 : (s1 != s1) = false := by simp
      have n4 : (s2 != s2) = false := by simp
      go_wp2_with fail
      go_quiet (first | (go_at_call 13; refine Calls.quiet_of (C1.out _)))
      have cx' : (wr.drewN nq).cell? ⟨w.heap.size, k, none⟩ = some (.int .i64 x) := cx
      have cy' : (wr.drewN nq).cell? ⟨w.heap.size + 1, k, none⟩ = some (.int .i64 y) := cy
      have cz' : (wr.drewN nq).cell? ⟨w.heap.size + 1 + 1, k, none⟩ = some (.int .i64 z) := cz
      have HT' := Lib.hid (show ∀ i, i < 5 → Trip (wr.drewN nq) w.heap.size (w.heap.size + 1) (w.heap.size + 1 + 1) i from fun i hi => HT.out i hi)
      have HB' := Lib.hid (HB.out.trans (Quiet.below ⟨nq, rfl⟩ _))
      obtain ⟨V0, hV⟩ : ∃ V, V = wr.drewN nq := ⟨_, rfl⟩
      rw [← hV] at cx' cy' cz' HT' HB' ⊢
      clear hV cx cy cz HT HB
      clear nq
      obtain ⟨wr, hwr⟩ : ∃ V, V = V0 := ⟨_, rfl⟩
      rw [← hwr] at cx' cy' cz' HT' HB' ⊢
      clear hwr
      clear V0
      have cx := cx'
      have cy := cy'
      have cz := cz'
      have HT := HT'
      have HB := HB'
      clear cx' cy' cz' HT' HB'
      go_wp2_with fail
      go_quiet (first | (go_at_call 14; refine Calls.quiet_of (C2.out _)))
      have cx' : (wr.drewN nq).cell? ⟨w.heap.size, k, none⟩ = some (.int .i64 x) := cx
      have cy' : (wr.drewN nq).cell? ⟨w.heap.size + 1, k, none⟩ = some (.int .i64 y) := cy
      have cz' : (wr.drewN nq).cell? ⟨w.heap.size + 1 + 1, k, none⟩ = some (.int .i64 z) := cz
      have HT' := Lib.hid (show ∀ i, i < 5 → Trip (wr.drewN nq) w.heap.size (w.heap.size + 1) (w.heap.size + 1 + 1) i from fun i hi => HT.out i hi)
      have HB' := Lib.hid (HB.out.trans (Quiet.below ⟨nq, rfl⟩ _))
      obtain ⟨V1, hV⟩ : ∃ V, V = wr.drewN nq := ⟨_, rfl⟩
      rw [← hV] at cx' cy' cz' HT' HB' ⊢
      clear hV cx cy cz HT HB
      clear nq
      obtain ⟨wr, hwr⟩ : ∃ V, V = V1 := ⟨_, rfl⟩
      rw [← hwr] at cx' cy' cz' HT' HB' ⊢
      clear hwr
      clear V1
      have cx := cx'
      have cy := cy'
      have cz := cz'
      have HT := HT'
      have HB := HB'
      clear cx' cy' cz' HT' HB'
      go_wp2_with fail
      go_quiet (first | (go_at_call 15; refine Calls.quiet_of (C3.out _)))
      have cx' : (wr.drewN nq).cell? ⟨w.heap.size, k, none⟩ = some (.int .i64 x) := cx
      have cy' : (wr.drewN nq).cell? ⟨w.heap.size + 1, k, none⟩ = some (.int .i64 y) := cy
      have cz' : (wr.drewN nq).cell? ⟨w.heap.size + 1 + 1, k, none⟩ = some (.int .i64 z) := cz
      have HT' := Lib.hid (show ∀ i, i < 5 → Trip (wr.drewN nq) w.heap.size (w.heap.size + 1) (w.heap.size + 1 + 1) i from fun i hi => HT.out i hi)
      have HB' := Lib.hid (HB.out.trans (Quiet.below ⟨nq, rfl⟩ _))
      obtain ⟨V2, hV⟩ : ∃ V, V = wr.drewN nq := ⟨_, rfl⟩
      rw [← hV] at cx' cy' cz' HT' HB' ⊢
      clear hV cx cy cz HT HB
      clear nq
      obtain ⟨wr, hwr⟩ : ∃ V, V = V2 := ⟨_, rfl⟩
      rw [← hwr] at cx' cy' cz' HT' HB' ⊢
      clear hwr
      clear V2
      have cx := cx'
      have cy := cy'
      have cz := cz'
      have HT := HT'
      have HB := HB'
      clear cx' cy' cz' HT' HB'
      go_wp2_with fail
      go_quiet (first | (go_at_call 16; refine Calls.quiet_of (C4.out _)))
      have cx' : (wr.drewN nq).cell? ⟨w.heap.size, k, none⟩ = some (.int .i64 x) := cx
      have cy' : (wr.drewN nq).cell? ⟨w.heap.size + 1, k, none⟩ = some (.int .i64 y) := cy
      have cz' : (wr.drewN nq).cell? ⟨w.heap.size + 1 + 1, k, none⟩ = some (.int .i64 z) := cz
      have HT' := Lib.hid (show ∀ i, i < 5 → Trip (wr.drewN nq) w.heap.size (w.heap.size + 1) (w.heap.size + 1 + 1) i from fun i hi => HT.out i hi)
      have HB' := Lib.hid (HB.out.trans (Quiet.below ⟨nq, rfl⟩ _))
      obtain ⟨V3, hV⟩ : ∃ V, V = wr.drewN nq := ⟨_, rfl⟩
      rw [← hV] at cx' cy' cz' HT' HB' ⊢
      clear hV cx cy cz HT HB
      clear nq
      obtain ⟨wr, hwr⟩ : ∃ V, V = V3 := ⟨_, rfl⟩
      rw [← hwr] at cx' cy' cz' HT' HB' ⊢
      clear hwr
      clear V3
      have cx := cx'
      have cy := cy'
      have cz := cz'
      have HT := HT'
      have HB := HB'
      clear cx' cy' cz' HT' HB'
      go_wp2_with fail
      go_roundw
      case rel => exact ⟨k + 1, by omega, by go_num, HT, HB⟩
      case measure => simp [intOf]; omega
    · have hke : k = 5 := by omega
      subst hke
      go_wp2_with fail
      refine (lives_from w wr HB.out).mono ?_
      rintro e W6 ⟨rfl, B6⟩
      go_wp2_with fail
      go_ret
      exact ⟨rfl, B6⟩
end Go.Proofs.Ytedjmpifkgonhaa
