/- Read of the reference model's reader. -/
import Derived.Test.YtigbknhlmifikaaWrrd2
namespace Go.Proofs.Ytigbknhlmifikaa
open Go.RowKit Hb Wm

set_option maxRecDepth 100000 in
set_option maxHeartbeats 4000000 in
theorem m_read (p : Nat) (Q : Nat → Prop) (s : St) (hlen' : s.2.length ≤ 1000000) (k : Nat) (hk : k ≤ 5) (w : World) (h : Mr w p Q s) :
    Calls Try.prog 23 #[.pointer (some ⟨p, 0, none⟩), .int .i64 k] w fun x W =>
      ∃ r : RV, x = .returned (.agg #[.int .i64 r.k, .int .u64 r.u, .int .i64 r.n, .slice r.A r.m r.c, .slice r.A' r.m' r.c']) ∧ RvOk W W.heap.size r (rV s k).1 ∧ Mr W p Q (rV s k).2 ∧ w.grownBy W (some p) := by
  have hp := h.lt
  have hlen : s.2.length ≤ 100000000 := by omega
  have HQL := Lib.hid (show ∀ k, Q k → k < w.heap.size from fun k hk => (h.1 k hk).1)
  have HQ0 := Lib.hid (show ∀ k, Q k → k ≠ w.heap.size from fun k hk => by have := (h.1 k hk).1; omega)
  have HQ1 := Lib.hid (show ∀ k, Q k → k ≠ w.heap.size + 1 from fun k hk => by have := (h.1 k hk).1; omega)
  by_cases k0 : k = 0
  · subst k0
    go_enter Try.func23, Try.ntmps23
    simp only [show ((0 : Nat) : Int) = 0 from rfl]
    have b0 := (Box5.new w (.int .i64 0) (.int .u64 0) (.int .i64 0) (.slice none 0 0) (.slice none 0 0)).kept (World.grownBy_alloc _ (.cells #[.int .i64 0, .int .u64 0, .int .i64 0, .slice none 0 0, .slice none 0 0] 28) none) (by simp)
    have b1 := Box5.new (w.alloc (.cells #[.int .i64 0, .int .u64 0, .int .i64 0, .slice none 0 0, .slice none 0 0] 28)) (.int .i64 0) (.int .u64 0) (.int .i64 0) (.slice none 0 0) (.slice none 0 0)
    rw [World.size_alloc] at b1
    have hB0 := ((Below.refl w.heap.size w).alloc (Nat.le_refl _) (.cells #[.int .i64 0, .int .u64 0, .int .i64 0, .slice none 0 0, .slice none 0 0] 28)).alloc (by simp) (.cells #[.int .i64 0, .int .u64 0, .int .i64 0, .slice none 0 0, .slice none 0 0] 28)
    go_wp2_with fail
    refine (m_uint p Q s hlen _ (h.below hB0 (Nat.le_refl _))).mono ?_
    rintro e W1 ⟨rfl, hR, hG⟩
    replace b0 := b0.kept hG (by simp; omega)
    replace b1 := b1.kept hG (by simp; omega)
    have zW : w.heap.size + 1 + 1 ≤ W1.heap.size := by have := hG.size; simp at this; omega
    have c0 := b0.cell0
    have c1 := b0.cell1
    have c2 := b0.cell2
    have c3 := b0.cell3
    have c4 := b0.cell4
    have d0 := b1.cell0
    have d1 := b1.cell1
    have d2 := b1.cell2
    have d3 := b1.cell3
    have d4 := b1.cell4
    have f0 := b0.fz
    have f1 := b1.fz
    go_wp2_with fail
    have g1 := grown_set W1 (w.heap.size + 1) 1 (.int .u64 ((rU s).1 : Nat))
    have x0 := b0.kept g1 (by simp)
    obtain ⟨y0, g2⟩ := five x0 (.int .i64 0) (.int .u64 ((rU s).1 : Nat)) (.int .i64 0) (.slice none 0 0) (.slice none 0 0)
    refine bodyPost_ret (v := .agg #[.int .i64 0, .int .u64 ((rU s).1 : Nat), .int .i64 0, .slice none 0 0, .slice none 0 0]) (by simp [results, Try.results23, go_sem, y0.cell0, y0.cell1, y0.cell2, y0.cell3, y0.cell4]) rfl ⟨⟨0, ((rU s).1 : Nat), 0, none, 0, 0, none, 0, 0⟩, rfl, ⟨rfl, rfl, rfl, Rd.nil _ _ _, Rd.nil _ _ _, Nat.le_refl _, Nat.zero_le _, Nat.le_refl _, Nat.zero_le _⟩, ?_, ?_⟩
    · exact (hR.grown g1 HQ1.out (by omega)).grown g2 HQ0.out (by omega)
    · exact grown_fresh (grown_fresh (grown_trans (grown_of_below hB0 _) hG) g1 (by omega)) g2 (Nat.le_refl _)
  by_cases k1 : k = 1
  · subst k1
    go_enter Try.func23, Try.ntmps23
    simp only [show ((1 : Nat) : Int) = 1 from rfl]
    have b0 := (Box5.new w (.int .i64 0) (.int .u64 0) (.int .i64 0) (.slice none 0 0) (.slice none 0 0)).kept (World.grownBy_alloc _ (.cells #[.int .i64 1, .int .u64 0, .int .i64 0, .slice none 0 0, .slice none 0 0] 28) none) (by simp)
    have b1 := Box5.new (w.alloc (.cells #[.int .i64 0, .int .u64 0, .int .i64 0, .slice none 0 0, .slice none 0 0] 28)) (.int .i64 1) (.int .u64 0) (.int .i64 0) (.slice none 0 0) (.slice none 0 0)
    rw [World.size_alloc] at b1
    have hB0 := ((Below.refl w.heap.size w).alloc (Nat.le_refl _) (.cells #[.int .i64 0, .int .u64 0, .int .i64 0, .slice none 0 0, .slice none 0 0] 28)).alloc (by simp) (.cells #[.int .i64 1, .int .u64 0, .int .i64 0, .slice none 0 0, .slice none 0 0] 28)
    go_wp2_with fail
    refine (m_int p Q s hlen _ (h.below hB0 (Nat.le_refl _))).mono ?_
    rintro e W1 ⟨rfl, hR, hG⟩
    replace b0 := b0.kept hG (by simp; omega)
    replace b1 := b1.kept hG (by simp; omega)
    have zW : w.heap.size + 1 + 1 ≤ W1.heap.size := by have := hG.size; simp at this; omega
    have c0 := b0.cell0
    have c1 := b0.cell1
    have c2 := b0.cell2
    have c3 := b0.cell3
    have c4 := b0.cell4
    have d0 := b1.cell0
    have d1 := b1.cell1
    have d2 := b1.cell2
    have d3 := b1.cell3
    have d4 := b1.cell4
    have f0 := b0.fz
    have f1 := b1.fz
    go_wp2_with fail
    have g1 := grown_set W1 (w.heap.size + 1) 2 (.int .i64 (rI s).1)
    have x0 := b0.kept g1 (by simp)
    obtain ⟨y0, g2⟩ := five x0 (.int .i64 1) (.int .u64 0) (.int .i64 (rI s).1) (.slice none 0 0) (.slice none 0 0)
    refine bodyPost_ret (v := .agg #[.int .i64 1, .int .u64 0, .int .i64 (rI s).1, .slice none 0 0, .slice none 0 0]) (by simp [results, Try.results23, go_sem, y0.cell0, y0.cell1, y0.cell2, y0.cell3, y0.cell4]) rfl ⟨⟨1, 0, (rI s).1, none, 0, 0, none, 0, 0⟩, rfl, ⟨rfl, rfl, rfl, Rd.nil _ _ _, Rd.nil _ _ _, Nat.le_refl _, Nat.zero_le _, Nat.le_refl _, Nat.zero_le _⟩, ?_, ?_⟩
    · exact (hR.grown g1 HQ1.out (by omega)).grown g2 HQ0.out (by omega)
    · exact grown_fresh (grown_fresh (grown_trans (grown_of_below hB0 _) hG) g1 (by omega)) g2 (Nat.le_refl _)
  by_cases k2 : k = 2
  · subst k2
    have e2 : (rV s 2).1 = { k := 2, n := if (rB s).1 then 1 else 0 } := rfl
    have e3 : (rV s 2).2 = (rB s).2 := rfl
    rw [e2, e3]
    have hcall := fun w' h' => m_bool p Q s w' h'
    obtain ⟨⟨x, s2⟩, hx⟩ : ∃ y, y = rB s := ⟨_, rfl⟩
    rw [← hx] at hcall
    rw [← hx]
    have HC := Lib.hid hcall
    clear hx e2 e3 hcall
    go_enter Try.func23, Try.ntmps23
    simp only [show ((2 : Nat) : Int) = 2 from rfl]
    have b0 := (Box5.new w (.int .i64 0) (.int .u64 0) (.int .i64 0) (.slice none 0 0) (.slice none 0 0)).kept (World.grownBy_alloc _ (.cells #[.int .i64 2, .int .u64 0, .int .i64 0, .slice none 0 0, .slice none 0 0] 28) none) (by simp)
    have b1 := Box5.new (w.alloc (.cells #[.int .i64 0, .int .u64 0, .int .i64 0, .slice none 0 0, .slice none 0 0] 28)) (.int .i64 2) (.int .u64 0) (.int .i64 0) (.slice none 0 0) (.slice none 0 0)
    rw [World.size_alloc] at b1
    have hB0 := ((Below.refl w.heap.size w).alloc (Nat.le_refl _) (.cells #[.int .i64 0, .int .u64 0, .int .i64 0, .slice none 0 0, .slice none 0 0] 28)).alloc (by simp) (.cells #[.int .i64 2, .int .u64 0, .int .i64 0, .slice none 0 0, .slice none 0 0] 28)
    go_wp2_with fail
    refine (HC.out _ (h.below hB0 (Nat.le_refl _))).mono ?_
    rintro e W1 ⟨rfl, hR, hG⟩
    replace b0 := b0.kept hG (by simp; omega)
    replace b1 := b1.kept hG (by simp; omega)
    have zW : w.heap.size + 1 + 1 ≤ W1.heap.size := by have := hG.size; simp at this; omega
    have c0 := b0.cell0
    have c1 := b0.cell1
    have c2 := b0.cell2
    have c3 := b0.cell3
    have c4 := b0.cell4
    have d0 := b1.cell0
    have d1 := b1.cell1
    have d2 := b1.cell2
    have d3 := b1.cell3
    have d4 := b1.cell4
    have f0 := b0.fz
    have f1 := b1.fz
    cases x
    · go_wp2_with fail
      have g1 := grown_refl W1 (some (w.heap.size + 1))
      have x0 := b0.kept g1 (by simp)
      obtain ⟨y0, g2⟩ := five x0 (.int .i64 2) (.int .u64 0) (.int .i64 0) (.slice none 0 0) (.slice none 0 0)
      refine bodyPost_ret (v := .agg #[.int .i64 2, .int .u64 0, .int .i64 0, .slice none 0 0, .slice none 0 0]) (by simp [results, Try.results23, go_sem, y0.cell0, y0.cell1, y0.cell2, y0.cell3, y0.cell4]) rfl ⟨⟨2, 0, 0, none, 0, 0, none, 0, 0⟩, rfl, ⟨rfl, rfl, rfl, Rd.nil _ _ _, Rd.nil _ _ _, Nat.le_refl _, Nat.zero_le _, Nat.le_refl _, Nat.zero_le _⟩, ?_, ?_⟩
      · exact (hR.grown g1 HQ1.out (by omega)).grown g2 HQ0.out (by omega)
      · exact grown_fresh (grown_fresh (grown_trans (grown_of_below hB0 _) hG) g1 (by omega)) g2 (Nat.le_refl _)
    · go_wp2_with fail
      have g1 := grown_set W1 (w.heap.size + 1) 2 (.int .i64 1)
      have x0 := b0.kept g1 (by simp)
      obtain ⟨y0, g2⟩ := five x0 (.int .i64 2) (.int .u64 0) (.int .i64 1) (.slice none 0 0) (.slice none 0 0)
      refine bodyPost_ret (v := .agg #[.int .i64 2, .int .u64 0, .int .i64 1, .slice none 0 0, .slice none 0 0]) (by simp [results, Try.results23, go_sem, y0.cell0, y0.cell1, y0.cell2, y0.cell3, y0.cell4]) rfl ⟨⟨2, 0, 1, none, 0, 0, none, 0, 0⟩, rfl, ⟨rfl, rfl, rfl, Rd.nil _ _ _, Rd.nil _ _ _, Nat.le_refl _, Nat.zero_le _, Nat.le_refl _, Nat.zero_le _⟩, ?_, ?_⟩
      · exact (hR.grown g1 HQ1.out (by omega)).grown g2 HQ0.out (by omega)
      · exact grown_fresh (grown_fresh (grown_trans (grown_of_below hB0 _) hG) g1 (by omega)) g2 (Nat.le_refl _)
  by_cases k3 : k = 3
  · subst k3
    go_enter Try.func23, Try.ntmps23
    simp only [show ((3 : Nat) : Int) = 3 from rfl]
    have b0 := (Box5.new w (.int .i64 0) (.int .u64 0) (.int .i64 0) (.slice none 0 0) (.slice none 0 0)).kept (World.grownBy_alloc _ (.cells #[.int .i64 3, .int .u64 0, .int .i64 0, .slice none 0 0, .slice none 0 0] 28) none) (by simp)
    have b1 := Box5.new (w.alloc (.cells #[.int .i64 0, .int .u64 0, .int .i64 0, .slice none 0 0, .slice none 0 0] 28)) (.int .i64 3) (.int .u64 0) (.int .i64 0) (.slice none 0 0) (.slice none 0 0)
    rw [World.size_alloc] at b1
    have hB0 := ((Below.refl w.heap.size w).alloc (Nat.le_refl _) (.cells #[.int .i64 0, .int .u64 0, .int .i64 0, .slice none 0 0, .slice none 0 0] 28)).alloc (by simp) (.cells #[.int .i64 3, .int .u64 0, .int .i64 0, .slice none 0 0, .slice none 0 0] 28)
    go_wp2_with fail
    refine (m_raw p Q s hlen _ (h.below hB0 (Nat.le_refl _))).mono ?_
    rintro e W1 ⟨A, c', rfl, hq, hcc, hcm, hR, hG⟩
    replace b0 := b0.kept hG (by simp; omega)
    replace b1 := b1.kept hG (by simp; omega)
    have zW : w.heap.size + 1 + 1 ≤ W1.heap.size := by have := hG.size; simp at this; omega
    have c0 := b0.cell0
    have c1 := b0.cell1
    have c2 := b0.cell2
    have c3 := b0.cell3
    have c4 := b0.cell4
    have d0 := b1.cell0
    have d1 := b1.cell1
    have d2 := b1.cell2
    have d3 := b1.cell3
    have d4 := b1.cell4
    have f0 := b0.fz
    have f1 := b1.fz
    go_wp2_with fail
    have g1 := grown_set W1 (w.heap.size + 1) 3 (.slice A (rR s).1.length c')
    have x0 := b0.kept g1 (by simp)
    obtain ⟨y0, g2⟩ := five x0 (.int .i64 3) (.int .u64 0) (.int .i64 0) (.slice A (rR s).1.length c') (.slice none 0 0)
    refine bodyPost_ret (v := .agg #[.int .i64 3, .int .u64 0, .int .i64 0, .slice A (rR s).1.length c', .slice none 0 0]) (by simp [results, Try.results23, go_sem, y0.cell0, y0.cell1, y0.cell2, y0.cell3, y0.cell4]) rfl ⟨⟨3, 0, 0, A, (rR s).1.length, c', none, 0, 0⟩, rfl, ⟨rfl, rfl, rfl, ((hq.grown g1 (fun k hk => ⟨by have := HQL.out k hk; omega, HQ1.out k hk⟩)).grown g2 (fun k hk => ⟨by have := HQL.out k hk; have := g1.size; omega, HQ0.out k hk⟩)).rd (fun k hk => by have := HQL.out k hk; have := g1.size; have := g2.size; omega), Rd.nil _ _ _, hcc, hcm, Nat.le_refl _, Nat.zero_le _⟩, ?_, ?_⟩
    · exact (hR.grown g1 HQ1.out (by omega)).grown g2 HQ0.out (by omega)
    · exact grown_fresh (grown_fresh (grown_trans (grown_of_below hB0 _) hG) g1 (by omega)) g2 (Nat.le_refl _)
  by_cases k4 : k = 4
  · subst k4
    go_enter Try.func23, Try.ntmps23
    simp only [show ((4 : Nat) : Int) = 4 from rfl]
    have b0 := (Box5.new w (.int .i64 0) (.int .u64 0) (.int .i64 0) (.slice none 0 0) (.slice none 0 0)).kept (World.grownBy_alloc _ (.cells #[.int .i64 4, .int .u64 0, .int .i64 0, .slice none 0 0, .slice none 0 0] 28) none) (by simp)
    have b1 := Box5.new (w.alloc (.cells #[.int .i64 0, .int .u64 0, .int .i64 0, .slice none 0 0, .slice none 0 0] 28)) (.int .i64 4) (.int .u64 0) (.int .i64 0) (.slice none 0 0) (.slice none 0 0)
    rw [World.size_alloc] at b1
    have hB0 := ((Below.refl w.heap.size w).alloc (Nat.le_refl _) (.cells #[.int .i64 0, .int .u64 0, .int .i64 0, .slice none 0 0, .slice none 0 0] 28)).alloc (by simp) (.cells #[.int .i64 4, .int .u64 0, .int .i64 0, .slice none 0 0, .slice none 0 0] 28)
    go_wp2_with fail
    refine (m_raw p Q s hlen _ (h.below hB0 (Nat.le_refl _))).mono ?_
    rintro e W1 ⟨A, c', rfl, hq, hcc, hcm, hR, hG⟩
    replace b0 := b0.kept hG (by simp; omega)
    replace b1 := b1.kept hG (by simp; omega)
    have zW : w.heap.size + 1 + 1 ≤ W1.heap.size := by have := hG.size; simp at this; omega
    have c0 := b0.cell0
    have c1 := b0.cell1
    have c2 := b0.cell2
    have c3 := b0.cell3
    have c4 := b0.cell4
    have d0 := b1.cell0
    have d1 := b1.cell1
    have d2 := b1.cell2
    have d3 := b1.cell3
    have d4 := b1.cell4
    have f0 := b0.fz
    have f1 := b1.fz
    go_wp2_with fail
    have g1 := grown_set W1 (w.heap.size + 1) 3 (.slice A (rR s).1.length c')
    have x0 := b0.kept g1 (by simp)
    obtain ⟨y0, g2⟩ := five x0 (.int .i64 4) (.int .u64 0) (.int .i64 0) (.slice A (rR s).1.length c') (.slice none 0 0)
    refine bodyPost_ret (v := .agg #[.int .i64 4, .int .u64 0, .int .i64 0, .slice A (rR s).1.length c', .slice none 0 0]) (by simp [results, Try.results23, go_sem, y0.cell0, y0.cell1, y0.cell2, y0.cell3, y0.cell4]) rfl ⟨⟨4, 0, 0, A, (rR s).1.length, c', none, 0, 0⟩, rfl, ⟨rfl, rfl, rfl, ((hq.grown g1 (fun k hk => ⟨by have := HQL.out k hk; omega, HQ1.out k hk⟩)).grown g2 (fun k hk => ⟨by have := HQL.out k hk; have := g1.size; omega, HQ0.out k hk⟩)).rd (fun k hk => by have := HQL.out k hk; have := g1.size; have := g2.size; omega), Rd.nil _ _ _, hcc, hcm, Nat.le_refl _, Nat.zero_le _⟩, ?_, ?_⟩
    · exact (hR.grown g1 HQ1.out (by omega)).grown g2 HQ0.out (by omega)
    · exact grown_fresh (grown_fresh (grown_trans (grown_of_below hB0 _) hG) g1 (by omega)) g2 (Nat.le_refl _)
  · obtain rfl : k = 5 := by omega
    go_enter Try.func23, Try.ntmps23
    simp only [show ((5 : Nat) : Int) = 5 from rfl]
    have b0 := (Box5.new w (.int .i64 0) (.int .u64 0) (.int .i64 0) (.slice none 0 0) (.slice none 0 0)).kept (World.grownBy_alloc _ (.cells #[.int .i64 5, .int .u64 0, .int .i64 0, .slice none 0 0, .slice none 0 0] 28) none) (by simp)
    have b1 := Box5.new (w.alloc (.cells #[.int .i64 0, .int .u64 0, .int .i64 0, .slice none 0 0, .slice none 0 0] 28)) (.int .i64 5) (.int .u64 0) (.int .i64 0) (.slice none 0 0) (.slice none 0 0)
    rw [World.size_alloc] at b1
    have hB0 := ((Below.refl w.heap.size w).alloc (Nat.le_refl _) (.cells #[.int .i64 0, .int .u64 0, .int .i64 0, .slice none 0 0, .slice none 0 0] 28)).alloc (by simp) (.cells #[.int .i64 5, .int .u64 0, .int .i64 0, .slice none 0 0, .slice none 0 0] 28)
    go_wp2_with fail
    refine (m_ints p Q s hlen' _ (h.below hB0 (Nat.le_refl _))).mono ?_
    rintro e W1 ⟨v, rfl, ho, hR, hG⟩
    obtain ⟨A, c', rfl⟩ := own_form ho
    replace b0 := b0.kept hG (by simp; omega)
    replace b1 := b1.kept hG (by simp; omega)
    have zW : w.heap.size + 1 + 1 ≤ W1.heap.size := by have := hG.size; simp at this; omega
    have c0 := b0.cell0
    have c1 := b0.cell1
    have c2 := b0.cell2
    have c3 := b0.cell3
    have c4 := b0.cell4
    have d0 := b1.cell0
    have d1 := b1.cell1
    have d2 := b1.cell2
    have d3 := b1.cell3
    have d4 := b1.cell4
    have f0 := b0.fz
    have f1 := b1.fz
    go_wp2_with fail
    have g1 := grown_set W1 (w.heap.size + 1) 4 (.slice A (rL s).1.length c')
    have x0 := b0.kept g1 (by simp)
    obtain ⟨y0, g2⟩ := five x0 (.int .i64 5) (.int .u64 0) (.int .i64 0) (.slice none 0 0) (.slice A (rL s).1.length c')
    refine bodyPost_ret (v := .agg #[.int .i64 5, .int .u64 0, .int .i64 0, .slice none 0 0, .slice A (rL s).1.length c']) (by simp [results, Try.results23, go_sem, y0.cell0, y0.cell1, y0.cell2, y0.cell3, y0.cell4]) rfl ⟨⟨5, 0, 0, none, 0, 0, A, (rL s).1.length, c'⟩, rfl, ⟨rfl, rfl, rfl, Rd.nil _ _ _, (((TRow.of_own ho).kept g1 b1 (by decide)).kept g2 x0 (by decide)).rd, Nat.le_refl _, Nat.zero_le _, own_le ho, own_cap ho⟩, ?_, ?_⟩
    · exact (hR.grown g1 HQ1.out (by omega)).grown g2 HQ0.out (by omega)
    · exact grown_fresh (grown_fresh (grown_trans (grown_of_below hB0 _) hG) g1 (by omega)) g2 (Nat.le_refl _)
end Go.Proofs.Ytigbknhlmifikaa
