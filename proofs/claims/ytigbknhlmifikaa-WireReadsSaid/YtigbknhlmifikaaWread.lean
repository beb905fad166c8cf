/- Reading a value of a kind. -/
import Derived.Test.YtigbknhlmifikaaWvdef
namespace Go.Proofs.Ytigbknhlmifikaa
open Go.RowKit Hb Wm

theorem cells_at (rs : List RV) (j : Nat) (r : RV) (h : rs[j]? = some r) (i : Nat) (hi : i < 5) : (rs.flatMap RV.cells)[j * 5 + i]? = r.cells[i]? := by
  induction rs generalizing j with
  | nil => simp at h
  | cons x rs ih =>
    rw [List.flatMap_cons]
    have hl : x.cells.length = 5 := rfl
    cases j with
    | zero =>
      have : x = r := by simpa using h
      subst this
      rw [List.getElem?_append_left (by omega), Nat.zero_mul, Nat.zero_add]
    | succ j =>
      rw [List.getElem?_append_right (by omega), hl, show (j + 1) * 5 + i - 5 = j * 5 + i from by omega]
      exact ih j (by simpa using h)
theorem OwnVs.vs {W : World} {base n c : Nat} {A : Option Addr} {vs : List VV} (h : OwnVs W base (.slice A n c) n vs) : Vs W W.heap.size A n vs := by
  obtain ⟨rs, ho, hrl, hvl, hall⟩ := h
  refine ⟨rs, ⟨hrl, fun hn => ?_⟩, hvl, fun j r v hr hv => ?_⟩
  · have ho' := ho
    rcases ho.2 with ⟨hv, h0⟩ | ⟨g, cap, cur, hv, hb, hg, hnc, hcm, hcs, htake⟩
    · omega
    · injection hv with hA hn2 hc2
      subst hA hc2
      refine ⟨g, rfl, (ho.lt g rfl).2, fun j r hr => ?_⟩
      have hjl : j < n := by rw [← hrl]; exact (List.getElem?_eq_some_iff.1 hr).1
      have hat : ∀ i, i < 5 → W.cell? ⟨g, j * 5 + i, none⟩ = r.cells[i]? := fun i hi => by
        rw [ho'.cellAt (j * 5 + i) (by omega), cells_at rs j r hr i hi]
      exact ⟨hat 0 (by omega), hat 1 (by omega), hat 2 (by omega), hat 3 (by omega), hat 4 (by omega)⟩
  · obtain ⟨hk, hu, hn, hb, hl⟩ := hall j r v hr hv
    exact ⟨hk, hu, hn, hb.rd, hl.rd, hb.2.1, hb.2.2.1, hl.2.1, hl.2.2.1⟩

theorem Box5.set0 {W : World} {p : Nat} {c0 c1 c2 c3 c4 : Value} (h : Box5 W p c0 c1 c2 c3 c4) (u : Value) : Box5 (W.setCell ⟨p, 0, none⟩ u) p u c1 c2 c3 c4 := h.set 0 u
theorem five {W : World} {N : Nat} {o0 o1 o2 o3 o4 : Value} (h : Box5 W N o0 o1 o2 o3 o4) (v0 v1 v2 v3 v4 : Value) :
    Box5 (((((W.setCell ⟨N, 0, none⟩ v0).setCell ⟨N, 1, none⟩ v1).setCell ⟨N, 2, none⟩ v2).setCell ⟨N, 3, none⟩ v3).setCell ⟨N, 4, none⟩ v4) N v0 v1 v2 v3 v4 ∧
    W.grownBy (((((W.setCell ⟨N, 0, none⟩ v0).setCell ⟨N, 1, none⟩ v1).setCell ⟨N, 2, none⟩ v2).setCell ⟨N, 3, none⟩ v3).setCell ⟨N, 4, none⟩ v4) (some N) :=
  ⟨((((h.set0 v0).set1 v1).set2 v2).set3 v3).set4 v4, grown_trans (grown_trans (grown_trans (grown_trans (grown_set _ _ _ _) (grown_set _ _ _ _)) (grown_set _ _ _ _)) (grown_set _ _ _ _)) (grown_set _ _ _ _)⟩
/-- behind a row's growth in a box of values nothing of a row of bytes or numbers has turned -/
theorem own_past {W W' : World} {N : Nat} {o0 o1 o2 o3 o4 : Value} (h : Box5 W N o0 o1 o2 o3 o4) (hg : W.grownBy W' (some N)) {base size k : Nat} {e : TypeId} (he : 28 ≠ e) {v : Value} {xs : List Value} (ho : W.ownsRow base e size v k xs) : W'.ownsRow base e size v k xs :=
  ho.kept hg (.inr (h.not_row he ho).symm)
/-- the bytes of a string, in a new row -/
theorem conv_trow {P : Program} (w : World) (src dst e : TypeId) (bs : List UInt8) (hm : bs.length ≤ 1000000) (hs : P.underlying src = some .string) (hd : P.underlying dst = some (.slice e)) (he : P.underlying e = some (.int .u8)) :
    ∃ c W1, (convert src dst (.string ⟨bs.toArray⟩)).run P w = .ok (.slice (some ⟨w.heap.size, 0, none⟩) bs.length c) W1 ∧ TRow W1 w.heap.size e (some ⟨w.heap.size, 0, none⟩) bs.length c (bs.map bv) ∧ Below w.heap.size w W1 ∧ W1.heap.size = w.heap.size + 1 := by
  have hsz : (ByteArray.mk bs.toArray).size = bs.length := by simp [ByteArray.size]
  refine ⟨_, _, Lib.run_convert_string_bytes w src dst e _ hs hd he, ⟨by simp, grownCap_ge w _ 0 e, grownCap_le_maxLen w _ 0 e (by rw [hsz]; unfold maxLen; omega), .inr ⟨w.heap.size, _, _, rfl, Nat.le_refl _, Lib.bytesWorld_at_new w e _, ?_⟩⟩, ⟨rfl, rfl, rfl, by rw [Lib.bytesWorld_size]; omega, fun k hk => Lib.bytesWorld_at_old w e _ k hk⟩, Lib.bytesWorld_size w e _⟩
  unfold Lib.bytesCells
  simp [bv]
theorem rR_len (s : St) : (rR s).1.length ≤ s.2.length := by
  have h1 := rU_len s
  by_cases h : (rU s).2.2.length < (rU s).1
  · by_cases h0 : (rU s).2.1 = 0
    · rw [rR_big s h0 h]; simp
    · have := (rU_err s h0).1; omega
  · rw [rR_ok s h]; simp; omega
def RvAgg (r : RV) : Value := .agg #[.int .i64 r.k, .int .u64 r.u, .int .i64 r.n, .slice r.A r.m r.c, .slice r.A' r.m' r.c']
set_option maxRecDepth 100000 in
set_option maxHeartbeats 4000000 in
theorem read_any (p : Nat) (Q : Nat → Prop) (s : St) (hlen : s.2.length ≤ 1000000) (k : Nat) (hk : k ≤ 5) (w : World) (h : Rr w p Q s) :
    Calls Try.prog 22 #[.pointer (some ⟨p, 0, none⟩), .int .i64 k] w fun x W =>
      ∃ r : RV, x = .returned (.agg #[.int .i64 r.k, .int .u64 r.u, .int .i64 r.n, .slice r.A r.m r.c, .slice r.A' r.m' r.c']) ∧ RvOwn W w.heap.size r (rV s k).1 ∧ Rr W p Q (rV s k).2 ∧ w.grownBy W (some p) := by
  have hp := h.lt
  have HQ0 := Lib.hid (show ∀ k, Q k → k ≠ w.heap.size from fun k hk => by have := (h.1 k hk).1; omega)
  have HQ1 := Lib.hid (show ∀ k, Q k → k ≠ w.heap.size + 1 from fun k hk => by have := (h.1 k hk).1; omega)
  by_cases k0 : k = 0
  · subst k0
    go_enter Try.func22, Try.ntmps22
    simp only [show ((0 : Nat) : Int) = 0 from rfl]
    have b0 := (Box5.new w (.int .i64 0) (.int .u64 0) (.int .i64 0) (.slice none 0 0) (.slice none 0 0)).kept (World.grownBy_alloc _ (.cells #[.int .i64 0, .int .u64 0, .int .i64 0, .slice none 0 0, .slice none 0 0] 28) none) (by simp)
    have b1 := Box5.new (w.alloc (.cells #[.int .i64 0, .int .u64 0, .int .i64 0, .slice none 0 0, .slice none 0 0] 28)) (.int .i64 0) (.int .u64 0) (.int .i64 0) (.slice none 0 0) (.slice none 0 0)
    rw [World.size_alloc] at b1
    have hB0 := ((Below.refl w.heap.size w).alloc (Nat.le_refl _) (.cells #[.int .i64 0, .int .u64 0, .int .i64 0, .slice none 0 0, .slice none 0 0] 28)).alloc (by simp) (.cells #[.int .i64 0, .int .u64 0, .int .i64 0, .slice none 0 0, .slice none 0 0] 28)
    go_wp2_with fail
    refine (r_uint p Q s _ (h.below hB0 (Nat.le_refl _))).mono ?_
    rintro e W1 ⟨rfl, hR, hG⟩
    replace b0 := b0.kept hG (by simp; omega)
    replace b1 := b1.kept hG (by simp; omega)
    have c0 := b0.cell0
    have c1 := b0.cell1
    have c2 := b0.cell2
    have c3 := b0.cell3
    have c4 := b0.cell4
    have d0 := b1.cell0
    have d1 := b1.cell1
    have d2 := b1.cell2
    have d3 := b1.cell3
    have d4 := b1.cell4
    have f0 := b0.fz
    have f1 := b1.fz
    go_wp2_with fail
    have g1 := grown_set W1 (w.heap.size + 1) 1 (.int .u64 ((rU s).1 : Nat))
    have x0 := b0.kept g1 (by simp)
    obtain ⟨y0, g2⟩ := five x0 (.int .i64 0) (.int .u64 ((rU s).1 : Nat)) (.int .i64 0) (.slice none 0 0) (.slice none 0 0)
    refine bodyPost_ret (v := .agg #[.int .i64 0, .int .u64 ((rU s).1 : Nat), .int .i64 0, .slice none 0 0, .slice none 0 0]) (by simp [results, Try.results22, go_sem, y0.cell0, y0.cell1, y0.cell2, y0.cell3, y0.cell4]) rfl ⟨⟨0, ((rU s).1 : Nat), 0, none, 0, 0, none, 0, 0⟩, rfl, ⟨rfl, rfl, rfl, TRow.nil _ _ _, TRow.nil _ _ _⟩, ?_, ?_⟩
    · exact (hR.grown g1 HQ1.out (by omega)).grown g2 HQ0.out (by omega)
    · exact grown_fresh (grown_fresh (grown_trans (grown_of_below hB0 _) hG) g1 (by omega)) g2 (Nat.le_refl _)
  by_cases k1 : k = 1
  · subst k1
    go_enter Try.func22, Try.ntmps22
    simp only [show ((1 : Nat) : Int) = 1 from rfl]
    have b0 := (Box5.new w (.int .i64 0) (.int .u64 0) (.int .i64 0) (.slice none 0 0) (.slice none 0 0)).kept (World.grownBy_alloc _ (.cells #[.int .i64 1, .int .u64 0, .int .i64 0, .slice none 0 0, .slice none 0 0] 28) none) (by simp)
    have b1 := Box5.new (w.alloc (.cells #[.int .i64 0, .int .u64 0, .int .i64 0, .slice none 0 0, .slice none 0 0] 28)) (.int .i64 1) (.int .u64 0) (.int .i64 0) (.slice none 0 0) (.slice none 0 0)
    rw [World.size_alloc] at b1
    have hB0 := ((Below.refl w.heap.size w).alloc (Nat.le_refl _) (.cells #[.int .i64 0, .int .u64 0, .int .i64 0, .slice none 0 0, .slice none 0 0] 28)).alloc (by simp) (.cells #[.int .i64 1, .int .u64 0, .int .i64 0, .slice none 0 0, .slice none 0 0] 28)
    go_wp2_with fail
    refine (r_int p Q s _ (h.below hB0 (Nat.le_refl _))).mono ?_
    rintro e W1 ⟨rfl, hR, hG⟩
    replace b0 := b0.kept hG (by simp; omega)
    replace b1 := b1.kept hG (by simp; omega)
    have c0 := b0.cell0
    have c1 := b0.cell1
    have c2 := b0.cell2
    have c3 := b0.cell3
    have c4 := b0.cell4
    have d0 := b1.cell0
    have d1 := b1.cell1
    have d2 := b1.cell2
    have d3 := b1.cell3
    have d4 := b1.cell4
    have f0 := b0.fz
    have f1 := b1.fz
    go_wp2_with fail
    have g1 := grown_set W1 (w.heap.size + 1) 2 (.int .i64 (rI s).1)
    have x0 := b0.kept g1 (by simp)
    obtain ⟨y0, g2⟩ := five x0 (.int .i64 1) (.int .u64 0) (.int .i64 (rI s).1) (.slice none 0 0) (.slice none 0 0)
    refine bodyPost_ret (v := .agg #[.int .i64 1, .int .u64 0, .int .i64 (rI s).1, .slice none 0 0, .slice none 0 0]) (by simp [results, Try.results22, go_sem, y0.cell0, y0.cell1, y0.cell2, y0.cell3, y0.cell4]) rfl ⟨⟨1, 0, (rI s).1, none, 0, 0, none, 0, 0⟩, rfl, ⟨rfl, rfl, rfl, TRow.nil _ _ _, TRow.nil _ _ _⟩, ?_, ?_⟩
    · exact (hR.grown g1 HQ1.out (by omega)).grown g2 HQ0.out (by omega)
    · exact grown_fresh (grown_fresh (grown_trans (grown_of_below hB0 _) hG) g1 (by omega)) g2 (Nat.le_refl _)
  by_cases k2 : k = 2
  · subst k2
    have e2 : (rV s 2).1 = { k := 2, n := if (rB s).1 then 1 else 0 } := rfl
    have e3 : (rV s 2).2 = (rB s).2 := rfl
    rw [e2, e3]
    have hcall := fun w' h' => r_bool p Q s w' h'
    obtain ⟨⟨x, s2⟩, hx⟩ : ∃ y, y = rB s := ⟨_, rfl⟩
    rw [← hx] at hcall
    rw [← hx]
    have HC := Lib.hid hcall
    clear hx e2 e3 hcall
    go_enter Try.func22, Try.ntmps22
    simp only [show ((2 : Nat) : Int) = 2 from rfl]
    have b0 := (Box5.new w (.int .i64 0) (.int .u64 0) (.int .i64 0) (.slice none 0 0) (.slice none 0 0)).kept (World.grownBy_alloc _ (.cells #[.int .i64 2, .int .u64 0, .int .i64 0, .slice none 0 0, .slice none 0 0] 28) none) (by simp)
    have b1 := Box5.new (w.alloc (.cells #[.int .i64 0, .int .u64 0, .int .i64 0, .slice none 0 0, .slice none 0 0] 28)) (.int .i64 2) (.int .u64 0) (.int .i64 0) (.slice none 0 0) (.slice none 0 0)
    rw [World.size_alloc] at b1
    have hB0 := ((Below.refl w.heap.size w).alloc (Nat.le_refl _) (.cells #[.int .i64 0, .int .u64 0, .int .i64 0, .slice none 0 0, .slice none 0 0] 28)).alloc (by simp) (.cells #[.int .i64 2, .int .u64 0, .int .i64 0, .slice none 0 0, .slice none 0 0] 28)
    go_wp2_with fail
    refine (HC.out _ (h.below hB0 (Nat.le_refl _))).mono ?_
    rintro e W1 ⟨rfl, hR, hG⟩
    replace b0 := b0.kept hG (by simp; omega)
    replace b1 := b1.kept hG (by simp; omega)
    have c0 := b0.cell0
    have c1 := b0.cell1
    have c2 := b0.cell2
    have c3 := b0.cell3
    have c4 := b0.cell4
    have d0 := b1.cell0
    have d1 := b1.cell1
    have d2 := b1.cell2
    have d3 := b1.cell3
    have d4 := b1.cell4
    have f0 := b0.fz
    have f1 := b1.fz
    cases x
    · go_wp2_with fail
      have g1 := grown_refl W1 (some (w.heap.size + 1))
      have x0 := b0.kept g1 (by simp)
      obtain ⟨y0, g2⟩ := five x0 (.int .i64 2) (.int .u64 0) (.int .i64 0) (.slice none 0 0) (.slice none 0 0)
      refine bodyPost_ret (v := .agg #[.int .i64 2, .int .u64 0, .int .i64 0, .slice none 0 0, .slice none 0 0]) (by simp [results, Try.results22, go_sem, y0.cell0, y0.cell1, y0.cell2, y0.cell3, y0.cell4]) rfl ⟨⟨2, 0, 0, none, 0, 0, none, 0, 0⟩, rfl, ⟨rfl, rfl, rfl, TRow.nil _ _ _, TRow.nil _ _ _⟩, ?_, ?_⟩
      · exact (hR.grown g1 HQ1.out (by omega)).grown g2 HQ0.out (by omega)
      · exact grown_fresh (grown_fresh (grown_trans (grown_of_below hB0 _) hG) g1 (by omega)) g2 (Nat.le_refl _)
    · go_wp2_with fail
      have g1 := grown_set W1 (w.heap.size + 1) 2 (.int .i64 1)
      have x0 := b0.kept g1 (by simp)
      obtain ⟨y0, g2⟩ := five x0 (.int .i64 2) (.int .u64 0) (.int .i64 1) (.slice none 0 0) (.slice none 0 0)
      refine bodyPost_ret (v := .agg #[.int .i64 2, .int .u64 0, .int .i64 1, .slice none 0 0, .slice none 0 0]) (by simp [results, Try.results22, go_sem, y0.cell0, y0.cell1, y0.cell2, y0.cell3, y0.cell4]) rfl ⟨⟨2, 0, 1, none, 0, 0, none, 0, 0⟩, rfl, ⟨rfl, rfl, rfl, TRow.nil _ _ _, TRow.nil _ _ _⟩, ?_, ?_⟩
      · exact (hR.grown g1 HQ1.out (by omega)).grown g2 HQ0.out (by omega)
      · exact grown_fresh (grown_fresh (grown_trans (grown_of_below hB0 _) hG) g1 (by omega)) g2 (Nat.le_refl _)
  by_cases k3 : k = 3
  · subst k3
    go_enter Try.func22, Try.ntmps22
    simp only [show ((3 : Nat) : Int) = 3 from rfl]
    have b0 := (Box5.new w (.int .i64 0) (.int .u64 0) (.int .i64 0) (.slice none 0 0) (.slice none 0 0)).kept (World.grownBy_alloc _ (.cells #[.int .i64 3, .int .u64 0, .int .i64 0, .slice none 0 0, .slice none 0 0] 28) none) (by simp)
    have b1 := Box5.new (w.alloc (.cells #[.int .i64 0, .int .u64 0, .int .i64 0, .slice none 0 0, .slice none 0 0] 28)) (.int .i64 3) (.int .u64 0) (.int .i64 0) (.slice none 0 0) (.slice none 0 0)
    rw [World.size_alloc] at b1
    have hB0 := ((Below.refl w.heap.size w).alloc (Nat.le_refl _) (.cells #[.int .i64 0, .int .u64 0, .int .i64 0, .slice none 0 0, .slice none 0 0] 28)).alloc (by simp) (.cells #[.int .i64 3, .int .u64 0, .int .i64 0, .slice none 0 0, .slice none 0 0] 28)
    go_wp2_with fail
    refine (r_text p Q s hlen _ (h.below hB0 (Nat.le_refl _))).mono ?_
    rintro e W0 ⟨rfl, hR, hG⟩
    obtain ⟨c', W1, hconv, hrow, hBc, hsz⟩ := conv_trow (P := Try.prog) W0 9 24 5 (rR s).1 (by have := rR_len s; omega) Try.underlying9 Try.underlying24 Try.underlying5
    have hGs : w.heap.size ≤ W0.heap.size := by have := hG.size; simp at this; omega
    replace hG := grown_trans hG (grown_of_below hBc _)
    replace hR := hR.below hBc (Nat.le_refl _)
    replace b0 := b0.kept hG (by simp; omega)
    replace b1 := b1.kept hG (by simp; omega)
    have c0 := b0.cell0
    have c1 := b0.cell1
    have c2 := b0.cell2
    have c3 := b0.cell3
    have c4 := b0.cell4
    have d0 := b1.cell0
    have d1 := b1.cell1
    have d2 := b1.cell2
    have d3 := b1.cell3
    have d4 := b1.cell4
    have f0 := b0.fz
    have f1 := b1.fz
    go_wp2_with fail
    have g1 := grown_set W1 (w.heap.size + 1) 3 (.slice (some ⟨W0.heap.size, 0, none⟩) (rR s).1.length c')
    have x0 := b0.kept g1 (by simp)
    obtain ⟨y0, g2⟩ := five x0 (.int .i64 3) (.int .u64 0) (.int .i64 0) (.slice (some ⟨W0.heap.size, 0, none⟩) (rR s).1.length c') (.slice none 0 0)
    refine bodyPost_ret (v := .agg #[.int .i64 3, .int .u64 0, .int .i64 0, .slice (some ⟨W0.heap.size, 0, none⟩) (rR s).1.length c', .slice none 0 0]) (by simp [results, Try.results22, go_sem, y0.cell0, y0.cell1, y0.cell2, y0.cell3, y0.cell4]) rfl ⟨⟨3, 0, 0, some ⟨W0.heap.size, 0, none⟩, (rR s).1.length, c', none, 0, 0⟩, rfl, ⟨rfl, rfl, rfl, ((hrow.kept g1 b1 (by decide)).kept g2 x0 (by decide)).lower (by have := hGs; omega), TRow.nil _ _ _⟩, ?_, ?_⟩
    · exact (hR.grown g1 HQ1.out (by omega)).grown g2 HQ0.out (by omega)
    · exact grown_fresh (grown_fresh (grown_trans (grown_of_below hB0 _) hG) g1 (by omega)) g2 (Nat.le_refl _)
  by_cases k4 : k = 4
  · subst k4
    go_enter Try.func22, Try.ntmps22
    simp only [show ((4 : Nat) : Int) = 4 from rfl]
    have b0 := (Box5.new w (.int .i64 0) (.int .u64 0) (.int .i64 0) (.slice none 0 0) (.slice none 0 0)).kept (World.grownBy_alloc _ (.cells #[.int .i64 4, .int .u64 0, .int .i64 0, .slice none 0 0, .slice none 0 0] 28) none) (by simp)
    have b1 := Box5.new (w.alloc (.cells #[.int .i64 0, .int .u64 0, .int .i64 0, .slice none 0 0, .slice none 0 0] 28)) (.int .i64 4) (.int .u64 0) (.int .i64 0) (.slice none 0 0) (.slice none 0 0)
    rw [World.size_alloc] at b1
    have hB0 := ((Below.refl w.heap.size w).alloc (Nat.le_refl _) (.cells #[.int .i64 0, .int .u64 0, .int .i64 0, .slice none 0 0, .slice none 0 0] 28)).alloc (by simp) (.cells #[.int .i64 4, .int .u64 0, .int .i64 0, .slice none 0 0, .slice none 0 0] 28)
    go_wp2_with fail
    refine (r_raw p Q s hlen _ (h.below hB0 (Nat.le_refl _))).mono ?_
    rintro e W1 ⟨v, rfl, ho, hR, hG⟩
    obtain ⟨A, c', rfl⟩ := own_form ho
    replace b0 := b0.kept hG (by simp; omega)
    replace b1 := b1.kept hG (by simp; omega)
    have c0 := b0.cell0
    have c1 := b0.cell1
    have c2 := b0.cell2
    have c3 := b0.cell3
    have c4 := b0.cell4
    have d0 := b1.cell0
    have d1 := b1.cell1
    have d2 := b1.cell2
    have d3 := b1.cell3
    have d4 := b1.cell4
    have f0 := b0.fz
    have f1 := b1.fz
    go_wp2_with fail
    have g1 := grown_set W1 (w.heap.size + 1) 3 (.slice A (rR s).1.length c')
    have x0 := b0.kept g1 (by simp)
    obtain ⟨y0, g2⟩ := five x0 (.int .i64 4) (.int .u64 0) (.int .i64 0) (.slice A (rR s).1.length c') (.slice none 0 0)
    refine bodyPost_ret (v := .agg #[.int .i64 4, .int .u64 0, .int .i64 0, .slice A (rR s).1.length c', .slice none 0 0]) (by simp [results, Try.results22, go_sem, y0.cell0, y0.cell1, y0.cell2, y0.cell3, y0.cell4]) rfl ⟨⟨4, 0, 0, A, (rR s).1.length, c', none, 0, 0⟩, rfl, ⟨rfl, rfl, rfl, (((TRow.of_own ho).kept g1 b1 (by decide)).kept g2 x0 (by decide)).lower (by simp; omega), TRow.nil _ _ _⟩, ?_, ?_⟩
    · exact (hR.grown g1 HQ1.out (by omega)).grown g2 HQ0.out (by omega)
    · exact grown_fresh (grown_fresh (grown_trans (grown_of_below hB0 _) hG) g1 (by omega)) g2 (Nat.le_refl _)
  · obtain rfl : k = 5 := by omega
    go_enter Try.func22, Try.ntmps22
    simp only [show ((5 : Nat) : Int) = 5 from rfl]
    have b0 := (Box5.new w (.int .i64 0) (.int .u64 0) (.int .i64 0) (.slice none 0 0) (.slice none 0 0)).kept (World.grownBy_alloc _ (.cells #[.int .i64 5, .int .u64 0, .int .i64 0, .slice none 0 0, .slice none 0 0] 28) none) (by simp)
    have b1 := Box5.new (w.alloc (.cells #[.int .i64 0, .int .u64 0, .int .i64 0, .slice none 0 0, .slice none 0 0] 28)) (.int .i64 5) (.int .u64 0) (.int .i64 0) (.slice none 0 0) (.slice none 0 0)
    rw [World.size_alloc] at b1
    have hB0 := ((Below.refl w.heap.size w).alloc (Nat.le_refl _) (.cells #[.int .i64 0, .int .u64 0, .int .i64 0, .slice none 0 0, .slice none 0 0] 28)).alloc (by simp) (.cells #[.int .i64 5, .int .u64 0, .int .i64 0, .slice none 0 0, .slice none 0 0] 28)
    go_wp2_with fail
    refine (r_ints p Q s hlen _ (h.below hB0 (Nat.le_refl _))).mono ?_
    rintro e W1 ⟨v, rfl, ho, hR, hG⟩
    obtain ⟨A, c', rfl⟩ := own_form ho
    replace b0 := b0.kept hG (by simp; omega)
    replace b1 := b1.kept hG (by simp; omega)
    have c0 := b0.cell0
    have c1 := b0.cell1
    have c2 := b0.cell2
    have c3 := b0.cell3
    have c4 := b0.cell4
    have d0 := b1.cell0
    have d1 := b1.cell1
    have d2 := b1.cell2
    have d3 := b1.cell3
    have d4 := b1.cell4
    have f0 := b0.fz
    have f1 := b1.fz
    go_wp2_with fail
    have g1 := grown_set W1 (w.heap.size + 1) 4 (.slice A (rL s).1.length c')
    have x0 := b0.kept g1 (by simp)
    obtain ⟨y0, g2⟩ := five x0 (.int .i64 5) (.int .u64 0) (.int .i64 0) (.slice none 0 0) (.slice A (rL s).1.length c')
    refine bodyPost_ret (v := .agg #[.int .i64 5, .int .u64 0, .int .i64 0, .slice none 0 0, .slice A (rL s).1.length c']) (by simp [results, Try.results22, go_sem, y0.cell0, y0.cell1, y0.cell2, y0.cell3, y0.cell4]) rfl ⟨⟨5, 0, 0, none, 0, 0, A, (rL s).1.length, c'⟩, rfl, ⟨rfl, rfl, rfl, TRow.nil _ _ _, (((TRow.of_own ho).kept g1 b1 (by decide)).kept g2 x0 (by decide)).lower (by simp; omega)⟩, ?_, ?_⟩
    · exact (hR.grown g1 HQ1.out (by omega)).grown g2 HQ0.out (by omega)
    · exact grown_fresh (grown_fresh (grown_trans (grown_of_below hB0 _) hG) g1 (by omega)) g2 (Nat.le_refl _)
end Go.Proofs.Ytigbknhlmifikaa
