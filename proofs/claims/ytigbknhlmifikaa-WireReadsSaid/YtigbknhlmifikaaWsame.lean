/- Comparing two values that are equal; lists of values that grow; reading back what was written. -/
import Derived.Test.YtigbknhlmifikaaWread
import Derived.Test.YtigbknhlmifikaaWmath2
namespace Go.Proofs.Ytigbknhlmifikaa
open Go.RowKit Hb Wm

theorem OwnVs.below {w W : World} {base C n : Nat} {x : Value} {vs : List VV} (h : OwnVs w base x n vs) (hB : Below C w W) (hC : w.heap.size ≤ C) : OwnVs W base x n vs := by
  obtain ⟨rs, ho, h1, h2, hall⟩ := h
  exact ⟨rs, own_below ho hB hC, h1, h2, fun j r v hr hv => (hall j r v hr hv).below hB hC⟩
/-- behind an append of several values -/
theorem OwnVs.app {wc w2 : World} {base i k : Nat} {x x' : Value} {vs vs2 : List VV} {rs rs2 : List RV} {tmp : Obj}
    (hox : wc.ownsRow base 28 5 x i (rs.flatMap RV.cells)) (hrl : rs.length = i) (hvl : vs.length = i)
    (hall : ∀ (j : Nat) (r : RV) (v : VV), rs[j]? = some r → vs[j]? = some v → RvOwn wc base r v)
    (h1 : rs2.length = k) (h2 : vs2.length = k) (hall2 : ∀ (j : Nat) (r : RV) (v : VV), rs2[j]? = some r → vs2[j]? = some v → RvOwn wc base r v)
    (hown' : w2.ownsRow base 28 5 x' (i + k) (rs.flatMap RV.cells ++ rs2.flatMap RV.cells)) (hgrow : (wc.alloc tmp).grownBy w2 x.ownBlock) : OwnVs w2 base x' (i + k) (vs ++ vs2) := by
  have hox2 : (wc.alloc tmp).ownsRow base 28 5 x i (rs.flatMap RV.cells) := hox.alloc _
  have ha := (Below.refl wc.heap.size wc).alloc (Nat.le_refl _) tmp
  refine ⟨rs ++ rs2, by simpa using hown', by simp [hrl, h1], by simp [hvl, h2], fun j r' v' hr' hv' => ?_⟩
  by_cases hj : j < i
  · rw [List.getElem?_append_left (by omega)] at hr' hv'
    exact ((hall j r' v' hr' hv').below ha (Nat.le_refl _)).kept hox2 hgrow
  · rw [List.getElem?_append_right (by omega), hrl] at hr'
    rw [List.getElem?_append_right (by omega), hvl] at hv'
    exact ((hall2 _ r' v' hr' hv').below ha (Nat.le_refl _)).kept hox2 hgrow

theorem RvOwn.ok {w : World} {base : Nat} {r : RV} {v : VV} (h : RvOwn w base r v) : RvOk w w.heap.size r v := ⟨h.k, h.u, h.n, h.b.rd, h.l.rd, h.b.2.1, h.b.2.2.1, h.l.2.1, h.l.2.2.1⟩
theorem rV_round (v : VV) (h : v.canon) (R : List UInt8) : rV (0, enc v ++ R) v.k = (v, 0, R) := by
  obtain ⟨⟨g1, g2, g3, g4, g5, g6⟩, hu, hn, hn2, hb, hl⟩ := h
  obtain ⟨k, u, n, bs, ls⟩ := v
  simp only at *
  by_cases k0 : k = 0
  · subst k0
    obtain rfl := hn (by decide) (by decide)
    obtain rfl := hb (by decide) (by decide)
    obtain rfl := hl (by decide)
    show (({ k := 0, u := (rU (0, vu u ++ R)).1 } : VV), (rU (0, vu u ++ R)).2) = _
    rw [rU_round u g2]
  by_cases k1 : k = 1
  · subst k1
    obtain rfl := hu (by decide)
    obtain rfl := hb (by decide) (by decide)
    obtain rfl := hl (by decide)
    show (({ k := 1, n := unzz (rU (0, vu (zz n) ++ R)).1 } : VV), (rU (0, vu (zz n) ++ R)).2) = _
    rw [rU_round _ (zz_lt g3.1 g3.2)]
    simp only
    rw [unzz_zz]
  by_cases k2 : k = 2
  · subst k2
    obtain rfl := hu (by decide)
    obtain rfl := hb (by decide) (by decide)
    obtain rfl := hl (by decide)
    rcases hn2 rfl with rfl | rfl <;> rfl
  by_cases k3 : k = 3 ∨ k = 4
  · obtain rfl := hu k0
    obtain rfl := hn k1 k2
    obtain rfl := hl (by omega)
    have er : ∀ s, rV s k = (({ k := k, b := (rR s).1 } : VV), (rR s).2) := fun s => by unfold rV; rw [if_neg k0, if_neg k1, if_neg k2, if_pos k3]
    have ee : enc ⟨k, 0, 0, bs, []⟩ = vu bs.length ++ bs := by unfold enc; simp only; rw [if_neg k0, if_neg k1, if_neg k2, if_pos k3]
    rw [er, ee, rR_round bs (by omega)]
  · obtain rfl := hu k0
    obtain rfl := hn k1 k2
    obtain rfl := hb (by omega) (by omega)
    have er : ∀ s, rV s k = (({ k := k, l := (rL s).1 } : VV), (rL s).2) := fun s => by unfold rV; rw [if_neg k0, if_neg k1, if_neg k2, if_neg k3]
    have ee : enc ⟨k, 0, 0, [], ls⟩ = vu ls.length ++ encI ls := by unfold enc; simp only; rw [if_neg k0, if_neg k1, if_neg k2, if_neg k3]
    rw [er, ee, rL_round ls (by omega) g6]

set_option maxRecDepth 100000 in
set_option maxHeartbeats 2000000 in
theorem same_t (r r' : RV) (v v' : VV) (hv : v = v') (w : World) (h : RvOk w w.heap.size r v) (h' : RvOk w w.heap.size r' v') :
    Calls Try.prog 21 #[.agg #[.int .i64 r.k, .int .u64 r.u, .int .i64 r.n, .slice r.A r.m r.c, .slice r.A' r.m' r.c'], .agg #[.int .i64 r'.k, .int .u64 r'.u, .int .i64 r'.n, .slice r'.A r'.m r'.c, .slice r'.A' r'.m' r'.c']] w fun e W =>
      e = .returned (.bool true) ∧ Below w.heap.size w W := by
  subst hv
  obtain ⟨hk, hu, hn, hb, hl, h1, h2, h3, h4⟩ := h
  obtain ⟨hk', hu', hn', hb', hl', h1', h2', h3', h4'⟩ := h'
  obtain ⟨rk, ru', rn, A, m, c, A', m', c'⟩ := r
  obtain ⟨sk, su', sn, C, q, d, C', q', d'⟩ := r'
  obtain ⟨k, u, n, bs, ls⟩ := v
  simp only at *
  subst hk hu hn hk' hu' hn'
  have hB2 := fun o o' => ((Below.refl w.heap.size w).alloc (Nat.le_refl _) o).alloc (by simp) o'
  have HB := Lib.hid hB2
  clear hB2
  unfold maxLen at h2 h4 h2' h4'
  go_enter Try.func21, Try.ntmps21
  go_wp2_with fail
  refine (same_bytes_t A C m c q d bs bs _ (by unfold maxLen; omega) _ (hb.below (HB.out _ _)) (hb'.below (HB.out _ _)) rfl).mono ?_
  rintro e W1 ⟨rfl, hq⟩
  have b0 := (Box5.new w (.int .i64 (k : Int)) (.int .u64 (u : Int)) (.int .i64 sn) (.slice A m c) (.slice A' m' c')).kept (World.grownBy_alloc _ (.cells #[.int .i64 (k : Int), .int .u64 (u : Int), .int .i64 sn, .slice C q d, .slice C' q' d'] 28) none) (by simp)
  have b1 := Box5.new (w.alloc (.cells #[.int .i64 (k : Int), .int .u64 (u : Int), .int .i64 sn, .slice A m c, .slice A' m' c'] 28)) (.int .i64 (k : Int)) (.int .u64 (u : Int)) (.int .i64 sn) (.slice C q d) (.slice C' q' d')
  rw [World.size_alloc] at b1
  have hB1 := (HB.out (.cells #[.int .i64 (k : Int), .int .u64 (u : Int), .int .i64 sn, .slice A m c, .slice A' m' c'] 28) (.cells #[.int .i64 (k : Int), .int .u64 (u : Int), .int .i64 sn, .slice C q d, .slice C' q' d'] 28)).trans (hq.below w.heap.size)
  replace b0 := b0.below (hq.below (w.heap.size + 2)) (by omega)
  replace b1 := b1.below (hq.below (w.heap.size + 2)) (by omega)
  have c0 := b0.cell0
  have c1 := b0.cell1
  have c2 := b0.cell2
  have c3 := b0.cell3
  have c4 := b0.cell4
  have d0 := b1.cell0
  have d1 := b1.cell1
  have d2 := b1.cell2
  have d3 := b1.cell3
  have d4 := b1.cell4
  clear b0 b1 hq
  go_wp2_with fail
  refine (same_ints_t A' C' m' c' q' d' ls ls _ (by unfold maxLen; omega) _ (hl.below hB1) (hl'.below hB1) rfl).mono ?_
  rintro e W2 ⟨rfl, hq⟩
  have hB2 := hB1.trans (hq.below w.heap.size)
  have hQ : ∀ a, W2.cell? a = W1.cell? a := fun a => by obtain ⟨kk, rfl⟩ := hq; rfl
  rw [← hQ] at c0 c1 c2 c3 c4 d0 d1 d2 d3 d4
  clear hq hQ
  go_wp2_with fail
  go_ret
  exact ⟨rfl, hB2⟩
end Go.Proofs.Ytigbknhlmifikaa
