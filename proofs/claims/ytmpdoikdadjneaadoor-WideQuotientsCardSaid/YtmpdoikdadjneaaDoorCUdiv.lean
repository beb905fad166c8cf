/- The reference's Div. -/
import Derived.Test.YtmpdoikdadjneaaDoorCUdvd
import Derived.Test.YtmpdoikdadjneaaDoorCG
namespace Go.Proofs.YtmpdoikdadjneaaDoor
open Go.RowKit Go.Shelf Hb Vm Ds Vr

theorem box4n (w : World) (a b c d : Value) : ∃ w3, w3 = (((w.alloc (.cells #[a, b] 25)).alloc (.cells #[c, d] 25)).alloc (.cells #[.bool false, .slice none 0 0] 25)).alloc (.cells #[.bool false, .slice none 0 0] 25) ∧
    Row w3 w.heap.size 25 [a, b] ∧ Row w3 (w.heap.size + 1) 25 [c, d] ∧ Row w3 (w.heap.size + 1 + 1) 25 [.bool false, .slice none 0 0] ∧ Row w3 (w.heap.size + 1 + 1 + 1) 25 [.bool false, .slice none 0 0] ∧ Below w.heap.size w w3 := by
  obtain ⟨w2, h2, r1, r2, r3, b⟩ := box3n w a b c d
  refine ⟨_, rfl, ?_, ?_, ?_, ?_, ?_⟩ <;> rw [← h2]
  · exact r1.alloc _
  · exact r2.alloc _
  · exact r3.alloc _
  · have := Row.new w2 25 [.bool false, .slice none 0 0]
    have hs : w2.heap.size = w.heap.size + 1 + 1 + 1 := by rw [h2]; simp
    rw [hs] at this
    exact this
  · exact b.alloc b.size _

theorem Row.new2' (w : World) (t : TypeId) (vs : List Value) : Row (w.alloc (.cells vs.toArray t)) w.heap.size t vs := Row.new w t vs
set_option maxRecDepth 100000 in
set_option maxHeartbeats 8000000 in
theorem ndiv_any (x y : Int) (vx vy : Value) (hy0 : y ≠ 0) (hlx : (ds x.natAbs).length ≤ 20000) (hly : (ds y.natAbs).length ≤ 20000) (w : World) (hvx : Ni w w.heap.size vx x) (hvy : Ni w w.heap.size vy y) :
    Calls Tryd.prog 34 #[vx, vy] w fun e W' => (∃ q r, e = .returned (.tuple #[q, r]) ∧ Ni W' W'.heap.size q (x / y) ∧ Ni W' W'.heap.size r (x % y)) ∧ Below w.heap.size w W' := by
  obtain ⟨ux, rfl, hx⟩ := hvx
  obtain ⟨uy, rfl, hy⟩ := hvy
  have hx' := hx
  have hy' := hy
  obtain ⟨A, c, rfl, -, -, -⟩ := hx'
  obtain ⟨C, d, rfl, -, -, -⟩ := hy'
  unfold intV
  obtain ⟨n, hn⟩ : ∃ n, n = (ds x.natAbs).length := ⟨_, rfl⟩
  obtain ⟨m, hm⟩ : ∃ m, m = (ds y.natAbs).length := ⟨_, rfl⟩
  obtain ⟨s, hs⟩ : ∃ s, s = decide (x < 0) := ⟨_, rfl⟩
  obtain ⟨t, ht⟩ : ∃ t, t = decide (y < 0) := ⟨_, rfl⟩
  rw [← hn] at hx ⊢
  rw [← hm] at hy ⊢
  rw [← hs, ← ht]
  have HLX := Lib.hid hlx
  have HLY := Lib.hid hly
  have HS := Lib.hid hs
  have HT := Lib.hid ht
  have HY0 := Lib.hid hy0
  have HYP : Hid (0 < y.natAbs) := Lib.hid (by omega)
  obtain ⟨w4, hw4, b1, b2, b3, b4, bw⟩ := box4n w (.bool s) (.slice A n c) (.bool t) (.slice C m d)
  have z4 : w4.heap.size = w.heap.size + 1 + 1 + 1 + 1 := by rw [hw4]; simp
  have hx4 := hx.later bw bw.size
  have hy4 := hy.later bw bw.size
  clear hn hm hlx hly hx hy hs ht hy0
  go_enter Tryd.func34, Tryd.ntmps34
  go_wp2_with fail
  rw [← hw4]
  clear hw4
  refine (divided_any _ _ x.natAbs y.natAbs HYP.out HLX.out HLY.out w4 hx4 hy4).mono ?_
  rintro e W1 ⟨⟨u, v, rfl, hu, hv⟩, hB1⟩
  obtain ⟨QA, qk, qc, qs, rfl, hq1, hq2, hq3, hq4, hq5, -⟩ := hu
  have hv' := hv
  obtain ⟨RA, rc, rfl, -, -, -⟩ := hv'
  obtain ⟨rn, hrn⟩ : ∃ rn, rn = (ds (x.natAbs % y.natAbs)).length := ⟨_, rfl⟩
  rw [← hrn] at hv ⊢
  have HRN := Lib.hid hrn
  have c1 := b1.below hB1 b1.lt
  have c2 := b2.below hB1 b2.lt
  have c3 := b3.below hB1 b3.lt
  have c4 := b4.below hB1 b4.lt
  have low1 := bw.trans (hB1.mono bw.size)
  have hy1 := hy4.later hB1 hB1.size
  clear hrn b1 b2 b3 b4 bw hB1 hx4 hy4 z4
  obtain ⟨k10, k20⟩ : W1.cell? ⟨w.heap.size, 0, none⟩ = some (.bool s) ∧ W1.cell? ⟨w.heap.size + 1, 0, none⟩ = some (.bool t) := ⟨c1.cell 0 _ rfl, c2.cell 0 _ rfl⟩
  go_wp2_with fail
  clear k10 k20
  obtain ⟨q0, hq0⟩ : ∃ q0, q0 = x.natAbs / y.natAbs := ⟨_, rfl⟩
  obtain ⟨r0, hr0⟩ : ∃ r0, r0 = x.natAbs % y.natAbs := ⟨_, rfl⟩
  obtain ⟨zq, hzq⟩ : ∃ zq : Int, zq = if (!s == t) = true then -((q0 : Nat) : Int) else ((q0 : Nat) : Int) := ⟨_, rfl⟩
  rw [← hq0] at hq5
  rw [← hr0] at hv HRN
  refine (normal_any (!s == t) QA qk qc qs hq2 hq3 hq4 zq (by rw [hq5]; exact hzq) W1 hq1).mono ?_
  rintro e W2 ⟨⟨u, rfl, hu⟩, hB2⟩
  obtain ⟨s2, A2, n2, c2', rfl⟩ := hu.form
  have d1 := c1.below hB2 c1.lt
  have d2 := c2.below hB2 c2.lt
  have d3 := c3.below hB2 c3.lt
  have d4 := c4.below hB2 c4.lt
  have low2 := low1.trans (hB2.mono low1.size)
  have hv2 := hv.later hB2 hB2.size
  have hy2 := hy1.later hB2 hB2.size
  have HZQ := Lib.hid hzq
  have HQ0 := Lib.hid hq0
  have HR0 := Lib.hid hr0
  clear c1 c2 c3 c4 hB2 low1 hv hy1 hq1 hq2 hq3 hq4 hq5 hzq hq0 hr0
  go_wp2_with fail
  have xq := NB.new hu
  obtain ⟨W3, hW3⟩ : ∃ W3, W3 = W2.alloc (.cells #[.bool s2, .slice A2 n2 c2'] 25) := ⟨_, rfl⟩
  have hB3 : Below W2.heap.size W2 W3 := by rw [hW3]; exact (Below.refl _ _).alloc (Nat.le_refl _) _
  rw [← hW3] at xq ⊢
  replace d1 := d1.below hB3 d1.lt
  have lt4 := d4.lt
  replace d2 := d2.below hB3 d2.lt
  replace d3 := d3.below hB3 d3.lt
  replace d4 := d4.below hB3 d4.lt
  have low3 := low2.trans (hB3.mono low2.size)
  have hv3 := hv2.later hB3 hB3.size
  have hy3 := hy2.later hB3 hB3.size
  clear hW3 hu low2 hv2 hy2 hB3
  obtain ⟨p, hp⟩ : ∃ p, p = W2.heap.size := ⟨_, rfl⟩
  rw [← hp] at xq lt4 ⊢
  clear hp
  refine (normal_n false r0 _ (r0 : Int) (by rw [if_neg (by decide)]) W3 hv3).mono ?_
  rintro e W4 ⟨⟨u, rfl, hu⟩, hB4⟩
  obtain ⟨s3, A3, n3, c3, rfl⟩ := hu.form
  have hn3 : n3 = (ds r0).length ∧ s3 = false := by
    obtain ⟨u', e', A', c', e2, -, -, -⟩ := hu
    rw [intV_nat] at e'
    injection e' with e'
    simp at e'
    rw [e2, Int.natAbs_natCast] at e'
    have := e'.2
    injection this with h1 h2 h3
    exact ⟨h2, e'.1⟩
  replace xq := xq.later hB4
  replace d1 := d1.below hB4 d1.lt
  replace d2 := d2.below hB4 d2.lt
  replace d3 := d3.below hB4 d3.lt
  replace d4 := d4.below hB4 d4.lt
  have low4 := low3.trans (hB4.mono low3.size)
  have hy4 := hy3.later hB4 hB4.size
  have ltp := xq.lt
  clear low3 hB4 hv3 hy3
  have xr := NB.new hu
  have hBx := (Below.refl W4.heap.size W4).alloc (Nat.le_refl _) (.cells #[.bool s3, .slice A3 n3 c3] 25)
  replace xq := xq.later hBx
  replace d1 := d1.below hBx d1.lt
  replace d2 := d2.below hBx d2.lt
  replace d3 := d3.below hBx d3.lt
  replace d4 := d4.below hBx d4.lt
  have low5 := low4.trans (hBx.mono low4.size)
  have hy5 := hy4.later hBx hBx.size
  obtain ⟨k10, -⟩ : (W4.alloc (.cells #[.bool s3, .slice A3 n3 c3] 25)).cell? ⟨w.heap.size, 0, none⟩ = some (.bool s) ∧ True := ⟨d1.cell 0 _ rfl, trivial⟩
  have k20 := d2.cell 0 _ rfl
  have hr0z : r0 = 0 ↔ n3 = 0 := by rw [hn3.1]; exact (digs_nil (by decide)).symm
  have HR0Z := Lib.hid hr0z
  have HN3 := Lib.hid hn3
  clear hn3 hr0z
  by_cases hadj : s = true ∧ 0 < r0
  · obtain ⟨hs1, hrp⟩ := hadj
    subst hs1
    have hn3z : n3 ≠ 0 := fun e => Nat.ne_of_gt hrp (HR0Z.out.2 e)
    have hn30 : (0 : Int) < (n3 : Int) := by omega
    have hrow1 := Row.new2' (W4.alloc (.cells #[.bool s3, .slice A3 n3 c3] 25)) 3 [.int .i64 1]
    go_wp2_with fail
    obtain ⟨U0, hU0⟩ : ∃ U0, U0 = (W4.alloc (.cells #[.bool s3, .slice A3 n3 c3] 25)).alloc (.cells #[.int .i64 1] 3) := ⟨_, rfl⟩
    have hBu : Below (W4.alloc (.cells #[.bool s3, .slice A3 n3 c3] 25)).heap.size (W4.alloc (.cells #[.bool s3, .slice A3 n3 c3] 25)) U0 := by rw [hU0]; exact (Below.refl _ _).alloc (Nat.le_refl _) _
    rw [World.size_alloc, ← hU0] at hrow1
    rw [← hU0]
    have hrd1 : Rd U0 U0.heap.size (some ⟨W4.heap.size + 1, 0, none⟩) 1 [Value.int .i64 1] := (hrow1.rd 1 rfl).mono hrow1.lt
    replace xq := xq.later hBu
    replace xr := xr.later hBu
    replace d2 := d2.below hBu d2.lt
    replace d3 := d3.below hBu d3.lt
    replace d4 := d4.below hBu d4.lt
    replace low5 := low5.trans (hBu.mono low5.size)
    have hy6 := hy5.later hBu hBu.size
    have hne : W4.heap.size + 1 ≤ U0.heap.size := Nat.le_of_lt hrow1.lt
    clear hU0 hrow1 hBu hy5 hy4 d1 k10 k20 low4 hu hBx
    obtain ⟨z1, hz1⟩ : ∃ z1 : Int, z1 = if (!t) = true then -((1 : Nat) : Int) else ((1 : Nat) : Int) := ⟨_, rfl⟩
    refine (normal_any (!t) (some ⟨W4.heap.size + 1, 0, none⟩) 1 1 [1] (Nat.le_refl _) (by decide) (fun y hy => by rw [List.mem_singleton.1 hy]; decide) z1 hz1 U0 hrd1).mono ?_
    rintro e U1 ⟨⟨u, rfl, hu⟩, hBv⟩
    obtain ⟨s6, A6, n6, c6, rfl⟩ := hu.form
    replace xq := xq.later hBv
    replace xr := xr.later hBv
    replace d2 := d2.below hBv d2.lt
    replace d3 := d3.below hBv d3.lt
    replace d4 := d4.below hBv d4.lt
    replace low5 := low5.trans (hBv.mono low5.size)
    have hy7 := hy6.later hBv hBv.size
    have hU1 : W4.heap.size < U1.heap.size := by have := hBv.size; omega
    have HZ1 := Lib.hid hz1
    clear hrd1 hy6 hBv hne hz1
    have hbo := NB.new hu
    have hBw := (Below.refl U1.heap.size U1).alloc (Nat.le_refl _) (.cells #[.bool s6, .slice A6 n6 c6] 25)
    replace xq := xq.later hBw
    replace xr := xr.later hBw
    replace d2 := d2.below hBw d2.lt
    replace d3 := d3.below hBw d3.lt
    replace d4 := d4.below hBw d4.lt
    replace low5 := low5.trans (hBw.mono low5.size)
    replace hy7 := hy7.later hBw hBw.size
    obtain ⟨a0, a1, -, -⟩ := xq.cells
    go_wp2_with fail
    clear a0 a1
    obtain ⟨U2, hU2⟩ : ∃ U2, U2 = U1.alloc (.cells #[.bool s6, .slice A6 n6 c6] 25) := ⟨_, rfl⟩
    rw [← hU2] at xq xr d2 d3 d4 low5 hy7 hbo ⊢
    clear hU2 hu hBw
    have hqsum : Hid (zq + z1 = x / y ∧ ((y.natAbs - r0 : Nat) : Int) = x % y ∧ r0 ≤ y.natAbs) := Lib.hid (by
      have h2 := HS.out
      have hx0 : x < 0 := of_decide_eq_true h2.symm
      have h := div_adj HY0.out hx0 (by rw [← HR0.out]; exact hrp)
      have hl := Nat.mod_lt x.natAbs HYP.out
      rw [← HQ0.out, ← HR0.out] at h
      rw [← HR0.out] at hl
      refine ⟨?_, h.2.symm, by omega⟩
      rw [h.1, HZQ.out, HZ1.out, HT.out, decide_eq_true hx0]
      cases decide (y < 0) <;> simp <;> omega)
    have hlq : (ds zq.natAbs).length ≤ 100000 := by
      have h1 : zq.natAbs = x.natAbs / y.natAbs := by rw [HZQ.out, ← HQ0.out]; split <;> omega
      have h2 : zq.natAbs ≤ x.natAbs := by rw [h1]; exact Nat.div_le_self _ _
      have h3 := HLX.out
      rcases Nat.lt_or_ge (ds x.natAbs).length (ds zq.natAbs).length with h | h
      · have := ds_len h; omega
      · omega
    have hl1 : (ds z1.natAbs).length ≤ 100000 := by
      have h1 : z1.natAbs = 1 := by rw [HZ1.out]; split <;> rfl
      rw [h1]; decide
    have HLQ := Lib.hid hlq
    have HL1 := Lib.hid hl1
    clear hlq hl1
    refine (nadd_any zq z1 _ _ U2 xq.2 hbo.2 HLQ.out HL1.out).mono ?_
    rintro e U3 ⟨⟨u, rfl, hu⟩, hBy⟩
    rw [hqsum.out.1] at hu
    obtain ⟨s7, A7, n7, c7, rfl⟩ := hu.form
    replace xq := xq.later hBy
    replace xr := xr.later hBy
    replace d2 := d2.below hBy d2.lt
    replace d3 := d3.below hBy d3.lt
    replace d4 := d4.below hBy d4.lt
    replace low5 := low5.trans (hBy.mono low5.size)
    have hy8 := hy7.later hBy hBy.size
    clear hbo hBy hy7
    obtain ⟨a0, a1, a2, a3⟩ := xq.cells
    have btq := But.set2 U3.heap.size p U3 (.bool s7) (.slice A7 n7 c7)
    have xq2 := xq.put hu
    have xr2 := xr.but xq.1 btq (by omega)
    have d22 := d2.but btq d2.lt (by omega)
    have d32 := d3.but btq d3.lt (by omega)
    have d42 := d4.but btq d4.lt (by omega)
    have low6 := low5.trans (btq.low.mono (by omega))
    have hy9 := (hy8.but_struct xq.1 btq).later (Below.refl _ _) btq.size
    have m20 := d22.cell 1 _ rfl
    obtain ⟨-, m31, -, -⟩ := xr2.cells
    clear xq xr d2 d3 d4 low5 hu hy8 btq
    go_wp2_with fail
    clear m20 m31 a0 a1 a2 a3
    obtain ⟨U4, hU4⟩ : ∃ U4, U4 = (U3.setCell ⟨p, 0, none⟩ (.bool s7)).setCell ⟨p, 1, none⟩ (.slice A7 n7 c7) := ⟨_, rfl⟩
    rw [← hU4] at xq2 xr2 d22 d32 d42 low6 hy9 ⊢
    clear hU4
    have hnl3 := Ni.digits xr2.2
    refine (minus_n _ _ y.natAbs r0 U4 hy9 hnl3 hqsum.out.2.2 (by have := HLY.out; omega)).mono ?_
    rintro e U5 ⟨⟨v, rfl, hv⟩, hBz⟩
    have xq3 := xq2.later hBz
    have xr3 := xr2.later hBz
    have d33 := d32.below hBz d32.lt
    have d43 := d42.below hBz d42.lt
    have low7 := low6.trans (hBz.mono low6.size)
    clear xq2 xr2 d22 d32 d42 low6 hBz hy9 hnl3
    go_wp2_with fail
    refine (normal_o false (y.natAbs - r0) v (x % y) (by rw [if_neg (by decide), hqsum.out.2.1]) U5 hv).mono ?_
    rintro e U6 ⟨⟨u, rfl, hu⟩, hBa⟩
    obtain ⟨s8, A8, n8, c8, rfl⟩ := hu.form
    have xq4 := xq3.later hBa
    have xr4 := xr3.later hBa
    have d34 := d33.below hBa d33.lt
    have d44 := d43.below hBa d43.lt
    have low8 := low7.trans (hBa.mono low7.size)
    clear xq3 xr3 d33 d43 low7 hBa hv
    obtain ⟨a0, a1, a2, a3⟩ := xr4.cells
    have btr := But.set2 U6.heap.size W4.heap.size U6 (.bool s8) (.slice A8 n8 c8)
    have xr := xr4.put hu
    have xq := xq4.but xr4.1 btr (by omega)
    have d3 := d34.but btr d34.lt (by omega)
    have d4 := d44.but btr d44.lt (by omega)
    have lowV := low8.trans (btr.low.mono (by omega))
    clear xq4 xr4 d34 d44 low8 hu btr
    go_wp2_with fail
    clear a0 a1 a2 a3
    obtain ⟨V, hV⟩ : ∃ V, V = (U6.setCell ⟨W4.heap.size, 0, none⟩ (.bool s8)).setCell ⟨W4.heap.size, 1, none⟩ (.slice A8 n8 c8) := ⟨_, rfl⟩
    rw [← hV] at xq xr d3 d4 lowV ⊢
    clear hV
    have bt3 := But.set2 V.heap.size (w.heap.size + 1 + 1) V (.bool s7) (.slice A7 n7 c7)
    have xr3 := xr.but d3 bt3 (by omega)
    have e3 := d3.set2 (.bool s7) (.slice A7 n7 c7)
    have e4 : Row ((V.setCell ⟨w.heap.size + 1 + 1, 0, none⟩ (.bool s7)).setCell ⟨w.heap.size + 1 + 1, 1, none⟩ (.slice A7 n7 c7)) (w.heap.size + 1 + 1 + 1) 25 [.bool false, .slice none 0 0] := (d4.other _ _ (by omega)).other _ _ (by omega)
    obtain ⟨a0, a1, -, -⟩ := xq.cells
    obtain ⟨r0', r1', -, -⟩ := xr.cells
    obtain ⟨r2', r3', -, -⟩ := xr3.cells
    have f30 := d3.frozen 0
    have h30 := d3.cell 0 _ rfl
    have h31 := d3.cell 1 _ rfl
    have h40 := e4.cell 0 _ rfl
    have h41 := e4.cell 1 _ rfl
    have f31 := d3.frozen 1
    have f40 := d4.frozen 0
    have f41 := d4.frozen 1
    have g40 := e4.frozen 0
    have g41 := e4.frozen 1
    have fq := (xq.2.but_struct d3 bt3).grow bt3.size
    have bt4 := But.set2 ((V.setCell ⟨w.heap.size + 1 + 1, 0, none⟩ (.bool s7)).setCell ⟨w.heap.size + 1 + 1, 1, none⟩ (.slice A7 n7 c7)).heap.size (w.heap.size + 1 + 1 + 1) ((V.setCell ⟨w.heap.size + 1 + 1, 0, none⟩ (.bool s7)).setCell ⟨w.heap.size + 1 + 1, 1, none⟩ (.slice A7 n7 c7)) (.bool s8) (.slice A8 n8 c8)
    have fq2 := (fq.but_struct e4 bt4).grow bt4.size
    have fr2 := (xr3.2.but_struct e4 bt4).grow bt4.size
    have t3 : Row ((((V.setCell ⟨w.heap.size + 1 + 1, 0, none⟩ (.bool s7)).setCell ⟨w.heap.size + 1 + 1, 1, none⟩ (.slice A7 n7 c7)).setCell ⟨w.heap.size + 1 + 1 + 1, 0, none⟩ (.bool s8)).setCell ⟨w.heap.size + 1 + 1 + 1, 1, none⟩ (.slice A8 n8 c8)) (w.heap.size + 1 + 1) 25 [.bool s7, .slice A7 n7 c7] := (e3.other _ _ (by omega)).other _ _ (by omega)
    have t4 := e4.set2 (.bool s8) (.slice A8 n8 c8)
    have lowF := lowV.trans ((bt3.low.mono (by omega)).trans (bt4.low.mono (by omega)))
    clear xq xr xr3 d3 d4 e3 e4 fq bt3 bt4 lowV
    go_region
    all_goals
      go_wp2_with fail
      exact bodyPost_ret (res_row2 rfl rfl rfl t3 t4 Tryd.underlying25 rfl sizeN sizeN) rfl ⟨⟨_, _, rfl, fq2, fr2⟩, lowF.drew⟩
  · have hpl : Hid (zq = x / y ∧ (r0 : Int) = x % y) := Lib.hid (by
      have h := div_plain HY0.out (by
        by_cases h1 : x < 0
        · right
          have h2 := HS.out
          rw [decide_eq_true h1] at h2
          have h3 : ¬ 0 < r0 := fun h => hadj ⟨h2, h⟩
          rw [← HR0.out]; omega
        · left; omega)
      rw [h.1, h.2, HZQ.out, HQ0.out, HR0.out, HS.out, HT.out]
      refine ⟨?_, rfl⟩
      cases decide (x < 0) <;> cases decide (y < 0) <;> rfl)
    have hguard : s = false ∨ (s = true ∧ n3 = 0) := by
      cases s with
      | false => exact .inl rfl
      | true => exact .inr ⟨rfl, HR0Z.out.1 (Nat.eq_zero_of_not_pos fun h => hadj ⟨rfl, h⟩)⟩
    rw [hpl.out.1] at xq
    rw [hpl.out.2] at xr
    clear hadj k20 hy5 d2 hu low4 hy4
    have HD1 := Lib.hid d1
    rcases hguard with rfl | ⟨rfl, rfl⟩
    · skip
      clear d1
      go_wp2_with fail
      obtain ⟨V, hV⟩ : ∃ V, V = W4.alloc (.cells #[.bool s3, .slice A3 n3 c3] 25) := ⟨_, rfl⟩
      rw [← hV] at xq xr d3 d4 low5 ⊢
      clear hV
      have bt3 := But.set2 V.heap.size (w.heap.size + 1 + 1) V (.bool s2) (.slice A2 n2 c2')
      have xr3 := xr.but d3 bt3 (by omega)
      have e3 := d3.set2 (.bool s2) (.slice A2 n2 c2')
      have e4 : Row ((V.setCell ⟨w.heap.size + 1 + 1, 0, none⟩ (.bool s2)).setCell ⟨w.heap.size + 1 + 1, 1, none⟩ (.slice A2 n2 c2')) (w.heap.size + 1 + 1 + 1) 25 [.bool false, .slice none 0 0] := (d4.other _ _ (by omega)).other _ _ (by omega)
      obtain ⟨a0, a1, -, -⟩ := xq.cells
      obtain ⟨r0', r1', -, -⟩ := xr.cells
      obtain ⟨r2', r3', -, -⟩ := xr3.cells
      have f30 := d3.frozen 0
      have h30 := d3.cell 0 _ rfl
      have h31 := d3.cell 1 _ rfl
      have h40 := e4.cell 0 _ rfl
      have h41 := e4.cell 1 _ rfl
      have f31 := d3.frozen 1
      have f40 := d4.frozen 0
      have f41 := d4.frozen 1
      have g40 := e4.frozen 0
      have g41 := e4.frozen 1
      have fq := (xq.2.but_struct d3 bt3).grow bt3.size
      have bt4 := But.set2 ((V.setCell ⟨w.heap.size + 1 + 1, 0, none⟩ (.bool s2)).setCell ⟨w.heap.size + 1 + 1, 1, none⟩ (.slice A2 n2 c2')).heap.size (w.heap.size + 1 + 1 + 1) ((V.setCell ⟨w.heap.size + 1 + 1, 0, none⟩ (.bool s2)).setCell ⟨w.heap.size + 1 + 1, 1, none⟩ (.slice A2 n2 c2')) (.bool s3) (.slice A3 n3 c3)
      have fq2 := (fq.but_struct e4 bt4).grow bt4.size
      have fr2 := (xr3.2.but_struct e4 bt4).grow bt4.size
      have t3 : Row ((((V.setCell ⟨w.heap.size + 1 + 1, 0, none⟩ (.bool s2)).setCell ⟨w.heap.size + 1 + 1, 1, none⟩ (.slice A2 n2 c2')).setCell ⟨w.heap.size + 1 + 1 + 1, 0, none⟩ (.bool s3)).setCell ⟨w.heap.size + 1 + 1 + 1, 1, none⟩ (.slice A3 n3 c3)) (w.heap.size + 1 + 1) 25 [.bool s2, .slice A2 n2 c2'] := (e3.other _ _ (by omega)).other _ _ (by omega)
      have t4 := e4.set2 (.bool s3) (.slice A3 n3 c3)
      have lowF := low5.trans ((bt3.low.mono (by omega)).trans (bt4.low.mono (by omega)))
      clear xq xr xr3 d3 d4 e3 e4 fq bt3 bt4 low5
      go_region
      all_goals
        go_wp2_with fail
        exact bodyPost_ret (res_row2 rfl rfl rfl t3 t4 Tryd.underlying25 rfl sizeN sizeN) rfl ⟨⟨_, _, rfl, fq2, fr2⟩, lowF.drew⟩
    · skip
      clear d1
      go_wp2_with fail
      obtain ⟨V, hV⟩ : ∃ V, V = W4.alloc (.cells #[.bool s3, .slice A3 0 c3] 25) := ⟨_, rfl⟩
      rw [← hV] at xq xr d3 d4 low5 ⊢
      clear hV
      have bt3 := But.set2 V.heap.size (w.heap.size + 1 + 1) V (.bool s2) (.slice A2 n2 c2')
      have xr3 := xr.but d3 bt3 (by omega)
      have e3 := d3.set2 (.bool s2) (.slice A2 n2 c2')
      have e4 : Row ((V.setCell ⟨w.heap.size + 1 + 1, 0, none⟩ (.bool s2)).setCell ⟨w.heap.size + 1 + 1, 1, none⟩ (.slice A2 n2 c2')) (w.heap.size + 1 + 1 + 1) 25 [.bool false, .slice none 0 0] := (d4.other _ _ (by omega)).other _ _ (by omega)
      obtain ⟨a0, a1, -, -⟩ := xq.cells
      obtain ⟨r0', r1', -, -⟩ := xr.cells
      obtain ⟨r2', r3', -, -⟩ := xr3.cells
      have f30 := d3.frozen 0
      have h30 := d3.cell 0 _ rfl
      have h31 := d3.cell 1 _ rfl
      have h40 := e4.cell 0 _ rfl
      have h41 := e4.cell 1 _ rfl
      have f31 := d3.frozen 1
      have f40 := d4.frozen 0
      have f41 := d4.frozen 1
      have g40 := e4.frozen 0
      have g41 := e4.frozen 1
      have fq := (xq.2.but_struct d3 bt3).grow bt3.size
      have bt4 := But.set2 ((V.setCell ⟨w.heap.size + 1 + 1, 0, none⟩ (.bool s2)).setCell ⟨w.heap.size + 1 + 1, 1, none⟩ (.slice A2 n2 c2')).heap.size (w.heap.size + 1 + 1 + 1) ((V.setCell ⟨w.heap.size + 1 + 1, 0, none⟩ (.bool s2)).setCell ⟨w.heap.size + 1 + 1, 1, none⟩ (.slice A2 n2 c2')) (.bool s3) (.slice A3 0 c3)
      have fq2 := (fq.but_struct e4 bt4).grow bt4.size
      have fr2 := (xr3.2.but_struct e4 bt4).grow bt4.size
      have t3 : Row ((((V.setCell ⟨w.heap.size + 1 + 1, 0, none⟩ (.bool s2)).setCell ⟨w.heap.size + 1 + 1, 1, none⟩ (.slice A2 n2 c2')).setCell ⟨w.heap.size + 1 + 1 + 1, 0, none⟩ (.bool s3)).setCell ⟨w.heap.size + 1 + 1 + 1, 1, none⟩ (.slice A3 0 c3)) (w.heap.size + 1 + 1) 25 [.bool s2, .slice A2 n2 c2'] := (e3.other _ _ (by omega)).other _ _ (by omega)
      have t4 := e4.set2 (.bool s3) (.slice A3 0 c3)
      have lowF := low5.trans ((bt3.low.mono (by omega)).trans (bt4.low.mono (by omega)))
      clear xq xr xr3 d3 d4 e3 e4 fq bt3 bt4 low5
      go_region
      all_goals
        go_wp2_with fail
        exact bodyPost_ret (res_row2 rfl rfl rfl t3 t4 Tryd.underlying25 rfl sizeN sizeN) rfl ⟨⟨_, _, rfl, fq2, fr2⟩, lowF.drew⟩
end Go.Proofs.YtmpdoikdadjneaaDoor
