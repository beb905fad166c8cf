/- The reference's Gcd. -/
import Derived.Test.YtmpdoikdadjneaaDoorCUdiv
namespace Go.Proofs.YtmpdoikdadjneaaDoor
open Go.RowKit Go.Shelf Hb Vm Ds Vr

/-- the number whose digits a slice holds -/
def nnum (W : World) (v : Value) : Nat := match v with
  | .slice (some a) n _ => Vm.val 10000 ((List.range n).map fun j => match W.cell? (a.add j) with | some (.int _ u) => u.toNat | _ => 0)
  | _ => 0
theorem nnum_eq {W : World} {B n : Nat} {v : Value} (h : Nl W B v n) : nnum W v = n := by
  obtain ⟨A, c, rfl, hr, -, -⟩ := h
  have h0 : (ds n).length = 0 ↔ n = 0 := digs_nil (by decide)
  cases A with
  | none =>
    by_cases hz : (ds n).length = 0
    · have := h0.1 hz
      exact this.symm
    · obtain ⟨a, e, -⟩ := hr.2 (by simpa using (by omega : 0 < (ds n).length)); cases e
  | some a =>
    unfold nnum
    have e : ((List.range (ds n).length).map fun j => match W.cell? (a.add j) with | some (.int _ u) => u.toNat | _ => 0) = ds n := by
      apply List.ext_getElem (by simp)
      intro j h1 h2
      obtain ⟨a', e, -, hc⟩ := Rd.digit hr h2
      cases e
      rw [List.getElem_map, List.getElem_range, hc]
      rw [List.getD_eq_getElem?_getD, List.getElem?_eq_getElem h2]
      simp
    dsimp only
    rw [e]
    exact ds_val n
def bnum (W : World) (p : Nat) : Nat := match W.cell? ⟨p, 1, none⟩ with
  | some v => nnum W v
  | none => 0
theorem bnum_eq {W : World} {p : Nat} {s : Bool} {A : Option Addr} {n c z : Nat} (h : NB W p s A n c (z : Int)) : bnum W p = z := by
  unfold bnum
  rw [h.cells.2.1]
  exact nnum_eq (Ni.digits h.2)

set_option maxRecDepth 100000 in
set_option maxHeartbeats 8000000 in
theorem ngcd_any (x y : Int) (vx vy : Value) (hlx : (ds x.natAbs).length ≤ 20000) (hly : (ds y.natAbs).length ≤ 20000) (w : World) (hvx : Ni w w.heap.size vx x) (hvy : Ni w w.heap.size vy y) :
    Calls Tryd.prog 42 #[vx, vy] w fun e W' => (∃ u, e = .returned u ∧ Ni W' W'.heap.size u (Nat.gcd x.natAbs y.natAbs : Int)) ∧ Below w.heap.size w W' := by
  obtain ⟨ux, rfl, hx⟩ := hvx
  obtain ⟨uy, rfl, hy⟩ := hvy
  have hx' := hx
  have hy' := hy
  obtain ⟨A, c, rfl, -, -, -⟩ := hx'
  obtain ⟨C, d, rfl, -, -, -⟩ := hy'
  unfold intV
  obtain ⟨X, hX⟩ : ∃ X, X = x.natAbs := ⟨_, rfl⟩
  obtain ⟨Y, hY⟩ : ∃ Y, Y = y.natAbs := ⟨_, rfl⟩
  rw [← hX] at hx hlx ⊢
  rw [← hY] at hy hly ⊢
  obtain ⟨n, hn⟩ : ∃ n, n = (ds X).length := ⟨_, rfl⟩
  obtain ⟨m, hm⟩ : ∃ m, m = (ds Y).length := ⟨_, rfl⟩
  obtain ⟨s, hs⟩ : ∃ s, s = decide (x < 0) := ⟨_, rfl⟩
  obtain ⟨t, ht⟩ : ∃ t, t = decide (y < 0) := ⟨_, rfl⟩
  rw [← hn] at hx ⊢
  rw [← hm] at hy ⊢
  rw [← hs, ← ht]
  have HLX := Lib.hid hlx
  have HLY := Lib.hid hly
  obtain ⟨w3, hw3, b1, b2, b3, bw⟩ := box3n w (.bool s) (.slice A n c) (.bool t) (.slice C m d)
  have hx3 := hx.later bw bw.size
  have hy3 := hy.later bw bw.size
  clear hn hm hs ht hlx hly hx hy hX hY b1
  go_enter Tryd.func42, Tryd.ntmps42
  go_wp2_with fail
  rw [← hw3]
  clear hw3
  refine (normal_n false X _ (X : Int) (by rw [if_neg (by decide)]) w3 hx3).mono ?_
  rintro e W1 ⟨⟨u, rfl, hu⟩, hB1⟩
  obtain ⟨s1, A1, n1, c1, rfl⟩ := hu.form
  have q2 := b2.below hB1 b2.lt
  have q3 := b3.below hB1 b3.lt
  have low1 := bw.trans (hB1.mono bw.size)
  have hy4 := hy3.later hB1 hB1.size
  clear hx3 hy3 b2 b3 bw hB1
  have xa := NB.new hu
  have hBn := (Below.refl W1.heap.size W1).alloc (Nat.le_refl _) (.cells #[.bool s1, .slice A1 n1 c1] 25)
  have lt3 := q3.lt
  replace q2 := q2.below hBn q2.lt
  replace q3 := q3.below hBn q3.lt
  replace low1 := low1.trans (hBn.mono low1.size)
  replace hy4 := hy4.later hBn hBn.size
  have k21 := q2.cell 1 _ rfl
  go_wp2_with fail
  clear k21
  obtain ⟨W2, hW2⟩ : ∃ W2, W2 = W1.alloc (.cells #[.bool s1, .slice A1 n1 c1] 25) := ⟨_, rfl⟩
  rw [← hW2] at xa q2 q3 low1 hy4 ⊢
  clear hW2 hu hBn q2
  obtain ⟨p, hp⟩ : ∃ p, p = W1.heap.size := ⟨_, rfl⟩
  rw [← hp] at xa lt3 ⊢
  clear hp
  refine (normal_n false Y _ (Y : Int) (by rw [if_neg (by decide)]) W2 hy4).mono ?_
  rintro e W3 ⟨⟨u, rfl, hu⟩, hB3⟩
  obtain ⟨s2, A2, n2, c2, rfl⟩ := hu.form
  replace xa := xa.later hB3
  replace q3 := q3.below hB3 q3.lt
  replace low1 := low1.trans (hB3.mono low1.size)
  clear hB3 hy4
  have xb := NB.new hu
  have hBn := (Below.refl W3.heap.size W3).alloc (Nat.le_refl _) (.cells #[.bool s2, .slice A2 n2 c2] 25)
  have ltp := xa.lt
  replace xa := xa.later hBn
  replace q3 := q3.below hBn q3.lt
  replace low1 := low1.trans (hBn.mono low1.size)
  go_wp2_with fail
  obtain ⟨W4, hW4⟩ : ∃ W4, W4 = W3.alloc (.cells #[.bool s2, .slice A2 n2 c2] 25) := ⟨_, rfl⟩
  rw [← hW4] at xa xb q3 low1 ⊢
  clear hW4 hu hBn
  obtain ⟨q, hq⟩ : ∃ q, q = W3.heap.size := ⟨_, rfl⟩
  rw [← hq] at xb ltp ⊢
  clear hq
  go_loopw [17] (fun _ W => ∃ (a b : Nat) (s : Bool) (A : Option Addr) (n c : Nat) (s' : Bool) (A' : Option Addr) (n' c' : Nat), NB W p s A n c (a : Int) ∧ NB W q s' A' n' c' (b : Int) ∧ Hid (Nat.gcd a b = Nat.gcd X Y) ∧ Hid ((ds a).length ≤ 20000 ∧ (ds b).length ≤ 20000) ∧ Row W (w.heap.size + 1 + 1) 25 [.bool false, .slice none 0 0] ∧ Below w.heap.size w W) (fun _ W => bnum W q)
  case atStart => exact ⟨X, Y, s1, A1, n1, c1, s2, A2, n2, c2, xa, xb, Lib.hid rfl, Lib.hid ⟨HLX.out, HLY.out⟩, q3, low1⟩
  case round =>
    clear xa xb q3 low1
    obtain ⟨a, b, s, A, n, c, s', A', n', c', xa, xb, hg, hl, q3, low⟩ := hrel
    have hbn := Lib.hid (bnum_eq xb)
    have hn' : n' = (ds b).length := by
      obtain ⟨u', e', A'', c'', e2, -, -, -⟩ := xb.2
      rw [intV_nat] at e'
      injection e' with e'
      simp at e'
      rw [e2, Int.natAbs_natCast] at e'
      have := e'.2
      injection this
    have hbz : b = 0 ↔ n' = 0 := by rw [hn']; exact (digs_nil (by decide)).symm
    have HBZ := Lib.hid hbz
    clear hn' hbz
    obtain ⟨k20, k21, -, -⟩ := xb.cells
    by_cases hz : n' = 0
    · subst hz
      have hb0 : b = 0 := HBZ.out.2 rfl
      subst hb0
      have hga : Nat.gcd X Y = a := by rw [← hg.out, Nat.gcd_zero_right]
      have HGA := Lib.hid hga
      obtain ⟨k10, k11, -, -⟩ := xa.cells
      have f0 := q3.frozen 0
      have f1 := q3.frozen 1
      have g0 := q3.cell 0 _ rfl
      have g1 := q3.cell 1 _ rfl
      clear hga hg
      go_wp2_with fail
      have bt := But.set2 wr.heap.size (w.heap.size + 1 + 1) wr (.bool s) (.slice A n c)
      exact bodyPost_ret (res_row rfl rfl (q3.set2 _ _) Tryd.underlying25 rfl sizeN) rfl ⟨⟨_, rfl, by rw [HGA.out]; exact (xa.2.but_struct q3 bt).grow bt.size⟩, low.trans (bt.low.mono (by omega))⟩
    · have hz' : (0 : Int) < (n' : Int) := by omega
      have hb0 : b ≠ 0 := fun h => hz (HBZ.out.1 h)
      have HB0 := Lib.hid hb0
      obtain ⟨k10, k11, -, -⟩ := xa.cells
      clear hz hb0
      go_wp2_with fail
      clear k10 k11 k20 k21
      refine (ndiv_any (a : Int) (b : Int) _ _ (by have := HB0.out; omega) (by rw [Int.natAbs_natCast]; exact hl.out.1) (by rw [Int.natAbs_natCast]; exact hl.out.2) wr xa.2 xb.2).mono ?_
      rintro e V1 ⟨⟨vq, vr, rfl, hvq, hvr⟩, hB1⟩
      have em : ((a : Int) % (b : Int)) = ((a % b : Nat) : Int) := (Int.natCast_emod a b).symm
      rw [em] at hvr
      obtain ⟨sq, Aq, nq, cq, rfl⟩ := hvq.form
      obtain ⟨sr, Ar, nr, cr, rfl⟩ := hvr.form
      replace xa := xa.later hB1
      replace xb := xb.later hB1
      replace q3 := q3.below hB1 q3.lt
      replace low := low.trans (hB1.mono low.size)
      clear hB1 em
      have hBn := ((Below.refl V1.heap.size V1).alloc (Nat.le_refl _) (.cells #[.bool sq, .slice Aq nq cq] 25)).alloc (by simp) (.cells #[.bool sr, .slice Ar nr cr] 25)
      have hlr : Hid ((ds b).length ≤ 20000 ∧ (ds (a % b)).length ≤ 20000) := Lib.hid ⟨hl.out.2, by
        have h1 := Nat.mod_lt a (Nat.pos_of_ne_zero HB0.out)
        rcases Nat.lt_or_ge (ds b).length (ds (a % b)).length with h | h
        · have := ds_len h; omega
        · have := hl.out.2; omega⟩
      have HGG : Hid (Hid (Nat.gcd b (a % b) = Nat.gcd X Y)) := Lib.hid (Lib.hid (by rw [← hg.out, Nat.gcd_comm a b, Nat.gcd_rec b a]; exact Nat.gcd_comm _ _))
      have xr : NB ((V1.alloc (.cells #[.bool sq, .slice Aq nq cq] 25)).alloc (.cells #[.bool sr, .slice Ar nr cr] 25)) (V1.heap.size + 1) sr Ar nr cr ((a % b : Nat) : Int) := by
        have hb1 : Below V1.heap.size V1 (V1.alloc (.cells #[.bool sq, .slice Aq nq cq] 25)) := (Below.refl V1.heap.size V1).alloc (Nat.le_refl _) _
        have h1 := hvr.later hb1 hb1.size
        have h2 := NB.new h1
        rw [World.size_alloc] at h2
        exact h2
      have ltq := xb.lt
      have ltpp := xa.lt
      replace xa := xa.later hBn
      replace xb := xb.later hBn
      replace q3 := q3.below hBn q3.lt
      replace low := low.trans (hBn.mono low.size)
      clear hvq hvr hBn
      go_upto_region 5 with (fail)
      obtain ⟨V2, hV2⟩ : ∃ V2, V2 = (V1.alloc (.cells #[.bool sq, .slice Aq nq cq] 25)).alloc (.cells #[.bool sr, .slice Ar nr cr] 25) := ⟨_, rfl⟩
      rw [← hV2] at xa xb xr q3 low ⊢
      clear hV2
      have hne1 : V1.heap.size + 1 ≠ p := by omega
      have hne2 : V1.heap.size + 1 ≠ q := by omega
      -- x = y
      obtain ⟨m0, m1, -, -⟩ := xb.cells
      obtain ⟨m2, m3, m4, m5⟩ := xa.cells
      have bta := But.set2 V2.heap.size p V2 (.bool s') (.slice A' n' c')
      have xa1 := xa.put xb.2
      have xb1 := xb.but xa.1 bta (by omega)
      have xr1 := xr.but xa.1 bta hne1
      have q31 := q3.but bta q3.lt (by omega)
      have low1 := low.trans (bta.low.mono (by omega))
      clear xa xb xr q3 low bta hg hl
      go_upto_region 6 with (fail)
      clear m0 m1 m2 m3 m4 m5
      obtain ⟨V3, hV3⟩ : ∃ V3, V3 = (V2.setCell ⟨p, 0, none⟩ (.bool s')).setCell ⟨p, 1, none⟩ (.slice A' n' c') := ⟨_, rfl⟩
      rw [← hV3] at xa1 xb1 xr1 q31 low1 ⊢
      clear hV3
      -- y = r
      obtain ⟨m0, m1, -, -⟩ := xr1.cells
      obtain ⟨m2, m3, m4, m5⟩ := xb1.cells
      have btb := But.set2 V3.heap.size q V3 (.bool sr) (.slice Ar nr cr)
      have xb2 := xb1.put xr1.2
      have xa2 := xa1.but xb1.1 btb (by omega)
      have q32 := q31.but btb q31.lt (by omega)
      have low2 := low1.trans (btb.low.mono (by omega))
      have HMM := Lib.hid (bnum_eq xb2)
      clear xa1 xb1 xr1 q31 low1 btb
      go_wp2_with fail
      go_roundw
      case rel => exact ⟨b, a % b, s', A', n', c', sr, Ar, nr, cr, xa2, xb2, HGG.out, hlr, q32, low2⟩
      case measure => rw [HMM.out, hbn.out]; exact Nat.mod_lt _ (Nat.pos_of_ne_zero HB0.out)
end Go.Proofs.YtmpdoikdadjneaaDoor
