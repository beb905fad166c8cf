/- The reference's Of. -/
import Derived.Test.YtmpdoikdadjneaaDoorCI
import Derived.IntWalk
import Derived.Test.YtmpdoikdadjneaaDoorCG
namespace Go.Proofs.YtmpdoikdadjneaaDoor
open Go.RowKit Go.Shelf Hb Vm Ds Vr

/-- what is left of an int, with its sign -/
def sg (neg : Bool) (k : Nat) : Int := if neg = true then -(k : Int) else (k : Int)

set_option maxRecDepth 100000 in
set_option maxHeartbeats 4000000 in
theorem of_any (z : Int) (hz : -9223372036854775808 ≤ z ∧ z ≤ 9223372036854775807) (w : World) :
    Calls Tryd.prog 23 #[.int .i64 z] w fun e W' => (∃ u, e = .returned u ∧ Ni W' W'.heap.size u z) ∧ Below w.heap.size w W' := by
  obtain ⟨i0, hi, hz0, hz1, hz2⟩ := info_parts infoI'
  obtain ⟨neg, hneg⟩ : ∃ b, b = decide (z < 0) := ⟨_, rfl⟩
  have hzs : z = if neg = true then -(z.natAbs : Int) else (z.natAbs : Int) := by rw [hneg]; exact natAbs_sign z
  obtain ⟨N, hN⟩ : ∃ N, N = z.natAbs := ⟨_, rfl⟩
  rw [← hN] at hzs
  have hNl : N ≤ 9223372036854775808 := by omega
  have hdl : (ds N).length ≤ 5 := by unfold ds; exact digs_len_le (by decide) (by omega)
  have HDL := Lib.hid hdl
  have HZS := Lib.hid hzs
  obtain ⟨w1, hw1⟩ : ∃ w1, w1 = w.alloc (.cells #[.bool false, .slice none 0 0] 25) := ⟨_, rfl⟩
  have b1 : Row w1 w.heap.size 25 [.bool false, .slice none 0 0] := by rw [hw1]; exact Row.new w _ [.bool false, .slice none 0 0]
  have bw : Below w.heap.size w w1 := by rw [hw1]; exact (Below.refl _ w).alloc (Nat.le_refl _) _
  have zw1 : w1.heap.size = w.heap.size + 1 := by rw [hw1]; simp
  have htest : (decide (z < 0)) = neg := hneg.symm
  have hzsg : z = sg neg N := by unfold sg; exact hzs
  have HZG := Lib.hid hzsg
  obtain ⟨hza, hzb⟩ := hz
  clear hneg hN hdl hzs hzsg hNl
  go_enter Tryd.func23, Tryd.ntmps23
  go_wp2_with fail
  rw [← hw1]
  clear hw1
  go_loopw [0, 3] (fun nv dv W => ∃ (v : Int) (k i : Nat) (os : List Nat), nv = .int .i64 v ∧ -9223372036854775808 ≤ v ∧ v ≤ 9223372036854775807 ∧ Hid (v = sg neg k) ∧ W.ownsRow w1.heap.size 3 1 dv i (os.map dw) ∧ Hid (os.length = i) ∧ Hid (Dig 10000 os) ∧ Hid (val 10000 os + 10000 ^ i * k = N) ∧ Hid (i + (ds k).length ≤ 5) ∧ Below w1.heap.size w1 W) (fun nv _ _ => (intOf nv).natAbs)
  case atStart => exact ⟨z, N, 0, [], rfl, hza, hzb, HZG, World.ownsRow_nil _ _ _ _, rfl, Lib.hid (Dig.nil _), Lib.hid (by simp [val_nil]), Lib.hid (by have := HDL.out; omega), Below.refl _ _⟩
  case round =>
    obtain ⟨v, k, i, os, rfl, hva, hvb, hv, hown, hol, hdo, hval, hlen, hB⟩ := hrel
    obtain ⟨OA, oc, rfl⟩ := own_form hown
    have hsz := hB.size
    by_cases hk : k = 0
    · have hv0 : v = 0 := by have := hv.out; rw [hk] at this; rw [this]; unfold sg; split <;> rfl
      subst hv0
      have hvN : Hid (val 10000 os = N) := Lib.hid (by have := hval.out; rw [hk] at this; simpa using this)
      have hrd := Rd.of_own hown
      have hcap := own_cap hown
      clear hv hown hk hval
      go_wp2_with fail
      refine (normal_any neg OA i oc os hcap.1 hcap.2 hdo.out z (by rw [hvN.out]; exact HZS.out) wr hrd).mono ?_
      rintro e W1 ⟨⟨u, rfl, hu⟩, hB1⟩
      obtain ⟨u, rfl, hu⟩ := hu
      have hu' := hu
      obtain ⟨A1, c1, rfl, -, -, -⟩ := hu'
      unfold intV
      have row := (b1.below hB (by omega)).below hB1 (by omega)
      have low := bw.trans ((hB.mono (by omega)).trans (hB1.mono (by omega)))
      have k0 := row.cell 0 _ rfl
      have k1 := row.cell 1 _ rfl
      have f0 := row.frozen 0
      have f1 := row.frozen 1
      obtain ⟨ng, hng⟩ : ∃ ng, ng = (ds z.natAbs).length := ⟨_, rfl⟩
      obtain ⟨sgn, hsg⟩ : ∃ sg, sg = decide (z < 0) := ⟨_, rfl⟩
      rw [← hng] at hu ⊢
      rw [← hsg]
      have HSG := Lib.hid hsg
      clear hng hsg hB hB1 b1
      go_wp2_with fail
      have bt : But W1.heap.size w.heap.size W1 ((W1.setCell ⟨w.heap.size, 0, none⟩ (.bool sgn)).setCell ⟨w.heap.size, 1, none⟩ (.slice A1 ng c1)) := (But.setCell _ _ _ _ _).trans (But.setCell _ _ _ _ _)
      exact bodyPost_ret (res_row rfl rfl (row.set2 _ _) Tryd.underlying25 rfl sizeN) rfl ⟨⟨_, rfl, .slice A1 ng c1, (by rw [HSG.out]; rfl), (hu.but_struct row bt).grow bt.size⟩, low.trans (bt.low.mono (by omega))⟩
    · have hz : (v == 0) = false := beq_eq_false_iff_ne.2 (by have := hv.out; unfold sg at this; split at this <;> omega)
      obtain ⟨r, hr⟩ : ∃ r, r = k % 10000 := ⟨_, rfl⟩
      obtain ⟨q, hq⟩ : ∃ q, q = k / 10000 := ⟨_, rfl⟩
      have hrl : r < 10000 := by omega
      obtain ⟨rv, e1⟩ : ∃ rv, v.tmod 10000 = rv := ⟨_, rfl⟩
      obtain ⟨qv, e2⟩ : ∃ qv, v.tdiv 10000 = qv := ⟨_, rfl⟩
      have t1 : (k : Int).tmod 10000 = (k : Int) % 10000 := Int.tmod_eq_emod_of_nonneg (by omega)
      have t2 : (k : Int).tdiv 10000 = (k : Int) / 10000 := Int.tdiv_eq_ediv_of_nonneg (by omega)
      have hrv : rv = sg neg r := by
        rw [← e1, hv.out, hr]; unfold sg; split
        · rw [Int.neg_tmod]; omega
        · omega
      have hqv : qv = sg neg q := by
        rw [← e2, hv.out, hq]; unfold sg; split
        · rw [Int.neg_tdiv]; omega
        · omega
      have hqb : -9223372036854775808 ≤ qv ∧ qv ≤ 9223372036854775807 ∧ qv.natAbs < v.natAbs := by
        have := hv.out
        unfold sg at this hqv
        split at this <;> rename_i hh <;> simp only [hh, if_true] at hqv <;> omega
      obtain ⟨hq0, hq1, hq2⟩ := hqb
      have HLEN : Hid (i + 1 + (ds q).length ≤ 5) := Lib.hid (by
        have := hlen.out
        rw [show ds k = k % 10000 :: ds (k / 10000) from digs_pos _ (by decide) _ (by omega), List.length_cons] at this
        rw [hq]; omega)
      have hi5 : i ≤ 5 := by have := HLEN.out; omega
      have HVAL : Hid (val 10000 (os ++ [r]) + 10000 ^ (i + 1) * q = N) := Lib.hid (by
        rw [val_snoc, hol.out, Nat.pow_succ, ← hval.out, hr, hq, Nat.add_assoc, Nat.mul_assoc, ← Nat.mul_add, Nat.mod_add_div])
      have HQV := Lib.hid hqv
      have HRV := Lib.hid hrv
      have hrv1 : rv < 0 → -rv = (r : Int) := fun h => by unfold sg at hrv; split at hrv <;> omega
      have hrv2 : ¬ rv < 0 → rv = (r : Int) := fun h => by unfold sg at hrv; split at hrv <;> omega
      have hrb : -10000 < rv ∧ rv < 10000 := by unfold sg at hrv; split at hrv <;> omega
      have H1 := Lib.hid hrv1
      have H2 := Lib.hid hrv2
      obtain ⟨hra, hrb⟩ := hrb
      clear hr hq hqv hrv hrv1 hrv2 t1 t2
      by_cases hn : rv < 0
      · have e3 : -rv = (r : Int) := H1.out hn
        go_wp2_with (at_builtin; refine wpList_append_own _ rfl _ _ 22 rfl w1.heap.size 3 i0 (.int .i64 0) 1 8 Tryd.underlying22 hi hz0 hz1 hz2 rfl (by decide) (.slice OA i oc) i _ rfl (hown.alloc _) ⟨wr.heap.size, 0, none⟩ 1 1 [.int .i64 (r : Int)] rfl rfl (cell_one_new _ _ _) (by simp [Value.oneCell']) (by unfold maxLen; omega) (by omega) (by simp; omega) ?_; intro v' w2 hown' hgrow _)
        go_roundw
        case rel => exact ⟨qv, q, i + 1, os ++ [r], rfl, hq0, hq1, HQV, own_cast hown' rfl (by rw [List.map_append]; rfl), Lib.hid (by rw [List.length_append, hol.out]; rfl), Lib.hid (hdo.out.snoc hrl), HVAL, HLEN, own_grown (hB.alloc (by omega) _) (hown.alloc _) hgrow (by simp; omega)⟩
        case measure => exact hq2
      · obtain rfl := H2.out hn
        go_wp2_with (at_builtin; refine wpList_append_own _ rfl _ _ 22 rfl w1.heap.size 3 i0 (.int .i64 0) 1 8 Tryd.underlying22 hi hz0 hz1 hz2 rfl (by decide) (.slice OA i oc) i _ rfl (hown.alloc _) ⟨wr.heap.size, 0, none⟩ 1 1 [.int .i64 (r : Int)] rfl rfl (cell_one_new _ _ _) (by simp [Value.oneCell']) (by unfold maxLen; omega) (by omega) (by simp; omega) ?_; intro v' w2 hown' hgrow _)
        go_roundw
        case rel => exact ⟨qv, q, i + 1, os ++ [r], rfl, hq0, hq1, HQV, own_cast hown' rfl (by rw [List.map_append]; rfl), Lib.hid (by rw [List.length_append, hol.out]; rfl), Lib.hid (hdo.out.snoc hrl), HVAL, HLEN, own_grown (hB.alloc (by omega) _) (hown.alloc _) hgrow (by simp; omega)⟩
        case measure => exact hq2
end Go.Proofs.YtmpdoikdadjneaaDoor

/- The reference's Mul. -/
namespace Go.Proofs.YtmpdoikdadjneaaDoor
open Go.RowKit Go.Shelf Hb Vm Ds Vr

theorem row_step' (b p q vq vr fy r cy dg c2 t vq' : Nat) (h1 : dg + b * c2 = fy + r + cy) (h2 : vq' + p * r = vq + p * dg) (h : vq + p * cy = vr + t) (hq : q = p * fy) : vq' + p * b * c2 = vr + (t + q) := by
  have e1 : p * (dg + b * c2) = p * (fy + r + cy) := by rw [h1]
  rw [Nat.mul_add, Nat.mul_add, Nat.mul_add, ← Nat.mul_assoc] at e1
  omega
def mkN (n : Nat) : Obj := .cells ((List.replicate n 0).map dw).toArray 3
theorem makeN (n : Nat) (hn : n ≤ 1000000) (W : World) : Sem.run Tryd.prog (Instr.makeSlice 22 (.int .i64 (n : Int)) (.int .i64 (n : Int))) W = .ok (.slice (some ⟨W.heap.size, 0, none⟩) n n) (W.alloc (mkN n)) := by
  obtain ⟨i0, hi, hz0, hz1, hz2⟩ := info_parts infoI'
  have h := run_make (P := Tryd.prog) W 22 3 i0 _ Tryd.underlying22 hi hz0 .i64 .i64 n n (by omega) (Int.le_refl _) (by rw [hz2]; omega) (by omega)
  rw [hz1] at h
  have e : madeCells #[Value.int .i64 0] n = ((List.replicate n 0).map dw).toArray := by rw [← zeros_map n dw]; rfl
  simp only [Int.toNat_natCast, Nat.mul_one, Value.cells] at h
  rw [e] at h
  exact h
theorem mkN_row (n : Nat) (W : World) : Row (W.alloc (mkN n)) W.heap.size 3 ((List.replicate n 0).map dw) := World.alloc_heap_new W _
theorem mkN_below (n : Nat) (W : World) : Below W.heap.size W (W.alloc (mkN n)) := (Below.refl _ W).alloc (Nat.le_refl _) _

set_option maxRecDepth 100000 in
set_option maxHeartbeats 4000000 in
theorem nmul_any (x y : Int) (vx vy : Value) (w : World) (hvx : Ni w w.heap.size vx x) (hvy : Ni w w.heap.size vy y) (hlx : (ds x.natAbs).length ≤ 100000) (hly : (ds y.natAbs).length ≤ 100000) :
    Calls Tryd.prog 32 #[vx, vy] w fun e W' => (∃ u, e = .returned u ∧ Ni W' W'.heap.size u (x * y)) ∧ Below w.heap.size w W' := by
  obtain ⟨ux, rfl, hx⟩ := hvx
  obtain ⟨uy, rfl, hy⟩ := hvy
  obtain ⟨A, c, rfl, hrx, hc1, hc2⟩ := hx
  obtain ⟨C, d, rfl, hry, hd1, hd2⟩ := hy
  unfold intV
  obtain ⟨xs, hxs⟩ : ∃ xs, xs = ds x.natAbs := ⟨_, rfl⟩
  obtain ⟨ys, hys⟩ : ∃ ys, ys = ds y.natAbs := ⟨_, rfl⟩
  have hdx : Dig 10000 xs := by rw [hxs]; exact ds_dig _
  have hdy : Dig 10000 ys := by rw [hys]; exact ds_dig _
  have hvx : val 10000 xs = x.natAbs := by rw [hxs]; exact ds_val _
  have hvy : val 10000 ys = y.natAbs := by rw [hys]; exact ds_val _
  rw [← hxs] at hrx hc1 hlx ⊢
  rw [← hys] at hry hd1 hly ⊢
  obtain ⟨n, hn⟩ : ∃ n, n = xs.length := ⟨_, rfl⟩
  obtain ⟨m, hm⟩ : ∃ m, m = ys.length := ⟨_, rfl⟩
  rw [← hn] at hrx hc1 hlx ⊢
  rw [← hm] at hry hd1 hly ⊢
  obtain ⟨s, hs⟩ : ∃ s, s = decide (x < 0) := ⟨_, rfl⟩
  obtain ⟨t, ht⟩ : ∃ t, t = decide (y < 0) := ⟨_, rfl⟩
  rw [← hs, ← ht]
  obtain ⟨z, hz⟩ : ∃ z, z = x * y := ⟨_, rfl⟩
  rw [← hz]
  have hzs : Hid (z = if (s != t) = true then -((val 10000 xs * val 10000 ys : Nat) : Int) else ((val 10000 xs * val 10000 ys : Nat) : Int)) := Lib.hid (by
    rw [hz, hvx, hvy]
    have e1 := natAbs_sign x
    have e2 := natAbs_sign y
    rw [← hs] at e1
    rw [← ht] at e2
    generalize x.natAbs = a at *
    generalize y.natAbs = b at *
    cases s <;> cases t <;> simp at e1 e2 <;> simp [e1, e2, Int.natCast_mul, Int.neg_mul, Int.mul_neg, Int.neg_neg])
  have HX := Lib.hid hn.symm
  have HY := Lib.hid hm.symm
  have hc2' := hc2
  have hd2' := hd2
  obtain ⟨w3, hw3, b1, b2, b3, bw⟩ := box3n w (.bool s) (.slice A n c) (.bool t) (.slice C m d)
  have k10 := b1.cell 0 _ rfl
  have k11 := b1.cell 1 _ rfl
  have k20 := b2.cell 0 _ rfl
  have k21 := b2.cell 1 _ rfl
  have z3 : w3.heap.size = w.heap.size + 1 + 1 + 1 := by rw [hw3]; simp
  have hrx3 := hrx.later bw (Nat.le_refl _)
  have hry3 := hry.later bw (Nat.le_refl _)
  have mkn : Sem.run Tryd.prog (Instr.makeSlice 22 (.int .i64 ((n : Int) + m)) (.int .i64 ((n : Int) + m))) w3 = .ok (.slice (some ⟨w3.heap.size, 0, none⟩) (n + m) (n + m)) (w3.alloc (mkN (n + m))) := makeN (n + m) (by omega) w3
  have r1 := mkN_row (n + m) w3
  have bm := mkN_below (n + m) w3
  obtain ⟨w4, hw4⟩ : ∃ w4, w4 = w3.alloc (mkN (n + m)) := ⟨_, rfl⟩
  rw [← hw4] at mkn r1 bm
  obtain ⟨G, hG⟩ : ∃ G, G = w3.heap.size := ⟨_, rfl⟩
  rw [← hG] at mkn r1 bm
  have c1 := b1.below bm (by omega)
  have c2 := b2.below bm (by omega)
  have c3 := b3.below bm (by omega)
  have hB4 : Below w.heap.size w w4 := bw.trans (bm.mono (by omega))
  have hGw : w.heap.size + 1 + 1 < G := by omega
  clear hw4 hvx hvy hn hm hxs hys hs ht hz hc2' hd2' hc1 hd1 hc2 hd2 hG z3
  go_enter Tryd.func32, Tryd.ntmps32
  go_wp2_with fail
  rw [← hw3]
  clear hw3
  rw [mkn]
  have HZS := hzs
  clear hzs
  have HDX := Lib.hid hdx
  have HDY := Lib.hid hdy
  clear hdx hdy
  go_wp2_with fail
  go_loopw [6] (fun iv W => ∃ (i : Nat) (rs : List Nat), i ≤ n ∧ iv = .int .i64 i ∧ Hid (rs.length = n + m) ∧ Hid (∀ j, i + m ≤ j → rs.getD j 0 = 0) ∧ Row W G 3 (rs.map dw) ∧ But w4.heap.size G w4 W ∧ Hid (Dig 10000 rs) ∧ Hid (val 10000 rs = vpre 10000 xs i * val 10000 ys)) (fun i _ => n - (intOf i).toNat)
  case atStart => exact ⟨0, List.replicate (n + m) 0, Nat.zero_le _, rfl, Lib.hid (List.length_replicate ..), Lib.hid (fun j _ => by rw [List.getD_eq_getElem?_getD, List.getElem?_replicate]; split <;> rfl), r1, But.refl _ _ _, Lib.hid (Dig.zeros (by decide) _), Lib.hid (by rw [val_zeros]; simp [vpre])⟩
  case round =>
    obtain ⟨i, rs, hi, rfl, HRL, HRZ, hrow, hbt, HDR, HV⟩ := hrel
    obtain ⟨wo, hwo⟩ : ∃ wo : World, wo = wr := ⟨_, rfl⟩
    have hG4 := r1.lt
    have d1 := c1.but hbt (by omega) (by omega)
    have d2 := c2.but hbt (by omega) (by omega)
    have d3 := c3.but hbt (by omega) (by omega)
    have hBo : Below w.heap.size w wr := hB4.trans (hbt.low.mono (by omega))
    have k11' := d1.cell 1 _ rfl
    have k21' := d2.cell 1 _ rfl
    have k10' := d1.cell 0 _ rfl
    have k20' := d2.cell 0 _ rfl
    have hgl := hrow.lt
    by_cases hlt : i < n
    · have hlt' : (i : Int) < (n : Int) := by omega
      obtain ⟨ax, rfl, hbx, hcx⟩ := Rd.digit (hrx.below hBo) hlt
      obtain ⟨f, hf⟩ : ∃ f, f = xs.getD i 0 := ⟨_, rfl⟩
      have hfl : f < 10000 := by rw [hf]; exact HDX.out.get (by decide) i
      rw [← hf] at hcx
      have HF := Lib.hid hf
      clear hf
      go_wp2_with fail
      rw [← hwo]
      rw [← hwo] at d1 d2 d3 hBo hbt hrow
      clear k11' k21' k10' k20' hwo hcx
      go_loopw [7, 8] (fun cv jv V => ∃ (j cy : Nat) (qs : List Nat), j ≤ m ∧ jv = .int .i64 j ∧ cv = .int .i64 cy ∧ Hid (qs.length = n + m) ∧ cy < 10000 ∧ Hid (∀ t, i + j ≤ t → qs.getD t 0 = rs.getD t 0) ∧ Row V G 3 (qs.map dw) ∧ But w4.heap.size G w4 V ∧ Hid (Dig 10000 qs) ∧ Hid (val 10000 qs + 10000 ^ (i + j) * cy = val 10000 rs + 10000 ^ i * (f * vpre 10000 ys j))) (fun _ j _ => m - (intOf j).toNat)
      case atStart => exact ⟨0, 0, rs, Nat.zero_le _, rfl, rfl, HRL, by decide, Lib.hid (fun t _ => rfl), hrow, hbt, HDR, Lib.hid (by simp [vpre])⟩
      case round =>
        clear hrow hbt d1 d2 d3 hBo hgl
        obtain ⟨j, cy, qs, hj, rfl, rfl, HQL, hcy, HQ, hrow, hbt, HDQ, HI⟩ := hrel
        have d1 := c1.but hbt (by omega) (by omega)
        have d2 := c2.but hbt (by omega) (by omega)
        have hBo : Below w.heap.size w wr := hB4.trans (hbt.low.mono (by omega))
        have k11' := d1.cell 1 _ rfl
        have k21' := d2.cell 1 _ rfl
        by_cases hjm : j < m
        · have hjm' : (j : Int) < (m : Int) := by omega
          obtain ⟨a1, ea, hbx, hcx⟩ := Rd.digit (hrx.below hBo) hlt
          obtain rfl : ax = a1 := Option.some.inj ea
          rw [← HF.out] at hcx
          obtain ⟨ay, rfl, hby, hcy'⟩ := Rd.digit (hry.below hBo) hjm
          obtain ⟨y, hy'⟩ : ∃ y, y = ys.getD j 0 := ⟨_, rfl⟩
          have hyl : y < 10000 := by rw [hy']; exact HDY.out.get (by decide) j
          rw [← hy'] at hcy'
          have HYJ := Lib.hid hy'
          clear hy'
          have hcr := hrow.read dw (k := i + j) (by rw [HQL.out]; omega)
          obtain ⟨r, hr⟩ : ∃ r, r = qs.getD (i + j) 0 := ⟨_, rfl⟩
          have hrl : r < 10000 := by rw [hr]; exact HDQ.out.get (by decide) _
          rw [← hr] at hcr
          unfold dw at hcr
          have HR := Lib.hid hr
          clear hr
          obtain ⟨p, hp⟩ : ∃ p, p = f * y := ⟨_, rfl⟩
          have hpe : (f : Int) * (y : Int) = (p : Int) := by rw [hp, Int.natCast_mul]
          have hpl : p ≤ 9999 * 9999 := by rw [hp]; exact Nat.mul_le_mul (by omega) (by omega)
          have HP := Lib.hid hp
          obtain ⟨dg, hdg⟩ : ∃ dg, dg = (r + p + cy) % 10000 := ⟨_, rfl⟩
          obtain ⟨c2', hc2'⟩ : ∃ c2, c2 = (r + p + cy) / 10000 := ⟨_, rfl⟩
          have q1 : ((r : Int) + p + cy) % 10000 = (dg : Int) := by omega
          have q2 : ((r : Int) + p + cy) / 10000 = (c2' : Int) := by omega
          have hdl : dg < 10000 := by omega
          have hcl : c2' < 10000 := by omega
          have HS : Hid (dg + 10000 * c2' = p + r + cy) := Lib.hid (by omega)
          have ib0 : (0 : Int) ≤ (i : Int) + j := by omega
          have ib1 : (i : Int) + j < (n : Int) + m := by omega
          clear hp hdg hc2' ea
          go_wp2_with fail
          go_quiet (fail)
          obtain ⟨W2, hW2⟩ : ∃ W2, W2 = wr.drewN nq := ⟨_, rfl⟩
          have hrow2 : Row W2 G 3 (qs.map dw) := by rw [hW2]; exact hrow
          have hbt2 : But w4.heap.size G w4 W2 := by rw [hW2]; exact hbt.trans (But.of_below (below_drewN (Below.refl wr.heap.size wr) nq) (Nat.le_of_lt hrow.lt)|>.mono (by have := hbt.size; omega))
          rw [← hW2]
          have f4 := hrow2.frozen (i + j)
          have c4 := hrow2.read dw (k := i + j) (by rw [HQL.out]; omega)
          have r5 := hrow2.put dw (k := i + j) dg
          have b5 : But w4.heap.size G w4 (W2.setCell ⟨G, i + j, none⟩ (dw dg)) := hbt2.trans (But.setCell _ _ _ _ _)
          unfold dw at r5 b5 c4
          clear hW2 hrow hbt hcx hcy' hcr k11' k21' d1 d2 hBo
          go_wp2_with fail
          go_roundw
          case rel =>
            refine ⟨j + 1, c2', qs.set (i + j) dg, by omega, by go_num, by go_num, Lib.hid (by rw [List.length_set, HQL.out]), hcl, Lib.hid (fun t ht => by rw [getD_set_ne _ _ _ _ (by omega), HQ.out t (by omega)]), r5, b5, Lib.hid (HDQ.out.set _ hdl), Lib.hid ?_⟩
            have h2 := val_set 10000 qs (i + j) dg (by rw [HQL.out]; omega)
            have h3 := row_step' 10000 (10000 ^ (i + j)) (10000 ^ (i + j) * p) _ _ p r cy dg c2' _ _ HS.out (by rw [HR.out]; exact h2) HI.out rfl
            rw [← Nat.add_assoc, Nat.pow_succ, h3, vpre, HP.out, ← HYJ.out, Nat.pow_add, Nat.mul_add, Nat.mul_add]
            congr 2
            rw [Nat.mul_assoc, Nat.mul_left_comm (10000 ^ j) f y]
          case measure => simp [intOf]; omega
        · obtain rfl : m = j := by omega
          have hjm' : ¬ (m : Int) < (m : Int) := by omega
          have hcr := hrow.read dw (k := i + m) (by rw [HQL.out]; omega)
          have h0 : qs.getD (i + m) 0 = 0 := by rw [HQ.out _ (Nat.le_refl _), HRZ.out _ (Nat.le_refl _)]
          have H0 := Lib.hid h0
          clear h0
          have ib0 : (0 : Int) ≤ (i : Int) + m := by omega
          have ib1 : (i : Int) + m < (n : Int) + m := by omega
          have f4 := hrow.frozen (i + m)
          have r5 := hrow.put dw (k := i + m) cy
          have b5 : But w4.heap.size G w4 (wr.setCell ⟨G, i + m, none⟩ (dw cy)) := hbt.trans (But.setCell _ _ _ _ _)
          unfold dw at r5 b5 hcr
          clear hrow hbt d1 d2 hBo
          go_wp2_with fail
          go_roundw
          case rel =>
            refine ⟨i + 1, qs.set (i + m) cy, by omega, by go_num, Lib.hid (by rw [List.length_set, HQL.out]), Lib.hid (fun t ht => by rw [getD_set_ne _ _ _ _ (by omega), HQ.out t (by omega), HRZ.out t (by omega)]), r5, b5, Lib.hid (HDQ.out.set _ hcy), Lib.hid ?_⟩
            have h2 := val_set 10000 qs (i + m) cy (by rw [HQL.out]; omega)
            rw [H0.out, Nat.mul_zero, Nat.add_zero] at h2
            rw [h2, HI.out, HV.out, vpre, vpre_full _ ys m (by rw [HY.out]; exact Nat.le_refl _), ← HF.out, Nat.add_mul, Nat.mul_assoc]
          case measure => simp [intOf]; omega
    · obtain rfl : n = i := by omega
      have hlt' : ¬ (n : Int) < (n : Int) := by omega
      have hrd : Rd wr wr.heap.size (some ⟨G, 0, none⟩) (n + m) (rs.map dw) := (hrow.rd (n + m) (by rw [List.length_map, HRL.out])).mono hrow.lt
      have hE : z = if (s != t) = true then -(val 10000 rs : Int) else (val 10000 rs : Int) := by
        rw [HZS.out, HV.out, vpre_full _ xs n (by rw [HX.out]; exact Nat.le_refl _)]
      have HE := Lib.hid hE
      have hcapm : n + m ≤ maxLen := by unfold maxLen; omega
      have hbn : (s != t) = (s ^^ t) := bool_ne s t
      have HBN := Lib.hid hbn
      clear hE hlt hbn
      go_wp2_with fail
      refine (normal_any (!s == t) (some ⟨G, 0, none⟩) (n + m) (n + m) rs (Nat.le_refl _) hcapm HDR.out z (by rw [HE.out]; cases s <;> cases t <;> rfl) wr hrd).mono ?_
      rintro e W1 ⟨⟨u, rfl, hu⟩, hB1⟩
      obtain ⟨u, rfl, hu⟩ := hu
      have hu' := hu
      obtain ⟨A1, cc, rfl, -, -, -⟩ := hu'
      unfold intV
      have row := d3.below hB1 d3.lt
      have low := hBo.trans (hB1.mono (by have := hBo.size; omega))
      have q0 := row.cell 0 _ rfl
      have q1 := row.cell 1 _ rfl
      have f0 := row.frozen 0
      have f1 := row.frozen 1
      obtain ⟨ng, hng⟩ : ∃ ng, ng = (ds z.natAbs).length := ⟨_, rfl⟩
      obtain ⟨sgn, hsg⟩ : ∃ sg, sg = decide (z < 0) := ⟨_, rfl⟩
      rw [← hng] at hu ⊢
      rw [← hsg]
      have HSG := Lib.hid hsg
      clear hng hsg hB1 hBo d1 d2 d3 hbt hrow hrd
      go_wp2_with fail
      have bt : But W1.heap.size (w.heap.size + 1 + 1) W1 ((W1.setCell ⟨w.heap.size + 1 + 1, 0, none⟩ (.bool sgn)).setCell ⟨w.heap.size + 1 + 1, 1, none⟩ (.slice A1 ng cc)) := (But.setCell _ _ _ _ _).trans (But.setCell _ _ _ _ _)
      exact bodyPost_ret (res_row rfl rfl (row.set2 _ _) Tryd.underlying25 rfl sizeN) rfl ⟨⟨_, rfl, .slice A1 ng cc, (by rw [HSG.out]; rfl), (hu.but_struct row bt).grow bt.size⟩, low.trans (bt.low.mono (by omega))⟩
end Go.Proofs.YtmpdoikdadjneaaDoor

/- Boxes that hold integers, of the reference and of the package. -/
namespace Go.Proofs.YtmpdoikdadjneaaDoor
open Go.RowKit Go.Shelf Hb Vm Ds Vr

theorem Ni.but_struct {W W' : World} {B g : Nat} {v : Value} {z : Int} {t : TypeId} {p : Bool} {q : Option Addr} {r s : Nat} (hr : Ni W B v z) (h : Row W g t [.bool p, .slice q r s]) (hb : But B g W W') : Ni W' B v z :=
  let ⟨u, e, hu⟩ := hr; ⟨u, e, hu.but_struct h hb⟩
theorem Ni.grow {W : World} {B B' : Nat} {v : Value} {z : Int} (h : Ni W B v z) (hB : B ≤ B') : Ni W B' v z := h.later (Below.refl _ _) hB
theorem Ni.form {W : World} {B : Nat} {v : Value} {z : Int} (h : Ni W B v z) : ∃ s A n c, v = .agg #[.bool s, .slice A n c] := by
  obtain ⟨u, rfl, A, c, rfl, -, -, -⟩ := h
  exact ⟨_, _, _, _, rfl⟩
theorem Wi.form {W : World} {B : Nat} {v : Value} {z : Int} (h : Wi W B v z) : ∃ s A n c, v = .agg #[.bool s, .slice A n c] := by
  obtain ⟨u, rfl, A, c, rfl, -, -, -⟩ := h
  exact ⟨_, _, _, _, rfl⟩
theorem Wi.grow {W : World} {B B' : Nat} {v : Value} {z : Int} (h : Wi W B v z) (hB : B ≤ B') : Wi W B' v z := h.later (Below.refl _ _) hB

/-- block p holds an integer of the reference -/
def NB (W : World) (p : Nat) (s : Bool) (A : Option Addr) (n c : Nat) (z : Int) : Prop := Row W p 25 [.bool s, .slice A n c] ∧ Ni W W.heap.size (.agg #[.bool s, .slice A n c]) z
/-- block p holds an integer of the package -/
def WB (W : World) (p : Nat) (s : Bool) (A : Option Addr) (n c : Nat) (z : Int) : Prop := Row W p 33 [.bool s, .slice A n c] ∧ Wi W W.heap.size (.agg #[.bool s, .slice A n c]) z
section
variable {W W' : World} {p q : Nat} {s s' : Bool} {A A' : Option Addr} {n n' c c' : Nat} {z z' : Int} {t : TypeId}
theorem NB.lt (h : NB W p s A n c z) : p < W.heap.size := h.1.lt
theorem WB.lt (h : WB W p s A n c z) : p < W.heap.size := h.1.lt
theorem NB.later (h : NB W p s A n c z) (hb : Below W.heap.size W W') : NB W' p s A n c z := ⟨h.1.below hb h.1.lt, h.2.later hb hb.size⟩
theorem WB.later (h : WB W p s A n c z) (hb : Below W.heap.size W W') : WB W' p s A n c z := ⟨h.1.below hb h.1.lt, h.2.later hb hb.size⟩
theorem NB.but (h : NB W p s A n c z) {a : Bool} {b : Option Addr} {d e : Nat} (hr : Row W q t [.bool a, .slice b d e]) (hb : But W.heap.size q W W') (hpq : p ≠ q) : NB W' p s A n c z := ⟨h.1.but hb h.1.lt hpq, (h.2.but_struct hr hb).grow hb.size⟩
theorem WB.but (h : WB W p s A n c z) {a : Bool} {b : Option Addr} {d e : Nat} (hr : Row W q t [.bool a, .slice b d e]) (hb : But W.heap.size q W W') (hpq : p ≠ q) : WB W' p s A n c z := ⟨h.1.but hb h.1.lt hpq, (h.2.but_struct hr hb).grow hb.size⟩
theorem But.set2 (B g : Nat) (W : World) (x y : Value) : But B g W ((W.setCell ⟨g, 0, none⟩ x).setCell ⟨g, 1, none⟩ y) := (But.setCell _ _ _ _ _).trans (But.setCell _ _ _ _ _)
/-- a value is stored in a box -/
theorem NB.put (h : NB W p s A n c z) (hv : Ni W W.heap.size (.agg #[.bool s', .slice A' n' c']) z') : NB ((W.setCell ⟨p, 0, none⟩ (.bool s')).setCell ⟨p, 1, none⟩ (.slice A' n' c')) p s' A' n' c' z' :=
  ⟨h.1.set2 _ _, (hv.but_struct h.1 (But.set2 _ _ _ _ _)).grow (But.set2 W.heap.size p W _ _).size⟩
theorem WB.put (h : WB W p s A n c z) (hv : Wi W W.heap.size (.agg #[.bool s', .slice A' n' c']) z') : WB ((W.setCell ⟨p, 0, none⟩ (.bool s')).setCell ⟨p, 1, none⟩ (.slice A' n' c')) p s' A' n' c' z' :=
  ⟨h.1.set2 _ _, (hv.but_struct h.1 (But.set2 _ _ _ _ _)).grow (But.set2 W.heap.size p W _ _).size⟩
/-- a new box -/
theorem NB.new (hv : Ni W W.heap.size (.agg #[.bool s', .slice A' n' c']) z') : NB (W.alloc (.cells #[.bool s', .slice A' n' c'] 25)) W.heap.size s' A' n' c' z' :=
  ⟨Row.new W _ [.bool s', .slice A' n' c'], hv.later ((Below.refl _ W).alloc (Nat.le_refl _) _) (by simp)⟩
theorem WB.new (hv : Wi W W.heap.size (.agg #[.bool s', .slice A' n' c']) z') : WB (W.alloc (.cells #[.bool s', .slice A' n' c'] 33)) W.heap.size s' A' n' c' z' :=
  ⟨Row.new W _ [.bool s', .slice A' n' c'], hv.later ((Below.refl _ W).alloc (Nat.le_refl _) _) (by simp)⟩
theorem NB.cells (h : NB W p s A n c z) : W.cell? ⟨p, 0, none⟩ = some (.bool s) ∧ W.cell? ⟨p, 1, none⟩ = some (.slice A n c) ∧ W.frozen? ⟨p, 0, none⟩ = false ∧ W.frozen? ⟨p, 1, none⟩ = false :=
  ⟨h.1.cell 0 _ rfl, h.1.cell 1 _ rfl, h.1.frozen 0, h.1.frozen 1⟩
theorem WB.cells (h : WB W p s A n c z) : W.cell? ⟨p, 0, none⟩ = some (.bool s) ∧ W.cell? ⟨p, 1, none⟩ = some (.slice A n c) ∧ W.frozen? ⟨p, 0, none⟩ = false ∧ W.frozen? ⟨p, 1, none⟩ = false :=
  ⟨h.1.cell 0 _ rfl, h.1.cell 1 _ rfl, h.1.frozen 0, h.1.frozen 1⟩
end
theorem Ni.zero (W : World) (B : Nat) : Ni W B (.agg #[.bool false, .slice none 0 0]) 0 := ⟨_, rfl, Nl.nil _ _⟩
theorem Wi.zero (W : World) (B : Nat) : Wi W B (.agg #[.bool false, .slice none 0 0]) 0 := ⟨_, rfl, Wl.nil _ _⟩
theorem ds_two {z : Int} {k : Nat} (h : Sm z k) : (ds z.natAbs).length ≤ k := digs_len_two (by decide) h
theorem ws_two {z : Int} {k : Nat} (h : Sm z k) : (ws z.natAbs).length ≤ k := digs_len_two (by decide) h
theorem sm_pow (b k : Nat) (hb : b = 2) : Sm ((b ^ k : Nat) : Int) (k + 1) := by
  unfold Sm
  rw [Int.natAbs_natCast, hb]
  exact Nat.pow_lt_pow_right (by decide) (by omega)
end Go.Proofs.YtmpdoikdadjneaaDoor

/- The reference's Power. -/
namespace Go.Proofs.YtmpdoikdadjneaaDoor
open Go.RowKit Go.Shelf Hb Vm Ds Vr

/-- the steps of the square-and-multiply, the base a variable -/
theorem pow_odd (i j k K : Nat) (h : i + j * k = K) (hk : k % 2 = 1) : (i + j) + (j + j) * (k / 2) = K := by
  have e : k = 2 * (k / 2) + 1 := by omega
  generalize k / 2 = q at *
  subst e
  rw [Nat.mul_add, Nat.mul_one, ← Nat.mul_assoc, Nat.mul_two] at h
  omega
theorem pow_even (i j k K : Nat) (h : i + j * k = K) (hk : k % 2 ≠ 1) : i + (j + j) * (k / 2) = K := by
  have e : k = 2 * (k / 2) := by omega
  generalize k / 2 = q at *
  subst e
  rw [← Nat.mul_assoc, Nat.mul_two] at h
  omega

set_option maxRecDepth 100000 in
set_option maxHeartbeats 4000000 in
theorem power_any (b : Nat) (hb2 : b = 2) (K : Nat) (Z : Int) (hZ : Z = (K : Int)) (hK : K ≤ 20000) (w : World) :
    Calls Tryd.prog 46 #[.int .i64 Z] w fun e W' => (∃ u, e = .returned u ∧ Ni W' W'.heap.size u ((b ^ K : Nat) : Int)) ∧ Below w.heap.size w W' := by
  subst hZ
  have HB := Lib.hid hb2
  clear hb2
  go_enter Tryd.func46, Tryd.ntmps46
  obtain ⟨w1, hw1⟩ : ∃ w1, w1 = w.alloc (.cells #[.bool false, .slice none 0 0] 25) := ⟨_, rfl⟩
  have b1 : Row w1 w.heap.size 25 [.bool false, .slice none 0 0] := by rw [hw1]; exact Row.new w _ [.bool false, .slice none 0 0]
  have bw : Below w.heap.size w w1 := by rw [hw1]; exact (Below.refl _ w).alloc (Nat.le_refl _) _
  have z1 : w1.heap.size = w.heap.size + 1 := by rw [hw1]; simp
  go_wp2_with fail
  rw [← hw1]
  clear hw1
  refine (of_any 1 (by omega) w1).mono ?_
  rintro e W1 ⟨⟨u, rfl, hu⟩, hB1⟩
  obtain ⟨s1, A1, n1, c1, rfl⟩ := hu.form
  have r1 := b1.below hB1 (by omega)
  have bw1 := bw.trans (hB1.mono (by omega))
  have zz1 := hB1.size
  go_wp2_with fail
  have x1 := NB.new hu
  obtain ⟨W2, hW2⟩ : ∃ W2, W2 = W1.alloc (.cells #[.bool s1, .slice A1 n1 c1] 25) := ⟨_, rfl⟩
  have hB2 : Below W1.heap.size W1 W2 := by rw [hW2]; exact (Below.refl _ _).alloc (Nat.le_refl _) _
  have z2 : W2.heap.size = W1.heap.size + 1 := by rw [hW2]; simp
  rw [← hW2] at x1 ⊢
  have r2 := r1.below hB2 (by omega)
  have bw2 := bw1.trans (hB2.mono (by omega))
  clear hW2 hu r1 b1 hB1 hB2 bw bw1
  obtain ⟨p, hp⟩ : ∃ p, p = W1.heap.size := ⟨_, rfl⟩
  rw [← hp] at x1 z2 ⊢
  have hpl : p < W2.heap.size := by omega
  have hwp : w.heap.size < p := by omega
  clear hp z2 zz1 z1
  refine (of_any 2 (by omega) W2).mono ?_
  rintro e W3 ⟨⟨u, rfl, hu⟩, hB3⟩
  obtain ⟨s2, A2, n2, c2, rfl⟩ := hu.form
  have r3 := r2.below hB3 (by omega)
  have bw3 := bw2.trans (hB3.mono (by omega))
  have x3 := x1.later hB3
  have zz3 := hB3.size
  go_wp2_with fail
  have y3 := NB.new hu
  obtain ⟨W4, hW4⟩ : ∃ W4, W4 = W3.alloc (.cells #[.bool s2, .slice A2 n2 c2] 25) := ⟨_, rfl⟩
  have hB4 : Below W3.heap.size W3 W4 := by rw [hW4]; exact (Below.refl _ _).alloc (Nat.le_refl _) _
  have z4 : W4.heap.size = W3.heap.size + 1 := by rw [hW4]; simp
  rw [← hW4] at y3 ⊢
  have r4 := r3.below hB4 (by omega)
  have bw4 := bw3.trans (hB4.mono (by omega))
  have x4 := x3.later hB4
  clear hW4 hu r3 r2 hB3 hB4 bw3 bw2 x1 x3
  obtain ⟨q, hq⟩ : ∃ q, q = W3.heap.size := ⟨_, rfl⟩
  rw [← hq] at y3 z4 ⊢
  have hpq : p < q := by omega
  have hK2 : K + K ≤ 40000 := by omega
  clear hq zz3 z4
  go_loopw [0] (fun kv W => ∃ (i j k : Nat) (s : Bool) (A : Option Addr) (n c : Nat) (s' : Bool) (A' : Option Addr) (n' c' : Nat), kv = .int .i64 k ∧ NB W p s A n c ((b ^ i : Nat) : Int) ∧ NB W q s' A' n' c' ((b ^ j : Nat) : Int) ∧ Hid (i + j * k = K) ∧ j ≤ 2 * K + 1 ∧ k ≤ K ∧ Row W w.heap.size 25 [.bool false, .slice none 0 0] ∧ Below w.heap.size w W) (fun kv _ => (intOf kv).toNat)
  case atStart => exact ⟨0, 1, K, s1, A1, n1, c1, s2, A2, n2, c2, rfl, by simpa using x4, by have := HB.out; subst this; exact y3, Lib.hid (by omega), by omega, Nat.le_refl _, r4, bw4⟩
  case round =>
    obtain ⟨i, j, k, s, A, n, c, s', A', n', c', rfl, hx, hy, hij, hj, hk, hr, hB⟩ := hrel
    obtain ⟨p0, p1, p2, p3⟩ := hx.cells
    obtain ⟨q0, q1, q2, q3⟩ := hy.cells
    have hi : i ≤ K := by have := hij.out; have := Nat.zero_le (j * k); omega
    have hbi := sm_pow b i HB.out
    have hbj := sm_pow b j HB.out
    have hli : (ds (((b ^ i : Nat) : Int)).natAbs).length ≤ 100000 := Nat.le_trans (ds_two hbi) (by omega)
    have hlj : (ds (((b ^ j : Nat) : Int)).natAbs).length ≤ 100000 := Nat.le_trans (ds_two hbj) (by omega)
    have HLI := Lib.hid hli
    have HLJ := Lib.hid hlj
    have eij : Hid (((b ^ i : Nat) : Int) * ((b ^ j : Nat) : Int) = ((b ^ (i + j) : Nat) : Int)) := Lib.hid (by rw [Nat.pow_add, Int.natCast_mul])
    have ejj : Hid (((b ^ j : Nat) : Int) * ((b ^ j : Nat) : Int) = ((b ^ (j + j) : Nat) : Int)) := Lib.hid (by rw [Nat.pow_add, Int.natCast_mul])
    clear hbi hbj hli hlj
    by_cases hk0 : k = 0
    · subst hk0
      have hiK : i = K := by have := hij.out; omega
      subst hiK
      have f0 := hr.frozen 0
      have f1 := hr.frozen 1
      have g0 := hr.cell 0 _ rfl
      have g1 := hr.cell 1 _ rfl
      clear hij
      go_wp2_with fail
      have bt := But.set2 wr.heap.size w.heap.size wr (.bool s) (.slice A n c)
      exact bodyPost_ret (res_row rfl rfl (hr.set2 _ _) Tryd.underlying25 rfl sizeN) rfl ⟨⟨_, rfl, (hx.2.but_struct hr bt).grow bt.size⟩, hB.trans (bt.low.mono (by omega))⟩
    · have hkp : (0 : Int) < (k : Int) := by omega
      have hjK : j ≤ K := by
        have h1 := hij.out
        have h2 : j * 1 ≤ j * k := Nat.mul_le_mul_left _ (by omega)
        omega
      obtain ⟨k2, hk2⟩ : ∃ k2, k2 = k / 2 := ⟨_, rfl⟩
      have e2 : (k : Int) / 2 = (k2 : Int) := by omega
      have hk2l : k2 < k := by omega
      have HK2 := Lib.hid hk2
      by_cases hodd : k % 2 = 1
      · have e1 : (k : Int) % 2 = 1 := by omega
        have HJ : Hid ((i + j) + (j + j) * k2 = K) := Lib.hid (by rw [hk2]; exact pow_odd i j k K hij.out hodd)
        clear hk2 hodd hij
        go_wp2_with fail
        refine (nmul_any _ _ _ _ wr hx.2 hy.2 HLI.out HLJ.out).mono ?_
        rintro e V1 ⟨⟨v, rfl, hv⟩, hB1⟩
        rw [eij.out] at hv
        obtain ⟨t1, C1, m1, d1, rfl⟩ := hv.form
        have hx1 := hx.later hB1
        have hy1 := hy.later hB1
        have hr1 := hr.below hB1 hr.lt
        have low1 := hB.trans (hB1.mono hB.size)
        clear hx hy hr hB hB1 p0 p1 p2 p3 q0 q1 q2 q3
        obtain ⟨p0, p1, p2, p3⟩ := hx1.cells
        have bt := But.set2 V1.heap.size p V1 (.bool t1) (.slice C1 m1 d1)
        have hx2 := hx1.put hv
        have hy2 := hy1.but hx1.1 bt (by omega)
        have hr2 := hr1.but bt hr1.lt (by omega)
        have low2 := low1.trans (bt.low.mono (by omega))
        obtain ⟨q0, q1, -, -⟩ := hy2.cells
        clear bt hx1 hy1 hr1 low1 hv
        go_wp2_with fail
        clear q0 q1
        obtain ⟨V2, hV2⟩ : ∃ V2, V2 = ((V1.setCell ⟨p, 0, none⟩ (.bool t1)).setCell ⟨p, 1, none⟩ (.slice C1 m1 d1)) := ⟨_, rfl⟩
        rw [← hV2] at hx2 hy2 hr2 low2 ⊢
        clear hV2 p0 p1 p2 p3
        refine (nmul_any _ _ _ _ V2 hy2.2 hy2.2 HLJ.out HLJ.out).mono ?_
        rintro e V3 ⟨⟨v, rfl, hv⟩, hB3⟩
        rw [ejj.out] at hv
        obtain ⟨t2, C2, m2, d2, rfl⟩ := hv.form
        have hx3 := hx2.later hB3
        have hy3 := hy2.later hB3
        have hr3 := hr2.below hB3 hr2.lt
        have low3 := low2.trans (hB3.mono low2.size)
        clear hx2 hy2 hr2 hB3 low2
        obtain ⟨q0, q1, q2, q3⟩ := hy3.cells
        go_wp2_with fail
        have bt := But.set2 V3.heap.size q V3 (.bool t2) (.slice C2 m2 d2)
        go_roundw
        case rel => exact ⟨i + j, j + j, k2, t1, C1, m1, d1, t2, C2, m2, d2, by first | rfl | go_num, hx3.but hy3.1 bt (by omega), hy3.put hv, HJ, by omega, by omega, hr3.but bt hr3.lt (by omega), low3.trans (bt.low.mono (by omega))⟩
        case measure => simp [intOf]; omega
      · have e1 : ((k : Int) % 2 == 1) = false := beq_eq_false_iff_ne.2 (by omega)
        have HJ : Hid (i + (j + j) * k2 = K) := Lib.hid (by rw [hk2]; exact pow_even i j k K hij.out hodd)
        clear hk2 hodd hij
        go_wp2_with fail
        refine (nmul_any _ _ _ _ wr hy.2 hy.2 HLJ.out HLJ.out).mono ?_
        rintro e V3 ⟨⟨v, rfl, hv⟩, hB3⟩
        rw [ejj.out] at hv
        obtain ⟨t2, C2, m2, d2, rfl⟩ := hv.form
        have hx3 := hx.later hB3
        have hy3 := hy.later hB3
        have hr3 := hr.below hB3 hr.lt
        have low3 := hB.trans (hB3.mono hB.size)
        clear hx hy hr hB3 hB q0 q1 q2 q3 p0 p1 p2 p3
        obtain ⟨q0, q1, q2, q3⟩ := hy3.cells
        go_wp2_with fail
        have bt := But.set2 V3.heap.size q V3 (.bool t2) (.slice C2 m2 d2)
        go_roundw
        case rel => exact ⟨i, j + j, k2, s, A, n, c, t2, C2, m2, d2, by first | rfl | go_num, hx3.but hy3.1 bt (by omega), hy3.put hv, HJ, by omega, by omega, hr3.but bt hr3.lt (by omega), low3.trans (bt.low.mono (by omega))⟩
        case measure => simp [intOf]; omega
end Go.Proofs.YtmpdoikdadjneaaDoor
