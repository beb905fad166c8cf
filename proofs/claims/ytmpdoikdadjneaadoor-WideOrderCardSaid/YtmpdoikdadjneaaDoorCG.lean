/- What divide answers, by number; Gcd. -/
import Derived.Test.YtmpdoikdadjneaaDoorCF
import Derived.Test.YtmpdoikdadjneaaDoorCD
namespace Go.Proofs.YtmpdoikdadjneaaDoor
open Go.RowKit Go.Shelf Hb Vm Ds Vr

theorem one_word {y : Nat} (h : (ws y).length = 1) : (ws y).getD 0 0 = y := by
  obtain ⟨e, -, -⟩ := top_of (b := 4294967296) (m := 0) (n := y) (by decide) h
  rw [List.take_zero, val_nil, Nat.pow_zero, Nat.one_mul, Nat.zero_add] at e
  exact e.symm
def TwoW (a b : Nat) (w : World) (e : Ending) (W' : World) : Prop := (∃ q r, e = .returned (.tuple #[q, r]) ∧ Wl W' W'.heap.size q a ∧ Wl W' W'.heap.size r b) ∧ Below w.heap.size w W'

set_option maxRecDepth 100000 in
set_option maxHeartbeats 4000000 in
theorem divide_w (v u : Value) (x y : Nat) (w : World) (hv : Wl w w.heap.size v x) (hu : Wl w w.heap.size u y) (hx : (ws x).length ≤ 100000) (hy0 : 0 < y) :
    Calls Tryd.prog 65 #[v, u] w (TwoW (x / y) (x % y) w) := by
  have hv' := hv
  have hu' := hu
  obtain ⟨A, c, rfl, hr, hc1, hc2⟩ := hv'
  obtain ⟨C, d, rfl, kr, kd1, kd2⟩ := hu'
  obtain ⟨n, hn⟩ : ∃ n, n = (ws x).length := ⟨_, rfl⟩
  obtain ⟨m, hm⟩ : ∃ m, m = (ws y).length := ⟨_, rfl⟩
  have hm0 : 0 < m := by
    rcases Nat.eq_zero_or_pos m with h | h
    · have := (digs_nil (b := 4294967296) (n := y) (by decide)).1 (by rw [hm] at h; exact h); omega
    · exact h
  rw [← hn] at hv hr hc1 hx ⊢
  rw [← hm] at hu kr kd1 ⊢
  have HN := Lib.hid hn
  have HM := Lib.hid hm
  clear hn hm
  by_cases hlt : n < m
  · have hxy : x < y := cmp_len (by rw [← HN.out, ← HM.out]; exact hlt)
    have e1 : x / y = 0 := Nat.div_eq_of_lt hxy
    have e2 : x % y = x := Nat.mod_eq_of_lt hxy
    rw [e1, e2]
    clear e1 e2 hxy
    go_enter Tryd.func65, Tryd.ntmps65
    go_wp2_with fail
    refine (clone_w _ x (by rw [← HN.out]; omega) w hv).mono ?_
    rintro e W1 ⟨⟨r, rfl, hr1⟩, hB⟩
    go_wp2_with fail
    go_ret2
    exact ⟨⟨_, _, rfl, Wl.nil _ _, hr1⟩, hB⟩
  · by_cases h1 : m = 1
    · subst h1
      obtain ⟨a, rfl, -, hcell⟩ := Rd.word kr (show 0 < 1 by decide)
      have hy1 := one_word HM.out.symm
      rw [hy1] at hcell
      have hyl : y < 4294967296 := by rw [← hy1]; exact (ws_dig y).get (by decide) 0
      have hcell2 : w.cell? a = some (.int .u32 (y : Int)) := by have := hcell; unfold Addr.add at this; simpa using this
      clear hy1
      go_enter Tryd.func65, Tryd.ntmps65
      go_wp2_with fail
      refine (short_w _ x y _ rfl w hv (by rw [← HN.out]; omega) hy0 hyl).mono ?_
      rintro e W1 ⟨⟨q, r, rfl, hq, hrr⟩, hB⟩
      have HRR := Lib.hid hrr
      have hrl : r < 4294967296 := by rw [hrr]; exact Nat.lt_trans (Nat.mod_lt _ hy0) hyl
      have bx := (boxed_rd W1 (uw r) 81)
      have b2 : Below w.heap.size w (W1.alloc (.cells #[uw r] 81)) := hB.alloc hB.size _
      have hq2 : Wl (W1.alloc (.cells #[uw r] 81)) (W1.alloc (.cells #[uw r] 81)).heap.size q (x / y) := hq.later ((Below.refl _ _).alloc (Nat.le_refl _) _) (by simp)
      have ct := trim_any (some ⟨W1.heap.size, 0, none⟩) 1 1 (W1.alloc (.cells #[uw r] 81)).heap.size [r] (Nat.le_refl _) (by unfold maxLen; decide) (fun z hz => by rw [List.mem_singleton.1 hz]; exact hrl) (W1.alloc (.cells #[uw r] 81)) (bx.mono (by simp))
      have hw : wval [r] = r := by simp [wval, Vm.val]
      rw [hw] at ct
      unfold uw at ct b2 hq2
      clear hw bx hrr
      go_wp2_with fail
      refine ct.mono ?_
      rintro e W2 ⟨⟨r2, rfl, hr2⟩, rfl⟩
      go_wp2_with fail
      go_ret2
      refine ⟨⟨_, _, rfl, hq2, ?_⟩, b2⟩
      rw [← HRR.out]
      exact hr2
    · have hm2 : 2 ≤ m := by omega
      have hmn : m ≤ n := by omega
      have cl := longD_any A C n c m d x y HN.out.symm HM.out.symm hm2 hmn (by omega) w hr kr
      have hbeq : ((m : Int) == 1) = false := beq_eq_false_iff_ne.2 (by omega)
      clear h1
      go_enter Tryd.func65, Tryd.ntmps65
      go_wp2_with fail
      refine cl.mono ?_
      rintro e W1 ⟨⟨q, r, rfl, hq, hr1⟩, hB⟩
      go_wp2_with fail
      go_ret2
      exact ⟨⟨_, _, rfl, hq, hr1⟩, hB⟩
end Go.Proofs.YtmpdoikdadjneaaDoor

/- The Euclidean quotient and rest of integers by those of their absolute values. No program is named here. -/
namespace Go.Proofs.YtmpdoikdadjneaaDoor.Vm
open Go Go.RowKit

theorem euclid_uniq {a b q r : Int} (hb : b ≠ 0) (h : r + b * q = a) (h0 : 0 ≤ r) (h1 : r < b.natAbs) : a / b = q ∧ a % b = r := by
  rcases Int.lt_or_gt_of_ne hb with hn | hp
  · exact (Int.ediv_emod_unique' hn).2 ⟨h, h0, by omega⟩
  · exact (Int.ediv_emod_unique hp).2 ⟨h, h0, by omega⟩
theorem div_plain {x y : Int} (hy : y ≠ 0) (h : 0 ≤ x ∨ x.natAbs % y.natAbs = 0) :
    x / y = (if (decide (x < 0) != decide (y < 0)) = true then -((x.natAbs / y.natAbs : Nat) : Int) else ((x.natAbs / y.natAbs : Nat) : Int)) ∧ x % y = ((x.natAbs % y.natAbs : Nat) : Int) := by
  have hb : 0 < y.natAbs := by omega
  have h1 := Nat.mod_lt x.natAbs hb
  have h2 := Nat.div_add_mod x.natAbs y.natAbs
  have h3 : ((y.natAbs : Int) * ((x.natAbs / y.natAbs : Nat) : Int)) + ((x.natAbs % y.natAbs : Nat) : Int) = (x.natAbs : Int) := by rw [← Int.natCast_mul, ← Int.natCast_add, h2]
  generalize x.natAbs / y.natAbs = q at *
  generalize x.natAbs % y.natAbs = r at *
  refine euclid_uniq hy ?_ (by omega) (by omega)
  by_cases hx : x < 0 <;> by_cases hyn : y < 0
  · have e : (y.natAbs : Int) = -y := by omega
    rw [e, Int.neg_mul] at h3
    rw [decide_eq_true hx, decide_eq_true hyn, if_neg (by decide)]
    omega
  · have e : (y.natAbs : Int) = y := by omega
    rw [e] at h3
    rw [decide_eq_true hx, decide_eq_false hyn, if_pos (by decide), Int.mul_neg]
    omega
  · have e : (y.natAbs : Int) = -y := by omega
    rw [e, Int.neg_mul] at h3
    rw [decide_eq_false hx, decide_eq_true hyn, if_pos (by decide), Int.mul_neg]
    omega
  · have e : (y.natAbs : Int) = y := by omega
    rw [e] at h3
    rw [decide_eq_false hx, decide_eq_false hyn, if_neg (by decide)]
    omega
theorem div_adj {x y : Int} (hy : y ≠ 0) (hx : x < 0) (h : 0 < x.natAbs % y.natAbs) :
    x / y = (if (decide (x < 0) != decide (y < 0)) = true then -((x.natAbs / y.natAbs + 1 : Nat) : Int) else ((x.natAbs / y.natAbs + 1 : Nat) : Int)) ∧ x % y = ((y.natAbs - x.natAbs % y.natAbs : Nat) : Int) := by
  have hb : 0 < y.natAbs := by omega
  have h1 := Nat.mod_lt x.natAbs hb
  have h2 := Nat.div_add_mod x.natAbs y.natAbs
  have h3 : ((y.natAbs : Int) * ((x.natAbs / y.natAbs : Nat) : Int)) + ((x.natAbs % y.natAbs : Nat) : Int) = (x.natAbs : Int) := by rw [← Int.natCast_mul, ← Int.natCast_add, h2]
  generalize x.natAbs / y.natAbs = q at *
  generalize x.natAbs % y.natAbs = r at *
  refine euclid_uniq hy ?_ (by omega) (by omega)
  have eq1 : ((q + 1 : Nat) : Int) = (q : Int) + 1 := by omega
  rw [eq1]
  by_cases hyn : y < 0
  · have e : (y.natAbs : Int) = -y := by omega
    rw [e, Int.neg_mul] at h3
    rw [decide_eq_true hx, decide_eq_true hyn, if_neg (by decide), Int.mul_add, Int.mul_one]
    omega
  · have e : (y.natAbs : Int) = y := by omega
    rw [e] at h3
    rw [decide_eq_true hx, decide_eq_false hyn, if_pos (by decide), Int.mul_neg, Int.mul_add, Int.mul_one]
    omega
end Go.Proofs.YtmpdoikdadjneaaDoor.Vm

/- What Div answers. -/
namespace Go.Proofs.YtmpdoikdadjneaaDoor
open Go.RowKit Go.Shelf Hb Vm Ds Vr

theorem box4w (w : World) (a b c d : Value) : ∃ w3, w3 = (((w.alloc (.cells #[a, b] 33)).alloc (.cells #[c, d] 33)).alloc (.cells #[.bool false, .slice none 0 0] 33)).alloc (.cells #[.bool false, .slice none 0 0] 33) ∧
    Row w3 w.heap.size 33 [a, b] ∧ Row w3 (w.heap.size + 1) 33 [c, d] ∧ Row w3 (w.heap.size + 1 + 1) 33 [.bool false, .slice none 0 0] ∧ Row w3 (w.heap.size + 1 + 1 + 1) 33 [.bool false, .slice none 0 0] ∧ Below w.heap.size w w3 := by
  obtain ⟨w4, rfl, h1, h2, h3, hb⟩ := box3w w a b c d
  refine ⟨_, rfl, h1.alloc _, h2.alloc _, h3.alloc _, ?_, hb.alloc hb.size _⟩
  have := Row.new (((w.alloc (.cells #[a, b] 33)).alloc (.cells #[c, d] 33)).alloc (.cells #[.bool false, .slice none 0 0] 33)) 33 [.bool false, .slice none 0 0]
  simp only [World.size_alloc] at this
  exact this
/-- quotient and rest, and no error; or the error of a divisor 0 -/
def DivW (x y : Int) (w : World) (e : Ending) (W' : World) : Prop :=
  (∃ q r, e = .returned (.tuple #[q, r, .int .i64 (if y = 0 then 1 else 0)]) ∧ Wi W' W'.heap.size q (if y = 0 then 0 else x / y) ∧ Wi W' W'.heap.size r (if y = 0 then 0 else x % y)) ∧ Below w.heap.size w W'
theorem rd_of {W : World} {B n q c : Nat} {A : Option Addr} (hq : q = (ws n).length) (h : Wl W B (.slice A q c) n) : Rd W B A q ((ws n).map uw) := by
  obtain ⟨A', c', e, h1, -, -⟩ := h
  cases e
  exact h1
theorem divW_of {x y : Int} {w W' : World} {e : Ending} {u v : Value} (hy : y ≠ 0) (he : e = .returned (.tuple #[intV (x / y) u, intV (x % y) v, .int .i64 0])) (hq : Wl W' W'.heap.size u (x / y).natAbs) (hr : Wl W' W'.heap.size v (x % y).natAbs) (hb : Below w.heap.size w W') : DivW x y w e W' := by
  unfold DivW
  simp only [if_neg hy]
  exact ⟨⟨_, _, he, ⟨_, rfl, hq⟩, ⟨_, rfl, hr⟩⟩, hb⟩
theorem Wi.but_struct {W W' : World} {B g : Nat} {v : Value} {z : Int} {t : TypeId} {p : Bool} {q : Option Addr} {r s : Nat} (hr : Wi W B v z) (h : Row W g t [.bool p, .slice q r s]) (hb : But B g W W') : Wi W' B v z :=
  let ⟨u, e, hu⟩ := hr; ⟨u, e, hu.but_struct h hb⟩

set_option maxRecDepth 100000 in
set_option maxHeartbeats 16000000 in
theorem div_any (x y : Int) (vx vy : Value) (w : World) (hvx : Wi w w.heap.size vx x) (hvy : Wi w w.heap.size vy y) (hlx : (ws x.natAbs).length ≤ 90000) (hly : (ws y.natAbs).length ≤ 90000) :
    Calls Tryd.prog 33 #[vx, vy] w (DivW x y w) := by
  obtain ⟨ux, rfl, hx⟩ := hvx
  obtain ⟨uy, rfl, hy⟩ := hvy
  have hx' := hx
  have hy' := hy
  obtain ⟨A, c, rfl, -, -, -⟩ := hx'
  obtain ⟨C, d, rfl, -, -, -⟩ := hy'
  obtain ⟨n, hn⟩ : ∃ n, n = (ws x.natAbs).length := ⟨_, rfl⟩
  obtain ⟨m, hm⟩ : ∃ m, m = (ws y.natAbs).length := ⟨_, rfl⟩
  have hm0 : (ws y.natAbs).length = 0 ↔ y.natAbs = 0 := digs_nil (by decide)
  unfold intV
  obtain ⟨s, hs⟩ : ∃ s, s = decide (x < 0) := ⟨_, rfl⟩
  obtain ⟨t, ht⟩ : ∃ t, t = decide (y < 0) := ⟨_, rfl⟩
  rw [← hn] at hx ⊢
  rw [← hm] at hy hm0 ⊢
  rw [← hs, ← ht]
  have HS := Lib.hid hs
  have HT := Lib.hid ht
  have HLX := Lib.hid hlx
  have HLY := Lib.hid hly
  obtain ⟨w3, hw3, b1, b2, b3, b4, bw⟩ := box4w w (.bool s) (.slice A n c) (.bool t) (.slice C m d)
  have k10 := b1.cell 0 _ rfl
  have k11 := b1.cell 1 _ rfl
  have k20 := b2.cell 0 _ rfl
  have k21 := b2.cell 1 _ rfl
  have k30 := b3.cell 0 _ rfl
  have k31 := b3.cell 1 _ rfl
  have k40 := b4.cell 0 _ rfl
  have k41 := b4.cell 1 _ rfl
  have f30 := b3.frozen 0
  have f31 := b3.frozen 1
  have f40 := b4.frozen 0
  have f41 := b4.frozen 1
  by_cases hy0 : y = 0
  · have hmz : m = 0 := hm0.2 (by omega)
    unfold DivW
    simp only [if_pos hy0]
    subst hmz
    clear hn hm hs ht hlx hly hm0 hy0
    go_enter Tryd.func33, Tryd.ntmps33
    go_wp2_with fail
    rw [← hw3]
    exact bodyPost_ret (res_row2_tmp rfl rfl rfl b3 b4 Tryd.underlying33 rfl sizeW sizeW) rfl ⟨⟨_, _, rfl, ⟨_, rfl, Wl.nil _ _⟩, ⟨_, rfl, Wl.nil _ _⟩⟩, bw⟩
  · have hmz : m ≠ 0 := fun e => hy0 (by have := hm0.1 e; omega)
    have hmb : ((m : Int) == 0) = false := beq_eq_false_iff_ne.2 (by omega)
    have HY0 := Lib.hid hy0
    clear hn hm hs ht hlx hly hm0 hmz
    go_enter Tryd.func33, Tryd.ntmps33
    go_wp2_with fail
    rw [← hw3]
    clear hw3
    refine (divide_w _ _ x.natAbs y.natAbs w3 (hx.later bw bw.size) (hy.later bw bw.size) (by have := HLX.out; omega) (by omega)).mono ?_
    rintro e W1 ⟨⟨q, r, rfl, hq, hr⟩, hB⟩
    dsimp only
    have d1 := b1.below hB b1.lt
    have d2 := b2.below hB b2.lt
    have d3 := b3.below hB b3.lt
    have d4 := b4.below hB b4.lt
    have bw1 := bw.trans (hB.mono bw.size)
    clear k10 k11 k20 k21 k30 k31 k40 k41 f30 f31 f40 f41 b1 b2 b3 b4 hB bw hy0 hmb
    have k10 := d1.cell 0 _ rfl
    have hq' := hq
    have hr' := hr
    obtain ⟨A1, c1, rfl, -, -, -⟩ := hq'
    obtain ⟨C1, e1, rfl, -, -, -⟩ := hr'
    obtain ⟨qn, hqn⟩ : ∃ qn, qn = (ws (x.natAbs / y.natAbs)).length := ⟨_, rfl⟩
    obtain ⟨rn, hrn⟩ : ∃ rn, rn = (ws (x.natAbs % y.natAbs)).length := ⟨_, rfl⟩
    have hr0 : (ws (x.natAbs % y.natAbs)).length = 0 ↔ x.natAbs % y.natAbs = 0 := digs_nil (by decide)
    have hql : (ws (x.natAbs / y.natAbs)).length ≤ (ws x.natAbs).length := len_mono (Nat.div_le_self _ _)
    rw [← hqn] at hq hql ⊢
    rw [← hrn] at hr hr0 ⊢
    have HR0 := Lib.hid hr0
    have HQL := Lib.hid hql
    have HQN := Lib.hid hqn
    have HRN := Lib.hid hrn
    clear hqn hrn hr0 hql
    cases s with
    | false =>
      have hx0 : ¬ x < 0 := fun h => by have := HS.out; rw [decide_eq_true h] at this; cases this
      have hd := div_plain (x := x) (y := y) HY0.out (Or.inl (by omega))
      rw [← HS.out, ← HT.out] at hd
      have EQ : Hid (x / y = if t = true then -((x.natAbs / y.natAbs : Nat) : Int) else ((x.natAbs / y.natAbs : Nat) : Int)) := Lib.hid (by rw [hd.1]; cases t <;> rfl)
      have ER : Hid (x % y = if false = true then -((x.natAbs % y.natAbs : Nat) : Int) else ((x.natAbs % y.natAbs : Nat) : Int)) := Lib.hid (by rw [hd.2]; rfl)
      clear hd hx0
      have k20 := d2.cell 0 _ rfl
      go_wp2_with fail
      refine (signed_w t (x.natAbs / y.natAbs) _ (x / y) EQ.out W1 hq).mono ?_
      rintro e P1 ⟨⟨u, rfl, hu⟩, hB1⟩
      obtain ⟨u1, rfl, hu1⟩ := hu
      have hu2 := hu1
      obtain ⟨A2, c2, rfl, -, -, -⟩ := hu2
      unfold intV
      dsimp only
      have p3 := d3.below hB1 d3.lt
      have p4 := d4.below hB1 d4.lt
      have bp1 := bw1.trans (hB1.mono bw1.size)
      have hr9 := hr.later hB1 hB1.size
      clear d1 d2 d3 d4 bw1 hB1
      go_wp2_with fail
      refine (signed_w false (x.natAbs % y.natAbs) _ (x % y) ER.out P1 hr9).mono ?_
      rintro e P2 ⟨⟨u, rfl, hu⟩, hB2⟩
      obtain ⟨u3, rfl, hu3⟩ := hu
      have hu4 := hu3
      obtain ⟨A3, c3, rfl, -, -, -⟩ := hu4
      unfold intV
      dsimp only
      have q3 := p3.below hB2 p3.lt
      have q4 := p4.below hB2 p4.lt
      have bp2 := bp1.trans (hB2.mono bp1.size)
      have hu5 := hu1.later hB2 hB2.size
      clear p3 p4 bp1 hB2 hr9
      have k30 := q3.cell 0 _ rfl
      have k31 := q3.cell 1 _ rfl
      have k40 := q4.cell 0 _ rfl
      have k41 := q4.cell 1 _ rfl
      have f30 := q3.frozen 0
      have f31 := q3.frozen 1
      have f40 := q4.frozen 0
      have f41 := q4.frozen 1
      go_wp2_with fail
      obtain ⟨P3, hP3⟩ : ∃ P3, P3 = (P2.setCell ⟨w.heap.size + 1 + 1, 0, none⟩ (.bool (decide (x / y < 0)))).setCell ⟨w.heap.size + 1 + 1, 1, none⟩ (.slice A2 (ws (x / y).natAbs).length c2) := ⟨_, rfl⟩
      have r3 : Row P3 (w.heap.size + 1 + 1) 33 [.bool (decide (x / y < 0)), .slice A2 (ws (x / y).natAbs).length c2] := by rw [hP3]; exact q3.set2 _ _
      have r4 : Row P3 (w.heap.size + 1 + 1 + 1) 33 [.bool false, .slice none 0 0] := by rw [hP3]; exact (q4.other _ _ (by omega)).other _ _ (by omega)
      have bt3 : But P2.heap.size (w.heap.size + 1 + 1) P2 P3 := by rw [hP3]; exact (But.setCell _ _ _ _ _).trans (But.setCell _ _ _ _ _)
      rw [← hP3]
      obtain ⟨P4, hP4⟩ : ∃ P4, P4 = (P3.setCell ⟨w.heap.size + 1 + 1 + 1, 0, none⟩ (.bool (decide (x % y < 0)))).setCell ⟨w.heap.size + 1 + 1 + 1, 1, none⟩ (.slice A3 (ws (x % y).natAbs).length c3) := ⟨_, rfl⟩
      have t3 : Row P4 (w.heap.size + 1 + 1) 33 [.bool (decide (x / y < 0)), .slice A2 (ws (x / y).natAbs).length c2] := by rw [hP4]; exact (r3.other _ _ (by omega)).other _ _ (by omega)
      have t4 : Row P4 (w.heap.size + 1 + 1 + 1) 33 [.bool (decide (x % y < 0)), .slice A3 (ws (x % y).natAbs).length c3] := by rw [hP4]; exact r4.set2 _ _
      have bt4 : But P3.heap.size (w.heap.size + 1 + 1 + 1) P3 P4 := by rw [hP4]; exact (But.setCell _ _ _ _ _).trans (But.setCell _ _ _ _ _)
      rw [← hP4]
      have fq := (hu5.but_struct q3 bt3).grow bt3.size
      have fr := (hu3.but_struct q3 bt3).grow bt3.size
      have fq2 := (fq.but_struct r4 bt4).grow bt4.size
      have fr2 := (fr.but_struct r4 bt4).grow bt4.size
      exact bodyPost_ret (res_row2_tmp rfl rfl rfl t3 t4 Tryd.underlying33 rfl sizeW sizeW) rfl (divW_of HY0.out rfl fq2 fr2 (bp2.trans ((bt3.low.mono (by omega)).trans (bt4.low.mono (by omega)))))
    | true =>
      have hx0 : x < 0 := of_decide_eq_true HS.out.symm
      have k20 := d2.cell 0 _ rfl
      by_cases hr1 : rn = 0
      · have hd := div_plain (x := x) (y := y) HY0.out (Or.inr (HR0.out.1 hr1))
        rw [← HS.out, ← HT.out] at hd
        have EQ : Hid (x / y = if (!t) = true then -((x.natAbs / y.natAbs : Nat) : Int) else ((x.natAbs / y.natAbs : Nat) : Int)) := Lib.hid (by rw [hd.1]; cases t <;> rfl)
        have ER : Hid (x % y = if false = true then -((x.natAbs % y.natAbs : Nat) : Int) else ((x.natAbs % y.natAbs : Nat) : Int)) := Lib.hid (by rw [hd.2]; rfl)
        subst hr1
        clear hd hx0
        go_wp2_with fail
        refine (signed_w (!t) (x.natAbs / y.natAbs) _ (x / y) EQ.out W1 hq).mono ?_
        rintro e P1 ⟨⟨u, rfl, hu⟩, hB1⟩
        obtain ⟨u1, rfl, hu1⟩ := hu
        have hu2 := hu1
        obtain ⟨A2, c2, rfl, -, -, -⟩ := hu2
        unfold intV
        dsimp only
        have p3 := d3.below hB1 d3.lt
        have p4 := d4.below hB1 d4.lt
        have bp1 := bw1.trans (hB1.mono bw1.size)
        have hr9 := hr.later hB1 hB1.size
        clear d1 d2 d3 d4 bw1 hB1
        go_wp2_with fail
        refine (signed_w false (x.natAbs % y.natAbs) _ (x % y) ER.out P1 hr9).mono ?_
        rintro e P2 ⟨⟨u, rfl, hu⟩, hB2⟩
        obtain ⟨u3, rfl, hu3⟩ := hu
        have hu4 := hu3
        obtain ⟨A3, c3, rfl, -, -, -⟩ := hu4
        unfold intV
        dsimp only
        have q3 := p3.below hB2 p3.lt
        have q4 := p4.below hB2 p4.lt
        have bp2 := bp1.trans (hB2.mono bp1.size)
        have hu5 := hu1.later hB2 hB2.size
        clear p3 p4 bp1 hB2 hr9
        have k30 := q3.cell 0 _ rfl
        have k31 := q3.cell 1 _ rfl
        have k40 := q4.cell 0 _ rfl
        have k41 := q4.cell 1 _ rfl
        have f30 := q3.frozen 0
        have f31 := q3.frozen 1
        have f40 := q4.frozen 0
        have f41 := q4.frozen 1
        go_wp2_with fail
        obtain ⟨P3, hP3⟩ : ∃ P3, P3 = (P2.setCell ⟨w.heap.size + 1 + 1, 0, none⟩ (.bool (decide (x / y < 0)))).setCell ⟨w.heap.size + 1 + 1, 1, none⟩ (.slice A2 (ws (x / y).natAbs).length c2) := ⟨_, rfl⟩
        have r3 : Row P3 (w.heap.size + 1 + 1) 33 [.bool (decide (x / y < 0)), .slice A2 (ws (x / y).natAbs).length c2] := by rw [hP3]; exact q3.set2 _ _
        have r4 : Row P3 (w.heap.size + 1 + 1 + 1) 33 [.bool false, .slice none 0 0] := by rw [hP3]; exact (q4.other _ _ (by omega)).other _ _ (by omega)
        have bt3 : But P2.heap.size (w.heap.size + 1 + 1) P2 P3 := by rw [hP3]; exact (But.setCell _ _ _ _ _).trans (But.setCell _ _ _ _ _)
        rw [← hP3]
        obtain ⟨P4, hP4⟩ : ∃ P4, P4 = (P3.setCell ⟨w.heap.size + 1 + 1 + 1, 0, none⟩ (.bool (decide (x % y < 0)))).setCell ⟨w.heap.size + 1 + 1 + 1, 1, none⟩ (.slice A3 (ws (x % y).natAbs).length c3) := ⟨_, rfl⟩
        have t3 : Row P4 (w.heap.size + 1 + 1) 33 [.bool (decide (x / y < 0)), .slice A2 (ws (x / y).natAbs).length c2] := by rw [hP4]; exact (r3.other _ _ (by omega)).other _ _ (by omega)
        have t4 : Row P4 (w.heap.size + 1 + 1 + 1) 33 [.bool (decide (x % y < 0)), .slice A3 (ws (x % y).natAbs).length c3] := by rw [hP4]; exact r4.set2 _ _
        have bt4 : But P3.heap.size (w.heap.size + 1 + 1 + 1) P3 P4 := by rw [hP4]; exact (But.setCell _ _ _ _ _).trans (But.setCell _ _ _ _ _)
        rw [← hP4]
        have fq := (hu5.but_struct q3 bt3).grow bt3.size
        have fr := (hu3.but_struct q3 bt3).grow bt3.size
        have fq2 := (fq.but_struct r4 bt4).grow bt4.size
        have fr2 := (fr.but_struct r4 bt4).grow bt4.size
        exact bodyPost_ret (res_row2_tmp rfl rfl rfl t3 t4 Tryd.underlying33 rfl sizeW sizeW) rfl (divW_of HY0.out rfl fq2 fr2 (bp2.trans ((bt3.low.mono (by omega)).trans (bt4.low.mono (by omega)))))
      · have hrp : 0 < x.natAbs % y.natAbs := Nat.pos_of_ne_zero fun e => hr1 (HR0.out.2 e)
        have hd := div_adj (x := x) (y := y) HY0.out hx0 hrp
        rw [← HS.out, ← HT.out] at hd
        have EQ : Hid (x / y = if (!t) = true then -((x.natAbs / y.natAbs + 1 : Nat) : Int) else ((x.natAbs / y.natAbs + 1 : Nat) : Int)) := Lib.hid (by rw [hd.1]; cases t <;> rfl)
        have ER : Hid (x % y = if false = true then -((y.natAbs - x.natAbs % y.natAbs : Nat) : Int) else ((y.natAbs - x.natAbs % y.natAbs : Nat) : Int)) := Lib.hid (by rw [hd.2]; rfl)
        have hle : Hid (x.natAbs % y.natAbs ≤ y.natAbs) := Lib.hid (Nat.le_of_lt (Nat.mod_lt _ (by have := HY0.out; omega)))
        have hrn2 : (0 : Int) < (rn : Int) := by omega
        clear hd hx0 hr1 hrp
        go_wp2_with fail
        obtain ⟨S, hSd⟩ : ∃ S : World → Prop, S = fun w' => w'.cell? ⟨w.heap.size, 0, none⟩ = some (.bool true) ∧ w'.cell? ⟨w.heap.size, 1, none⟩ = some (.slice A n c) ∧ w'.cell? ⟨w.heap.size + 1, 0, none⟩ = some (.bool t) ∧ w'.cell? ⟨w.heap.size + 1, 1, none⟩ = some (.slice C m d) := ⟨_, rfl⟩
        have hSr : ∀ V, Row V (w.heap.size) 33 [.bool true, .slice A n c] → Row V (w.heap.size + 1) 33 [.bool t, .slice C m d] → S V := fun V h0 h1 => by rw [hSd]; exact ⟨h0.cell 0 _ rfl, h0.cell 1 _ rfl, h1.cell 0 _ rfl, h1.cell 1 _ rfl⟩
        have HSR := Lib.hid hSr
        refine wp_region_held (S := S) (by kernel_rfl) ?_
        change wpAnyH _ _ _ _ _ _ _ _ W1.drew
        have hS0 : S W1.drew := hSr _ d1 d2
        have c0_0 : Row W1.drew (w.heap.size) 33 [.bool true, .slice A n c] := d1
        have c1_0 : Row W1.drew (w.heap.size + 1) 33 [.bool t, .slice C m d] := d2
        have r0_0 : Row W1.drew (w.heap.size + 1 + 1) 33 [.bool false, .slice none 0 0] := d3
        have r1_0 : Row W1.drew (w.heap.size + 1 + 1 + 1) 33 [.bool false, .slice none 0 0] := d4
        have bd_0 : Below w.heap.size w W1.drew := (bw1).drew
        obtain ⟨V0, hV0⟩ : ∃ V0, V0 = W1.drew := ⟨_, rfl⟩
        rw [← hV0] at hS0 c0_0 c1_0 r0_0 r1_0 bd_0 ⊢
        subst hSd
        clear hSr
        have hq0 : Wl V0 V0.heap.size _ _ := hq.later (by rw [hV0]; exact (Below.refl _ _).drew) (by rw [hV0]; exact Nat.le_refl _)
        have hr0 : Wl V0 V0.heap.size _ _ := hr.later (by rw [hV0]; exact (Below.refl _ _).drew) (by rw [hV0]; exact Nat.le_refl _)
        clear hV0
        refine wpAnyH_take (i := 0) (v := .slice A1 qn c1) rfl (by kernel_rfl) (by kernel_rfl) (by kernel_rfl) (fun _ _ _ h => h) (Or.inl ⟨by rfl, by intro w hSw; go_simp⟩) hS0 ?_
        refine wpAnyH_take (i := 3) (v := .pointer (some ⟨w.heap.size + 1, 1, none⟩)) rfl (by kernel_rfl) (by kernel_rfl) (by kernel_rfl) (fun _ _ _ h => h) (Or.inl ⟨by rfl, by intro w hSw; go_simp⟩) hS0 ?_
        refine wpAnyH_take (i := 4) (v := .slice C m d) rfl (by kernel_rfl) (by kernel_rfl) (by kernel_rfl) (fun _ _ _ h => h) (Or.inl ⟨by rfl, by intro w hSw; obtain ⟨q0, q1, q2, q3⟩ := hSw; go_simp⟩) hS0 ?_
        refine wpAnyH_take (i := 5) (v := .slice C1 rn e1) rfl (by kernel_rfl) (by kernel_rfl) (by kernel_rfl) (fun _ _ _ h => h) (Or.inl ⟨by rfl, by intro w hSw; go_simp⟩) hS0 ?_
        simp only [Act.put, List.setIfInBounds_toArray]
        refine one_ready (i := 1) (by kernel_rfl) rfl (fun K hK => ?_)
        go_simp
        obtain ⟨U1, hU⟩ : ∃ U1, U1 = V0.alloc (.cells #[.int .u32 1] 81) := ⟨_, rfl⟩
        have hB1 : Below V0.heap.size V0 U1 := by rw [hU]; exact (Below.refl _ _).alloc (Nat.le_refl _) _
        have k1 : Hb.Rd U1 U1.heap.size (some ⟨V0.heap.size, 0, none⟩) 1 ([1].map uw) := by rw [hU]; exact (boxed_rd V0 (uw 1) 81).mono (by simp)
        have hq1 := hq0.later hB1 hB1.size
        have hr1' := hr0.later hB1 hB1.size
        clear hq0 hr0
        rw [← hU]
        clear hU
        have c0_1 := c0_0.below hB1 c0_0.lt
        have c1_1 := c1_0.below hB1 c1_0.lt
        have r0_1 := r0_0.below hB1 r0_0.lt
        have r1_1 := r1_0.below hB1 r1_0.lt
        have bd_1 := bd_0.trans (hB1.mono bd_0.size)
        have hS1 := HSR.out U1 c0_1 c1_1
        refine hK.out _ _ hS1 (fun _ => ?_)
        clear hK K hS0 bd_0 c0_0 c1_0 r0_0 r1_0
        refine one_ready (i := 2) (by kernel_rfl) rfl (fun K hK => ?_)
        go_simp
        refine (sumL_any A1 (some ⟨V0.heap.size, 0, none⟩) qn c1 1 1 (ws (x.natAbs / y.natAbs)) [1] (by have := HQL.out; have := HLX.out; omega) (by decide) (ws_dig _) (fun z hz => by rw [List.mem_singleton.1 hz]; decide) U1 (rd_of HQN.out hq1) k1).mono ?_
        rintro e U2 ⟨⟨q2, rfl, hq2⟩, hB2⟩
        rw [ws_val, show wval [1] = 1 from by simp [wval, Vm.val]] at hq2
        have hq3 := hq2
        obtain ⟨A4, c4, rfl, -, -, -⟩ := hq3
        have hr2' := hr1'.later hB2 hB2.size
        dsimp only
        have c0_2 := c0_1.below hB2 c0_1.lt
        have c1_2 := c1_1.below hB2 c1_1.lt
        have r0_2 := r0_1.below hB2 r0_1.lt
        have r1_2 := r1_1.below hB2 r1_1.lt
        have bd_2 := bd_1.trans (hB2.mono bd_1.size)
        have hS2 := HSR.out U2 c0_2 c1_2
        refine hK.out _ _ hS2 (fun _ => ?_)
        clear hK K hS1 bd_1 c0_1 c1_1 r0_1 r1_1 k1 hq1 hr1'
        refine one_ready (i := 6) (by kernel_rfl) rfl (fun K hK => ?_)
        go_simp
        refine (dif_w _ _ y.natAbs (x.natAbs % y.natAbs) U2 (hy.later bd_2 bd_2.size) hr2' hle.out (by have := HLY.out; omega)).mono ?_
        rintro e U3 ⟨⟨r2, rfl, hr3⟩, hB3⟩
        have hr4 := hr3
        obtain ⟨A5, c5, rfl, -, -, -⟩ := hr4
        have hq4 := hq2.later hB3 hB3.size
        dsimp only
        have c0_3 := c0_2.below hB3 c0_2.lt
        have c1_3 := c1_2.below hB3 c1_2.lt
        have r0_3 := r0_2.below hB3 r0_2.lt
        have r1_3 := r1_2.below hB3 r1_2.lt
        have bd_3 := bd_2.trans (hB3.mono bd_2.size)
        have hS3 := HSR.out U3 c0_3 c1_3
        refine hK.out _ _ hS3 (fun _ => ?_)
        clear hK K hS2 bd_2 c0_2 c1_2 r0_2 r1_2 hr2' hq2
        refine wpAnyH_take (i := 7) (v := .slice A4 (ws (x.natAbs / y.natAbs + 1)).length c4) rfl (by kernel_rfl) (by kernel_rfl) (by kernel_rfl) (fun _ _ _ h => h) (Or.inl ⟨by rfl, by intro w hSw; go_simp⟩) hS3 ?_
        refine wpAnyH_take (i := 8) (v := .slice A5 (ws (y.natAbs - x.natAbs % y.natAbs)).length c5) rfl (by kernel_rfl) (by kernel_rfl) (by kernel_rfl) (fun _ _ _ h => h) (Or.inl ⟨by rfl, by intro w hSw; go_simp⟩) hS3 ?_
        simp only [Act.put, List.setIfInBounds_toArray]
        refine wpAnyH_done (by kernel_rfl) ?_ _
        have d3 := r0_3
        have d4 := r1_3
        have k10 := c0_3.cell 0 _ rfl
        have k20 := c1_3.cell 0 _ rfl
        have bw1 := bd_3
        clear r0_3 r1_3 bd_3
        go_wp2_with fail
        refine (signed_w (!t) (x.natAbs / y.natAbs + 1) _ (x / y) EQ.out U3 hq4).mono ?_
        rintro e P1 ⟨⟨u, rfl, hu⟩, hB1⟩
        obtain ⟨u1, rfl, hu1⟩ := hu
        have hu2 := hu1
        obtain ⟨A2, c2, rfl, -, -, -⟩ := hu2
        unfold intV
        dsimp only
        have p3 := d3.below hB1 d3.lt
        have p4 := d4.below hB1 d4.lt
        have bp1 := bw1.trans (hB1.mono bw1.size)
        have hr9 := hr3.later hB1 hB1.size
        clear d1 d2 d3 d4 bw1 hB1
        go_wp2_with fail
        refine (signed_w false (y.natAbs - x.natAbs % y.natAbs) _ (x % y) ER.out P1 hr9).mono ?_
        rintro e P2 ⟨⟨u, rfl, hu⟩, hB2⟩
        obtain ⟨u3, rfl, hu3⟩ := hu
        have hu4 := hu3
        obtain ⟨A3, c3, rfl, -, -, -⟩ := hu4
        unfold intV
        dsimp only
        have q3 := p3.below hB2 p3.lt
        have q4 := p4.below hB2 p4.lt
        have bp2 := bp1.trans (hB2.mono bp1.size)
        have hu5 := hu1.later hB2 hB2.size
        clear p3 p4 bp1 hB2 hr9
        have k30 := q3.cell 0 _ rfl
        have k31 := q3.cell 1 _ rfl
        have k40 := q4.cell 0 _ rfl
        have k41 := q4.cell 1 _ rfl
        have f30 := q3.frozen 0
        have f31 := q3.frozen 1
        have f40 := q4.frozen 0
        have f41 := q4.frozen 1
        go_wp2_with fail
        obtain ⟨P3, hP3⟩ : ∃ P3, P3 = (P2.setCell ⟨w.heap.size + 1 + 1, 0, none⟩ (.bool (decide (x / y < 0)))).setCell ⟨w.heap.size + 1 + 1, 1, none⟩ (.slice A2 (ws (x / y).natAbs).length c2) := ⟨_, rfl⟩
        have r3 : Row P3 (w.heap.size + 1 + 1) 33 [.bool (decide (x / y < 0)), .slice A2 (ws (x / y).natAbs).length c2] := by rw [hP3]; exact q3.set2 _ _
        have r4 : Row P3 (w.heap.size + 1 + 1 + 1) 33 [.bool false, .slice none 0 0] := by rw [hP3]; exact (q4.other _ _ (by omega)).other _ _ (by omega)
        have bt3 : But P2.heap.size (w.heap.size + 1 + 1) P2 P3 := by rw [hP3]; exact (But.setCell _ _ _ _ _).trans (But.setCell _ _ _ _ _)
        rw [← hP3]
        obtain ⟨P4, hP4⟩ : ∃ P4, P4 = (P3.setCell ⟨w.heap.size + 1 + 1 + 1, 0, none⟩ (.bool (decide (x % y < 0)))).setCell ⟨w.heap.size + 1 + 1 + 1, 1, none⟩ (.slice A3 (ws (x % y).natAbs).length c3) := ⟨_, rfl⟩
        have t3 : Row P4 (w.heap.size + 1 + 1) 33 [.bool (decide (x / y < 0)), .slice A2 (ws (x / y).natAbs).length c2] := by rw [hP4]; exact (r3.other _ _ (by omega)).other _ _ (by omega)
        have t4 : Row P4 (w.heap.size + 1 + 1 + 1) 33 [.bool (decide (x % y < 0)), .slice A3 (ws (x % y).natAbs).length c3] := by rw [hP4]; exact r4.set2 _ _
        have bt4 : But P3.heap.size (w.heap.size + 1 + 1 + 1) P3 P4 := by rw [hP4]; exact (But.setCell _ _ _ _ _).trans (But.setCell _ _ _ _ _)
        rw [← hP4]
        have fq := (hu5.but_struct q3 bt3).grow bt3.size
        have fr := (hu3.but_struct q3 bt3).grow bt3.size
        have fq2 := (fq.but_struct r4 bt4).grow bt4.size
        have fr2 := (fr.but_struct r4 bt4).grow bt4.size
        exact bodyPost_ret (res_row2_tmp rfl rfl rfl t3 t4 Tryd.underlying33 rfl sizeW sizeW) rfl (divW_of HY0.out rfl fq2 fr2 (bp2.trans ((bt3.low.mono (by omega)).trans (bt4.low.mono (by omega)))))
end Go.Proofs.YtmpdoikdadjneaaDoor

/- What Gcd answers. -/
namespace Go.Proofs.YtmpdoikdadjneaaDoor
open Go.RowKit Go.Shelf Hb Vm Ds Vr

theorem sameB {f : FuncId} {args : Array Value} {w : World} {P : Ending → Prop} (h : Calls Tryd.prog f args w (fun e w' => P e ∧ w = w')) : Calls Tryd.prog f args w (fun e W' => P e ∧ Below w.heap.size w W') :=
  h.mono fun _ _ k => ⟨k.1, k.2 ▸ Below.refl _ _⟩
/-- the number whose words a slice holds -/
def wnum (W : World) (v : Value) : Nat := match v with
  | .slice (some a) n _ => Vm.val 4294967296 ((List.range n).map fun j => match W.cell? (a.add j) with | some (.int _ u) => u.toNat | _ => 0)
  | _ => 0
theorem wnum_eq {W : World} {B n : Nat} {v : Value} (h : Wl W B v n) : wnum W v = n := by
  obtain ⟨A, c, rfl, hr, -, -⟩ := h
  have h0 : (ws n).length = 0 ↔ n = 0 := digs_nil (by decide)
  cases A with
  | none =>
    by_cases hz : (ws n).length = 0
    · have := h0.1 hz
      exact this.symm
    · obtain ⟨a, e, -⟩ := hr.2 (by simpa using (by omega : 0 < (ws n).length)); cases e
  | some a =>
    unfold wnum
    have e : ((List.range (ws n).length).map fun j => match W.cell? (a.add j) with | some (.int _ u) => u.toNat | _ => 0) = ws n := by
      apply List.ext_getElem (by simp)
      intro j h1 h2
      obtain ⟨a', e, -, hc⟩ := Rd.word hr h2
      cases e
      rw [List.getElem_map, List.getElem_range, hc]
      rw [List.getD_eq_getElem?_getD, List.getElem?_eq_getElem h2]
      simp
    dsimp only
    rw [e]
    exact ws_val n

set_option maxRecDepth 100000 in
set_option maxHeartbeats 4000000 in
theorem gcd_any (x y : Int) (vx vy : Value) (w : World) (hvx : Wi w w.heap.size vx x) (hvy : Wi w w.heap.size vy y) (hlx : (ws x.natAbs).length ≤ 90000) (hly : (ws y.natAbs).length ≤ 90000) :
    Calls Tryd.prog 41 #[vx, vy] w fun e W' => (∃ u, e = .returned u ∧ Wi W' W'.heap.size u (Nat.gcd x.natAbs y.natAbs : Int)) ∧ Below w.heap.size w W' := by
  obtain ⟨ux, rfl, hx⟩ := hvx
  obtain ⟨uy, rfl, hy⟩ := hvy
  have hx' := hx
  have hy' := hy
  obtain ⟨A, c, rfl, -, -, -⟩ := hx'
  obtain ⟨C, d, rfl, -, -, -⟩ := hy'
  unfold intV
  obtain ⟨X, hX⟩ : ∃ X, X = x.natAbs := ⟨_, rfl⟩
  obtain ⟨Y, hY⟩ : ∃ Y, Y = y.natAbs := ⟨_, rfl⟩
  rw [← hX] at hx hlx ⊢
  rw [← hY] at hy hly ⊢
  obtain ⟨n, hn⟩ : ∃ n, n = (ws X).length := ⟨_, rfl⟩
  obtain ⟨m, hm⟩ : ∃ m, m = (ws Y).length := ⟨_, rfl⟩
  obtain ⟨s, hs⟩ : ∃ s, s = decide (x < 0) := ⟨_, rfl⟩
  obtain ⟨t, ht⟩ : ∃ t, t = decide (y < 0) := ⟨_, rfl⟩
  rw [← hn] at hx ⊢
  rw [← hm] at hy ⊢
  rw [← hs, ← ht]
  have HLX := Lib.hid hlx
  have HLY := Lib.hid hly
  clear hn hm hs ht hX hY hlx hly
  obtain ⟨w3, hw3, b1, b2, b3, bw⟩ := box3w w (.bool s) (.slice A n c) (.bool t) (.slice C m d)
  go_enter Tryd.func41, Tryd.ntmps41
  go_wp2_with fail
  rw [← hw3]
  clear hw3
  obtain ⟨S, hSd⟩ : ∃ S : World → Prop, S = fun w' => w'.cell? ⟨w.heap.size, 0, none⟩ = some (.bool s) ∧ w'.cell? ⟨w.heap.size, 1, none⟩ = some (.slice A n c) ∧ w'.cell? ⟨w.heap.size + 1, 0, none⟩ = some (.bool t) ∧ w'.cell? ⟨w.heap.size + 1, 1, none⟩ = some (.slice C m d) := ⟨_, rfl⟩
  have hSr : ∀ V, Row V (w.heap.size) 33 [.bool s, .slice A n c] → Row V (w.heap.size + 1) 33 [.bool t, .slice C m d] → S V := fun V h0 h1 => by rw [hSd]; exact ⟨h0.cell 0 _ rfl, h0.cell 1 _ rfl, h1.cell 0 _ rfl, h1.cell 1 _ rfl⟩
  have HSR := Lib.hid hSr
  refine wp_region_held (S := S) (by kernel_rfl) ?_
  change wpAnyH _ _ _ _ _ _ _ _ w3.drew
  have hS0 : S w3.drew := hSr _ b1 b2
  have c0_0 : Row w3.drew (w.heap.size) 33 [.bool s, .slice A n c] := b1
  have c1_0 : Row w3.drew (w.heap.size + 1) 33 [.bool t, .slice C m d] := b2
  have r0_0 : Row w3.drew (w.heap.size + 1 + 1) 33 [.bool false, .slice none 0 0] := b3
  have bd_0 : Below w.heap.size w w3.drew := (bw).drew
  obtain ⟨V0, hV0⟩ : ∃ V0, V0 = w3.drew := ⟨_, rfl⟩
  rw [← hV0] at hS0 c0_0 c1_0 r0_0 bd_0 ⊢
  subst hSd
  clear hSr
  refine wpAnyH_take (i := 0) (v := .pointer (some ⟨w.heap.size, 1, none⟩)) rfl (by kernel_rfl) (by kernel_rfl) (by kernel_rfl) (fun _ _ _ h => h) (Or.inl ⟨by rfl, by intro w hSw; go_simp⟩) hS0 ?_
  refine wpAnyH_take (i := 1) (v := .slice A n c) rfl (by kernel_rfl) (by kernel_rfl) (by kernel_rfl) (fun _ _ _ h => h) (Or.inl ⟨by rfl, by intro w hSw; obtain ⟨q0, q1, q2, q3⟩ := hSw; go_simp⟩) hS0 ?_
  refine wpAnyH_take (i := 2) (v := .pointer (some ⟨w.heap.size + 1, 1, none⟩)) rfl (by kernel_rfl) (by kernel_rfl) (by kernel_rfl) (fun _ _ _ h => h) (Or.inl ⟨by rfl, by intro w hSw; go_simp⟩) hS0 ?_
  refine wpAnyH_take (i := 3) (v := .slice C m d) rfl (by kernel_rfl) (by kernel_rfl) (by kernel_rfl) (fun _ _ _ h => h) (Or.inl ⟨by rfl, by intro w hSw; obtain ⟨q0, q1, q2, q3⟩ := hSw; go_simp⟩) hS0 ?_
  dsimp only [Act.put, List.getElem_toArray, List.getElem_cons_succ, List.getElem_cons_zero, List.setIfInBounds_toArray, List.set_cons_zero, List.set_cons_succ]
  refine wpAnyH_take (i := 4) (v := .slice A n c) rfl (by kernel_rfl) (by kernel_rfl) (by kernel_rfl) (fun _ _ _ h => h) (Or.inl ⟨by rfl, by intro w hSw; go_simp⟩) hS0 ?_
  refine wpAnyH_take (i := 5) (v := .slice C m d) rfl (by kernel_rfl) (by kernel_rfl) (by kernel_rfl) (fun _ _ _ h => h) (Or.inl ⟨by rfl, by intro w hSw; go_simp⟩) hS0 ?_
  dsimp only [Act.put, List.getElem_toArray, List.getElem_cons_succ, List.getElem_cons_zero, List.setIfInBounds_toArray, List.set_cons_zero, List.set_cons_succ]
  refine wpAnyH_done (by kernel_rfl) ?_ _
  simp only [List.setIfInBounds_toArray, List.set_cons_zero, List.set_cons_succ]
  have ha : Wl V0 V0.heap.size _ _ := hx.later bd_0 bd_0.size
  have hb : Wl V0 V0.heap.size _ _ := hy.later bd_0 bd_0.size
  clear hV0 hS0 HSR c0_0 c1_0 b1 b2 b3 bw hx hy
  go_wp2_with fail
  go_loopw [5, 6] (fun av bv W => ∃ a b : Nat, Wl W W.heap.size av a ∧ Wl W W.heap.size bv b ∧ Hid (Nat.gcd a b = Nat.gcd X Y) ∧ Hid ((ws a).length ≤ 90000 ∧ (ws b).length ≤ 90000) ∧ Row W (w.heap.size + 1 + 1) 33 [.bool false, .slice none 0 0] ∧ Below w.heap.size w W) (fun _ bv W => wnum W bv)
  case atStart => exact ⟨X, Y, ha, hb, rfl, ⟨HLX.out, HLY.out⟩, r0_0, bd_0⟩
  case round =>
    obtain ⟨a, b, ha, hb, hg, hl, hrow, hlow⟩ := hrel
    obtain ⟨hla, hlb⟩ := hl.out
    have HLA := Lib.hid hla
    have HLB := Lib.hid hlb
    have ha' := ha
    have hb' := hb
    obtain ⟨A1, c1, rfl, -, -, -⟩ := ha'
    obtain ⟨C1, d1, rfl, -, -, -⟩ := hb'
    have hb0 : (ws b).length = 0 ↔ b = 0 := digs_nil (by decide)
    obtain ⟨na, hna⟩ : ∃ na, na = (ws a).length := ⟨_, rfl⟩
    obtain ⟨nb, hnb⟩ : ∃ nb, nb = (ws b).length := ⟨_, rfl⟩
    rw [← hna] at ha ⊢
    rw [← hnb] at hb hb0 ⊢
    have hwn := Lib.hid (wnum_eq hb)
    clear hna hnb hl hla hlb
    by_cases hz : b = 0
    · have hnz := hb0.2 hz
      subst hnz
      subst hz
      have hga : Hid (((Nat.gcd X Y : Nat) : Int) = if false = true then -(a : Int) else (a : Int)) := Lib.hid (by rw [← hg.out, Nat.gcd_zero_right]; rfl)
      clear hb0 hg hwn hb
      go_wp2_with fail
      refine (clone_w _ a (by have := HLA.out; omega) _ ha).mono ?_
      rintro e W1 ⟨⟨u, rfl, hu⟩, hB1⟩
      have hu' := hu
      obtain ⟨A2, c2, rfl, -, -, -⟩ := hu'
      have row1 := hrow.below hB1 hrow.lt
      have low1 := hlow.trans (hB1.mono hlow.size)
      clear ha hrow hlow hB1
      go_wp2_with fail
      refine (signed_w false a _ ((Nat.gcd X Y : Nat) : Int) hga.out W1 hu).mono ?_
      rintro e W2 ⟨⟨u, rfl, hv⟩, hB2⟩
      obtain ⟨u, rfl, hv⟩ := hv
      have hv' := hv
      obtain ⟨A3, c3, rfl, -, -, -⟩ := hv'
      unfold intV
      have row2 := row1.below hB2 row1.lt
      have low2 := low1.trans (hB2.mono low1.size)
      clear hu row1 low1 hB2
      have k0 := row2.cell 0 _ rfl
      have k1 := row2.cell 1 _ rfl
      have f0 := row2.frozen 0
      have f1 := row2.frozen 1
      obtain ⟨G, hG⟩ : ∃ G : Int, G = ((Nat.gcd X Y : Nat) : Int) := ⟨_, rfl⟩
      rw [← hG] at hv ⊢
      have HG := Lib.hid hG
      clear hga hG
      obtain ⟨ng, hng⟩ : ∃ ng, ng = (ws G.natAbs).length := ⟨_, rfl⟩
      obtain ⟨sg, hsg⟩ : ∃ sg, sg = decide (G < 0) := ⟨_, rfl⟩
      rw [← hng] at hv ⊢
      rw [← hsg]
      have HSG := Lib.hid hsg
      clear hng hsg
      go_wp2_with fail
      have bt : But W2.heap.size (w.heap.size + 1 + 1) W2 ((W2.setCell ⟨w.heap.size + 1 + 1, 0, none⟩ (.bool sg)).setCell ⟨w.heap.size + 1 + 1, 1, none⟩ (.slice A3 ng c3)) := (But.setCell _ _ _ _ _).trans (But.setCell _ _ _ _ _)
      exact bodyPost_ret (res_row rfl rfl (row2.set2 _ _) Tryd.underlying33 rfl sizeW) rfl ⟨⟨_, rfl, .slice A3 ng c3, (by rw [HSG.out, HG.out]; rfl), (by rw [← HG.out]; exact (hv.but_struct row2 bt).grow bt.size)⟩, low2.trans (bt.low.mono (by omega))⟩
    · have hnz : (0 : Int) < (nb : Int) := by have : nb ≠ 0 := fun e => hz (hb0.1 e); omega
      have HZ := Lib.hid (Nat.pos_of_ne_zero hz)
      have hlr : Hid ((ws (a % b)).length ≤ 90000) := Lib.hid (Nat.le_trans (len_mono (Nat.le_of_lt (Nat.mod_lt _ HZ.out))) HLB.out)
      clear hz hb0
      go_wp2_with fail
      refine (divide_w _ _ a b _ ha hb (by have := HLA.out; omega) HZ.out).mono ?_
      rintro e W1 ⟨⟨q, r, rfl, hq, hr⟩, hB1⟩
      have hr' := hr
      have hq' := hq
      obtain ⟨A2, c2, rfl, -, -, -⟩ := hr'
      obtain ⟨A3, c3, rfl, -, -, -⟩ := hq'
      have row1 := hrow.below hB1 hrow.lt
      have low1 := hlow.trans (hB1.mono hlow.size)
      have hb1 := hb.later hB1 hB1.size
      have hm1 := Lib.hid (wnum_eq hr)
      clear ha hb hrow hlow hB1 hq
      go_wp2_with fail
      go_roundw
      case rel => exact ⟨b, a % b, hb1, hr, Lib.hid (by rw [← hg.out, Nat.gcd_comm a b, Nat.gcd_rec b a]; exact Nat.gcd_comm _ _), Lib.hid ⟨HLB.out, hlr.out⟩, row1, low1⟩
      case measure => rw [hm1.out, hwn.out]; exact Nat.mod_lt _ HZ.out
end Go.Proofs.YtmpdoikdadjneaaDoor

/- What Compare, From and Small answer. -/
namespace Go.Proofs.YtmpdoikdadjneaaDoor
open Go.RowKit Go.Shelf Hb Vm Ds Vr

theorem cmpI_cases (a b : Int) : (cmpI a b = -1 ∧ a < b) ∨ (cmpI a b = 0 ∧ a = b) ∨ (cmpI a b = 1 ∧ b < a) := by
  unfold cmpI
  by_cases h1 : a < b
  · exact .inl ⟨if_pos h1, h1⟩
  · by_cases h2 : b < a
    · exact .inr (.inr ⟨by rw [if_neg h1, if_pos h2], h2⟩)
    · exact .inr (.inl ⟨by rw [if_neg h1, if_neg h2], by omega⟩)
theorem cmp_wide (x y : Int) : orI (cmpI (cmpI x 0) (cmpI y 0)) (cmpI x 0 * cmpI (x.natAbs : Int) (y.natAbs : Int)) = cmpI x y := by
  have h1 := cmpI_cases x 0
  have h2 := cmpI_cases y 0
  have h3 := cmpI_cases (x.natAbs : Int) (y.natAbs : Int)
  have h4 := cmpI_cases x y
  generalize cmpI x y = d at *
  generalize cmpI (x.natAbs : Int) (y.natAbs : Int) = c at *
  generalize cmpI x 0 = a at *
  generalize cmpI y 0 = b at *
  have h5 := cmpI_cases a b
  generalize cmpI a b = e at *
  unfold orI
  rcases h1 with ⟨rfl, h1⟩ | ⟨rfl, h1⟩ | ⟨rfl, h1⟩ <;> rcases h3 with ⟨rfl, h3⟩ | ⟨rfl, h3⟩ | ⟨rfl, h3⟩ <;> rcases h5 with ⟨rfl, h5⟩ | ⟨rfl, h5⟩ | ⟨rfl, h5⟩ <;> simp <;> omega
theorem cmp_mul (x y u v : Int) : IntKind.i64.wrap (cmpI x y * cmpI u v) = cmpI x y * cmpI u v := by
  have h1 := cmpI_cases x y
  have h3 := cmpI_cases u v
  generalize cmpI x y = a at *
  generalize cmpI u v = c at *
  rcases h1 with ⟨rfl, h1⟩ | ⟨rfl, h1⟩ | ⟨rfl, h1⟩ <;> rcases h3 with ⟨rfl, h3⟩ | ⟨rfl, h3⟩ | ⟨rfl, h3⟩ <;> rfl

set_option maxRecDepth 100000 in
set_option maxHeartbeats 4000000 in
theorem compare_any (x y : Int) (vx vy : Value) (w : World) (hvx : Wi w w.heap.size vx x) (hvy : Wi w w.heap.size vy y) (hlx : (ws x.natAbs).length ≤ 200000) (hly : (ws y.natAbs).length ≤ 200000) :
    Calls Tryd.prog 37 #[vx, vy] w fun e W' => e = .returned (.int .i64 (cmpI x y)) ∧ Below w.heap.size w W' := by
  have hvx' := hvx
  have hvy' := hvy
  obtain ⟨ux, rfl, hx⟩ := hvx'
  obtain ⟨uy, rfl, hy⟩ := hvy'
  have hx' := hx
  have hy' := hy
  obtain ⟨A, c, rfl, -, -, -⟩ := hx'
  obtain ⟨C, d, rfl, -, -, -⟩ := hy'
  unfold intV at hvx hvy ⊢
  obtain ⟨n, hn⟩ : ∃ n, n = (ws x.natAbs).length := ⟨_, rfl⟩
  obtain ⟨m, hm⟩ : ∃ m, m = (ws y.natAbs).length := ⟨_, rfl⟩
  obtain ⟨s, hs⟩ : ∃ s, s = decide (x < 0) := ⟨_, rfl⟩
  obtain ⟨t, ht⟩ : ∃ t, t = decide (y < 0) := ⟨_, rfl⟩
  obtain ⟨r, hr⟩ : ∃ r, r = cmpI x y := ⟨_, rfl⟩
  rw [← hr]
  obtain ⟨ca, hca⟩ : ∃ ca, ca = cmpI x 0 := ⟨_, rfl⟩
  obtain ⟨cb, hcb⟩ : ∃ cb, cb = cmpI y 0 := ⟨_, rfl⟩
  obtain ⟨cc, hcc⟩ : ∃ cc, cc = cmpI (x.natAbs : Int) (y.natAbs : Int) := ⟨_, rfl⟩
  obtain ⟨ce, hce⟩ : ∃ ce, ce = cmpI ca cb := ⟨_, rfl⟩
  have HM : IntKind.i64.wrap (ca * cc) = ca * cc := by rw [hca, hcc]; exact cmp_mul _ _ _ _
  have HR : Hid (orI ce (ca * cc) = r) := Lib.hid (by rw [hce, hca, hcb, hcc, hr]; exact cmp_wide x y)
  have HCA := Lib.hid hca
  have HCB := Lib.hid hcb
  have HCC := Lib.hid hcc
  have HCE := Lib.hid hce
  rw [← hn, ← hs] at hvx ⊢
  rw [← hm, ← ht] at hvy ⊢
  rw [← hn] at hx
  rw [← hm] at hy
  have HLX := Lib.hid hlx
  have HLY := Lib.hid hly
  clear hn hm hs ht hlx hly hr hca hcb hcc hce
  obtain ⟨w3, hw3, b1, b2, bw⟩ : ∃ w3, w3 = (w.alloc (.cells #[.bool s, .slice A n c] 33)).alloc (.cells #[.bool t, .slice C m d] 33) ∧ Row w3 w.heap.size 33 [.bool s, .slice A n c] ∧ Row w3 (w.heap.size + 1) 33 [.bool t, .slice C m d] ∧ Below w.heap.size w w3 :=
    ⟨_, rfl, (Row.new w _ [.bool s, .slice A n c]).alloc _, Row.new2 w _ _ _ _, ((Below.refl _ w).alloc (Nat.le_refl _) _).alloc (by simp) _⟩
  go_enter Tryd.func37, Tryd.ntmps37
  go_wp2_with fail
  rw [← hw3]
  clear hw3
  obtain ⟨S, hSd⟩ : ∃ S : World → Prop, S = fun w' => w'.cell? ⟨w.heap.size, 0, none⟩ = some (.bool s) ∧ w'.cell? ⟨w.heap.size, 1, none⟩ = some (.slice A n c) ∧ w'.cell? ⟨w.heap.size + 1, 0, none⟩ = some (.bool t) ∧ w'.cell? ⟨w.heap.size + 1, 1, none⟩ = some (.slice C m d) := ⟨_, rfl⟩
  have hSr : ∀ V, Row V (w.heap.size) 33 [.bool s, .slice A n c] → Row V (w.heap.size + 1) 33 [.bool t, .slice C m d] → S V := fun V h0 h1 => by rw [hSd]; exact ⟨h0.cell 0 _ rfl, h0.cell 1 _ rfl, h1.cell 0 _ rfl, h1.cell 1 _ rfl⟩
  have HSR := Lib.hid hSr
  refine wp_region_held (S := S) (by kernel_rfl) ?_
  change wpAnyH _ _ _ _ _ _ _ _ w3.drew
  have hS0 : S w3.drew := hSr _ b1 b2
  have c0_0 : Row w3.drew (w.heap.size) 33 [.bool s, .slice A n c] := b1
  have c1_0 : Row w3.drew (w.heap.size + 1) 33 [.bool t, .slice C m d] := b2
  have bd_0 : Below w.heap.size w w3.drew := (bw).drew
  obtain ⟨V0, hV0⟩ : ∃ V0, V0 = w3.drew := ⟨_, rfl⟩
  rw [← hV0] at hS0 c0_0 c1_0 bd_0 ⊢
  subst hSd
  clear hSr
  clear hV0
  refine wpAnyH_take (i := 0) (v := .agg #[.bool s, .slice A n c]) rfl (by kernel_rfl) (by kernel_rfl) (by kernel_rfl) (fun _ _ _ h => h) (Or.inl ⟨by rfl, by intro w hSw; obtain ⟨q0, q1, q2, q3⟩ := hSw; go_simp⟩) hS0 ?_
  refine wpAnyH_take (i := 2) (v := .agg #[.bool t, .slice C m d]) rfl (by kernel_rfl) (by kernel_rfl) (by kernel_rfl) (fun _ _ _ h => h) (Or.inl ⟨by rfl, by intro w hSw; obtain ⟨q0, q1, q2, q3⟩ := hSw; go_simp⟩) hS0 ?_
  dsimp only [Act.put, List.getElem_toArray, List.getElem_cons_succ, List.getElem_cons_zero, List.setIfInBounds_toArray, List.set_cons_zero, List.set_cons_succ]
  refine wpAnyH_take (i := 5) (v := .agg #[.bool s, .slice A n c]) rfl (by kernel_rfl) (by kernel_rfl) (by kernel_rfl) (fun _ _ _ h => h) (Or.inl ⟨by rfl, by intro w hSw; obtain ⟨q0, q1, q2, q3⟩ := hSw; go_simp⟩) hS0 ?_
  refine wpAnyH_take (i := 7) (v := .pointer (some ⟨w.heap.size, 1, none⟩)) rfl (by kernel_rfl) (by kernel_rfl) (by kernel_rfl) (fun _ _ _ h => h) (Or.inl ⟨by rfl, by intro w hSw; go_simp⟩) hS0 ?_
  dsimp only [Act.put, List.getElem_toArray, List.getElem_cons_succ, List.getElem_cons_zero, List.setIfInBounds_toArray, List.set_cons_zero, List.set_cons_succ]
  refine wpAnyH_take (i := 8) (v := .slice A n c) rfl (by kernel_rfl) (by kernel_rfl) (by kernel_rfl) (fun _ _ _ h => h) (Or.inl ⟨by rfl, by intro w hSw; obtain ⟨q0, q1, q2, q3⟩ := hSw; go_simp⟩) hS0 ?_
  refine wpAnyH_take (i := 9) (v := .pointer (some ⟨w.heap.size + 1, 1, none⟩)) rfl (by kernel_rfl) (by kernel_rfl) (by kernel_rfl) (fun _ _ _ h => h) (Or.inl ⟨by rfl, by intro w hSw; go_simp⟩) hS0 ?_
  refine wpAnyH_take (i := 10) (v := .slice C m d) rfl (by kernel_rfl) (by kernel_rfl) (by kernel_rfl) (fun _ _ _ h => h) (Or.inl ⟨by rfl, by intro w hSw; obtain ⟨q0, q1, q2, q3⟩ := hSw; go_simp⟩) hS0 ?_
  dsimp only [Act.put, List.getElem_toArray, List.getElem_cons_succ, List.getElem_cons_zero, List.setIfInBounds_toArray, List.set_cons_zero, List.set_cons_succ]
  simp only [List.setIfInBounds_toArray, List.set_cons_zero, List.set_cons_succ]
  refine one_ready (i := 1) (by kernel_rfl) rfl (fun K hK => ?_)
  go_simp
  refine (sign_any x _ V0 (hvx.later bd_0 bd_0.size)).mono ?_
  rintro e U1 ⟨rfl, hB1⟩
  rw [← HCA.out]
  dsimp only
  have c0_1 := c0_0.below hB1 c0_0.lt
  have c1_1 := c1_0.below hB1 c1_0.lt
  have bd_1 := bd_0.trans (hB1.mono bd_0.size)
  have hS1 := HSR.out U1 c0_1 c1_1
  refine hK.out _ _ hS1 (fun _ => ?_)
  clear hK K hS0 bd_0 c0_0 c1_0 
  refine one_ready (i := 3) (by kernel_rfl) rfl (fun K hK => ?_)
  go_simp
  refine (sign_any y _ U1 (hvy.later bd_1 bd_1.size)).mono ?_
  rintro e U2 ⟨rfl, hB2⟩
  rw [← HCB.out]
  dsimp only
  have c0_2 := c0_1.below hB2 c0_1.lt
  have c1_2 := c1_1.below hB2 c1_1.lt
  have bd_2 := bd_1.trans (hB2.mono bd_1.size)
  have hS2 := HSR.out U2 c0_2 c1_2
  refine hK.out _ _ hS2 (fun _ => ?_)
  clear hK K hS1 bd_1 c0_1 c1_1 hB1
  refine one_ready (i := 4) (by kernel_rfl) rfl (fun K hK => ?_)
  go_simp
  refine (sameB (cmp_i64 ca cb U2)).mono ?_
  rintro e U3 ⟨rfl, hB3⟩
  rw [← HCE.out]
  dsimp only
  have c0_3 := c0_2.below hB3 c0_2.lt
  have c1_3 := c1_2.below hB3 c1_2.lt
  have bd_3 := bd_2.trans (hB3.mono bd_2.size)
  have hS3 := HSR.out U3 c0_3 c1_3
  refine hK.out _ _ hS3 (fun _ => ?_)
  clear hK K hS2 bd_2 c0_2 c1_2 hB2
  refine one_ready (i := 6) (by kernel_rfl) rfl (fun K hK => ?_)
  go_simp
  refine (sign_any x _ U3 (hvx.later bd_3 bd_3.size)).mono ?_
  rintro e U4 ⟨rfl, hB4⟩
  rw [← HCA.out]
  dsimp only
  have c0_4 := c0_3.below hB4 c0_3.lt
  have c1_4 := c1_3.below hB4 c1_3.lt
  have bd_4 := bd_3.trans (hB4.mono bd_3.size)
  have hS4 := HSR.out U4 c0_4 c1_4
  refine hK.out _ _ hS4 (fun _ => ?_)
  clear hK K hS3 bd_3 c0_3 c1_3 hB3
  refine one_ready (i := 11) (by kernel_rfl) rfl (fun K hK => ?_)
  go_simp
  refine (cmp_w _ _ x.natAbs y.natAbs U4 (hx.later bd_4 bd_4.size) (hy.later bd_4 bd_4.size) HLX.out HLY.out).mono ?_
  rintro e U5 ⟨rfl, hB5⟩
  rw [← HCC.out]
  dsimp only
  have c0_5 := c0_4.below hB5 c0_4.lt
  have c1_5 := c1_4.below hB5 c1_4.lt
  have bd_5 := bd_4.trans (hB5.mono bd_4.size)
  have hS5 := HSR.out U5 c0_5 c1_5
  refine hK.out _ _ hS5 (fun _ => ?_)
  clear hK K hS4 bd_4 c0_4 c1_4 hB4
  refine wpAnyH_take (i := 12) (v := .int .i64 (ca * cc)) rfl (by kernel_rfl) (by kernel_rfl) (by kernel_rfl) (fun _ _ _ h => h) (Or.inl ⟨by rfl, by intro w hSw; go_simp⟩) hS5 ?_
  dsimp only [Act.put, List.getElem_toArray, List.getElem_cons_succ, List.getElem_cons_zero, List.setIfInBounds_toArray, List.set_cons_zero, List.set_cons_succ]
  refine one_ready (i := 13) (by kernel_rfl) rfl (fun K hK => ?_)
  go_simp
  obtain ⟨U6, hU⟩ : ∃ U6, U6 = U5.alloc (.cells #[.int .i64 ce, .int .i64 (ca * cc)] 3) := ⟨_, rfl⟩
  have hB6 : Below U5.heap.size U5 U6 := by rw [hU]; exact (Below.refl _ _).alloc (Nat.le_refl _) _
  have k0 : U6.cell? ⟨U5.heap.size, 0, none⟩ = some (.int .i64 ce) := by rw [hU]; exact (Row.new U5 3 [.int .i64 ce, .int .i64 (ca * cc)]).cell 0 _ rfl
  have k1 : U6.cell? ⟨U5.heap.size, 1, none⟩ = some (.int .i64 (ca * cc)) := by rw [hU]; exact (Row.new U5 3 [.int .i64 ce, .int .i64 (ca * cc)]).cell 1 _ rfl
  rw [← hU]
  clear hU
  have c0_6 := c0_5.below hB6 c0_5.lt
  have c1_6 := c1_5.below hB6 c1_5.lt
  have bd_6 := bd_5.trans (hB6.mono bd_5.size)
  have hS6 := HSR.out U6 c0_6 c1_6
  refine hK.out _ _ hS6 (fun _ => ?_)
  clear hK K hS5 bd_5 c0_5 c1_5
  refine one_ready (i := 14) (by kernel_rfl) rfl (fun K hK => ?_)
  go_simp
  refine (sameB (or_any U5.heap.size ce (ca * cc) U6 k0 k1)).mono ?_
  rintro e U7 ⟨rfl, hB7⟩
  rw [HR.out]
  dsimp only
  have c0_7 := c0_6.below hB7 c0_6.lt
  have c1_7 := c1_6.below hB7 c1_6.lt
  have bd_7 := bd_6.trans (hB7.mono bd_6.size)
  have hS7 := HSR.out U7 c0_7 c1_7
  refine hK.out _ _ hS7 (fun _ => ?_)
  clear hK K hS6 bd_6 c0_6 c1_6 k0 k1 hB6
  refine wpAnyH_take (i := 15) (v := .int .i64 r) rfl (by kernel_rfl) (by kernel_rfl) (by kernel_rfl) (fun _ _ _ h => h) (Or.inl ⟨by rfl, by intro w hSw; go_simp⟩) hS7 ?_
  dsimp only [Act.put, List.getElem_toArray, List.getElem_cons_succ, List.getElem_cons_zero, List.setIfInBounds_toArray, List.set_cons_zero, List.set_cons_succ]
  simp only [List.setIfInBounds_toArray, List.set_cons_zero, List.set_cons_succ]
  refine wpAnyH_done (by kernel_rfl) ?_ _
  go_wp2_with fail
  go_ret
  exact ⟨rfl, bd_7⟩
end Go.Proofs.YtmpdoikdadjneaaDoor
