/- The laws' helpers: wider, equal, lives. -/
import Derived.Test.YtmpdoikdadjneaaDoorCJ
import Derived.Test.YtmpdoikdadjneaaDoorCK
import Derived.Test.YtmpdoikdadjneaaDoorCG
import Derived.Deep.RegionHeld3
import Derived.Deep.RegionWith
namespace Go.Proofs.YtmpdoikdadjneaaDoor
open Go.RowKit Go.Shelf Hb Vm Ds Vr

set_option maxRecDepth 100000 in
set_option maxHeartbeats 4000000 in
theorem wider_any (x : Int) (vx : Value) (w : World) (hvx : Ni w w.heap.size vx x) (hlx : (ds x.natAbs).length ≤ 100000) (hsz : (decS x).size ≤ 1000000) :
    Calls Tryd.prog 25 #[vx] w fun e W' => (∃ u, e = .returned (.tuple #[u, .bool (decide (InR x))]) ∧ Wi W' W'.heap.size u (if InR x then x else 0)) ∧ Below w.heap.size w W' := by
  obtain ⟨s, A, n, c, rfl⟩ := hvx.form
  have hb := NB.new hvx
  obtain ⟨w2, hw2⟩ : ∃ w2, w2 = (w.alloc (.cells #[.bool s, .slice A n c] 25)).alloc (.cells #[.bool false, .slice none 0 0] 33) := ⟨_, rfl⟩
  have hB2 : Below w.heap.size w w2 := by rw [hw2]; exact ((Below.refl _ w).alloc (Nat.le_refl _) _).alloc (by simp) _
  have hb2 : NB w2 w.heap.size s A n c x := by rw [hw2]; exact hb.later ((Below.refl _ _).alloc (Nat.le_refl _) _)
  have hr2 : Row w2 (w.heap.size + 1) 33 [.bool false, .slice none 0 0] := by rw [hw2]; exact Row.new2 w _ _ _ _
  have k0 := hb2.cells.1
  have k1 := hb2.cells.2.1
  have HL := Lib.hid hlx
  have HS := Lib.hid hsz
  rw [hw2] at k0 k1
  clear hb hvx hlx hsz
  obtain ⟨z, hz⟩ : ∃ z, z = (if InR x then x else 0) := ⟨_, rfl⟩
  obtain ⟨b, hb⟩ : ∃ b, b = decide (InR x) := ⟨_, rfl⟩
  rw [← hb, ← hz]
  have HBB := Lib.hid hb
  have HZZ := Lib.hid hz
  clear hb hz
  go_enter Tryd.func25, Tryd.ntmps25
  go_wp2_with fail
  rw [← hw2]
  clear hw2 k0 k1
  refine (text_any x _ w2 hb2.2 HL.out).mono ?_
  rintro e W3 ⟨rfl, hB3⟩
  have hr3 := hr2.below hB3 hr2.lt
  have low3 := hB2.trans (hB3.mono hB2.size)
  have lt3 := hr3.lt
  clear hb2 hr2 hB2 hB3
  have hp := parse_any (decS x) W3 HS.out
  unfold ParseW at hp
  rw [parseZ_dec] at hp
  obtain ⟨cz, hcz⟩ : ∃ cz, cz = codeP (decS x) := ⟨_, rfl⟩
  obtain ⟨t, ht⟩ : ∃ t, t = decS x := ⟨_, rfl⟩
  have hcb : (cz == 0) = b ∧ (if cz = 0 then x else 0) = z := by
    rw [hcz, codeP_dec, HBB.out, HZZ.out]
    by_cases h : InR x
    · rw [if_pos h, if_pos h, decide_eq_true h]; exact ⟨rfl, rfl⟩
    · rw [if_neg h, if_neg h, decide_eq_false h]; exact ⟨rfl, rfl⟩
  rw [← hcz, hcb.2] at hp
  rw [← ht] at hp ⊢
  have hcb1 := hcb.1
  clear hcb ht hcz HS HL
  have HP := Lib.hid hp
  clear hp
  go_wp2_with fail
  refine HP.out.mono ?_
  rintro e W4 ⟨⟨u, rfl, hu⟩, hB4⟩
  obtain ⟨s1, A1, n1, c1, rfl⟩ := hu.form
  have hr4 := hr3.below hB4 hr3.lt
  have low4 := low3.trans (hB4.mono low3.size)
  clear hr3 low3 hB4 HP lt3
  unfold errI
  have hn := WB.new hu
  have hr5 := hr4.alloc (.cells #[.bool s1, .slice A1 n1 c1] 33)
  have low5 := low4.alloc low4.size (.cells #[.bool s1, .slice A1 n1 c1] 33)
  have f0 := hr5.frozen 0
  have f1 := hr5.frozen 1
  have g0 := hr5.cell 0 _ rfl
  have g1 := hr5.cell 1 _ rfl
  go_wp2_with fail
  have bt := But.set2 (W4.alloc (.cells #[.bool s1, .slice A1 n1 c1] 33)).heap.size (w.heap.size + 1) (W4.alloc (.cells #[.bool s1, .slice A1 n1 c1] 33)) (.bool s1) (.slice A1 n1 c1)
  exact bodyPost_ret (res_row_tmp rfl rfl (hr5.set2 _ _) Tryd.underlying33 rfl sizeW) rfl ⟨⟨_, rfl, (hn.2.but_struct hr5 bt).grow bt.size⟩, low5.trans (bt.low.mono (by omega))⟩

set_option maxRecDepth 100000 in
set_option maxHeartbeats 4000000 in
theorem equal_any (x y : Int) (vx vy : Value) (w : World) (hvx : Wi w w.heap.size vx x) (hvy : Ni w w.heap.size vy y) (hlx : (ws x.natAbs).length ≤ 90000) (hly : (ds y.natAbs).length ≤ 100000) :
    Calls Tryd.prog 18 #[vx, vy] w fun e W' => e = .returned (.bool (decide (x = y))) ∧ Below w.heap.size w W' := by
  obtain ⟨s, A, n, c, rfl⟩ := hvx.form
  obtain ⟨s', A', n', c', rfl⟩ := hvy.form
  obtain ⟨w2, hw2⟩ : ∃ w2, w2 = (w.alloc (.cells #[.bool s, .slice A n c] 33)).alloc (.cells #[.bool s', .slice A' n' c'] 25) := ⟨_, rfl⟩
  have hB2 : Below w.heap.size w w2 := by rw [hw2]; exact ((Below.refl _ w).alloc (Nat.le_refl _) _).alloc (by simp) _
  have hx2 : WB w2 w.heap.size s A n c x := by rw [hw2]; exact (WB.new hvx).later ((Below.refl _ _).alloc (Nat.le_refl _) _)
  have hy2 : NB w2 (w.heap.size + 1) s' A' n' c' y := by
    refine ⟨by rw [hw2]; exact Row.new2 w _ _ _ _, hvy.later hB2 hB2.size⟩
  have hlt := hy2.lt
  have HLX := Lib.hid hlx
  have HLY := Lib.hid hly
  obtain ⟨b, hb⟩ : ∃ b, b = decide (x = y) := ⟨_, rfl⟩
  have hbq : ((decS x).toList == (decS y).toList) = b := by
    rw [hb]
    by_cases h : x = y
    · rw [decide_eq_true h, h]; exact beq_self_eq_true _
    · rw [decide_eq_false h]
      refine beq_eq_false_iff_ne.2 fun e => h (decS_inj (byte_ext ?_))
      rwa [ByteArray.toList_eq, ByteArray.toList_eq] at e
  rw [← hb]
  have hs : ∀ V, Below w2.heap.size w2 V → Calls Tryd.prog 19 #[.agg #[.bool s, .slice A n c]] V fun e W' => e = .returned (.string (decS x)) ∧ Below w2.heap.size w2 W' := fun V hV =>
    (str_any x _ V (hx2.2.later hV hV.size) HLX.out).mono fun _ _ ⟨he, h⟩ => ⟨he, hV.trans (h.mono hV.size)⟩
  have ht : ∀ V, Below w2.heap.size w2 V → Calls Tryd.prog 12 #[.agg #[.bool s', .slice A' n' c']] V fun e W' => e = .returned (.string (decS y)) ∧ Below w2.heap.size w2 W' := fun V hV =>
    (text_any y _ V (hy2.2.later hV hV.size) HLY.out).mono fun _ _ ⟨he, h⟩ => ⟨he, hV.trans (h.mono hV.size)⟩
  obtain ⟨tx, htx⟩ : ∃ tx, tx = decS x := ⟨_, rfl⟩
  obtain ⟨ty, hty⟩ : ∃ ty, ty = decS y := ⟨_, rfl⟩
  rw [← htx] at hbq hs
  rw [← hty] at hbq ht
  obtain ⟨k0, k1, -, -⟩ := hx2.cells
  obtain ⟨q0, q1, -, -⟩ := hy2.cells
  have hk : ∀ V, Below w2.heap.size w2 V → V.cell? ⟨w.heap.size, 0, none⟩ = some (.bool s) ∧ V.cell? ⟨w.heap.size, 1, none⟩ = some (.slice A n c) ∧ V.cell? ⟨w.heap.size + 1, 0, none⟩ = some (.bool s') ∧ V.cell? ⟨w.heap.size + 1, 1, none⟩ = some (.slice A' n' c') ∧ Below w2.heap.size w2 V := fun V hV =>
    ⟨(hV.cell hx2.lt).trans k0, (hV.cell hx2.lt).trans k1, (hV.cell hy2.lt).trans q0, (hV.cell hy2.lt).trans q1, hV⟩
  have HK := Lib.hid hk
  clear hk
  have HSS := Lib.hid hs
  have HTT := Lib.hid ht
  clear hs ht htx hty hb hlx hly hvx hvy
  go_enter Tryd.func18, Tryd.ntmps18
  go_wp2_with fail
  rw [← hw2]
  clear hw2
  have hst : Below w2.heap.size w2 w2.drew := (Below.refl _ _).drew
  go_region_held3 (fun w' => w'.cell? ⟨w.heap.size, 0, none⟩ = some (.bool s) ∧ w'.cell? ⟨w.heap.size, 1, none⟩ = some (.slice A n c) ∧ w'.cell? ⟨w.heap.size + 1, 0, none⟩ = some (.bool s') ∧ w'.cell? ⟨w.heap.size + 1, 1, none⟩ = some (.slice A' n' c') ∧ Below w2.heap.size w2 w')
    (first
      | exact HK.out _ hst
      | exact HK.out _ hB5
      | exact HK.out _ hB6)
    (first
      | (go_at_call 19; refine (HSS.out _ (by assumption)).mono ?_; rintro e W5 ⟨rfl, hB5⟩)
      | (go_at_call 12; refine (HTT.out _ (by assumption)).mono ?_; rintro e W6 ⟨rfl, hB6⟩))
  all_goals
    go_wp2_with fail
    go_ret
    first
      | exact ⟨rfl, hB2.trans (hB6.mono hB2.size)⟩
      | exact ⟨rfl, hB2.trans (hB5.mono hB2.size)⟩
end Go.Proofs.YtmpdoikdadjneaaDoor

/- The contracts in the form that the laws use: in range, no error. -/
namespace Go.Proofs.YtmpdoikdadjneaaDoor
open Go.RowKit Go.Shelf Hb Vm Ds Vr

def okI (v : Value) : Ending := .returned (.tuple #[v, .int .i64 0])
theorem InR.len {z : Int} (h : InR z) : (ws z.natAbs).length ≤ 512 := h
theorem errW_ok {z : Int} {w W' : World} {e : Ending} (hz : InR z) (h : ErrW z w e W') : (∃ u, e = .returned (.tuple #[u, .int .i64 0]) ∧ Wi W' W'.heap.size u z) ∧ Below w.heap.size w W' := by
  unfold ErrW at h
  rw [if_pos hz, if_pos hz] at h
  exact h
section
variable (x y : Int) (vx vy : Value) (w : World) (hvx : Wi w w.heap.size vx x) (hvy : Wi w w.heap.size vy y)
include hvx hvy
theorem add_ok (hx : InR x) (hy : InR y) (hz : InR (x + y)) : Calls Tryd.prog 27 #[vx, vy] w fun e W' => (∃ u, e = .returned (.tuple #[u, .int .i64 0]) ∧ Wi W' W'.heap.size u (x + y)) ∧ Below w.heap.size w W' :=
  (add_any x y vx vy w hvx hvy (by have := hx.len; omega) (by have := hy.len; omega) (fun _ => ⟨hx, hy⟩)).mono fun _ _ h => errW_ok hz h
theorem sub_ok (hx : InR x) (hy : InR y) (hz : InR (x - y)) : Calls Tryd.prog 28 #[vx, vy] w fun e W' => (∃ u, e = .returned (.tuple #[u, .int .i64 0]) ∧ Wi W' W'.heap.size u (x - y)) ∧ Below w.heap.size w W' :=
  (sub_any x y vx vy w hvx hvy hx hy).mono fun _ _ h => errW_ok hz h
theorem mul_ok (hx : InR x) (hy : InR y) (hz : InR (x * y)) : Calls Tryd.prog 31 #[vx, vy] w fun e W' => (∃ u, e = .returned (.tuple #[u, .int .i64 0]) ∧ Wi W' W'.heap.size u (x * y)) ∧ Below w.heap.size w W' :=
  (mul_any x y vx vy w hvx hvy (by have := hx.len; omega) (by have := hy.len; omega)).mono fun _ _ h => errW_ok hz h
theorem div_ok (hx : InR x) (hy : InR y) (h0 : y ≠ 0) : Calls Tryd.prog 33 #[vx, vy] w fun e W' => (∃ q r, e = .returned (.tuple #[q, r, .int .i64 0]) ∧ Wi W' W'.heap.size q (x / y) ∧ Wi W' W'.heap.size r (x % y)) ∧ Below w.heap.size w W' :=
  (div_any x y vx vy w hvx hvy (by have := hx.len; omega) (by have := hy.len; omega)).mono fun _ _ h => by
    unfold DivW at h
    rw [if_neg h0, if_neg h0, if_neg h0] at h
    exact h
end
theorem wider_ok (x : Int) (vx : Value) (w : World) (hvx : Ni w w.heap.size vx x) (hx : InR x) :
    Calls Tryd.prog 25 #[vx] w fun e W' => (∃ u, e = .returned (.tuple #[u, .bool true]) ∧ Wi W' W'.heap.size u x) ∧ Below w.heap.size w W' :=
  (wider_any x vx w hvx (Nat.le_trans (ds_two (inR_two.1 hx)) (by decide)) (by have := dec_size hx; omega)).mono fun _ _ h => by
    rw [if_pos hx, decide_eq_true hx] at h
    exact h
theorem equal_t (x y : Int) (hxy : x = y) (vx vy : Value) (w : World) (hvx : Wi w w.heap.size vx x) (hvy : Ni w w.heap.size vy y) (hx : InR x) :
    Calls Tryd.prog 18 #[vx, vy] w fun e W' => e = .returned (.bool true) ∧ Below w.heap.size w W' :=
  (equal_any x y vx vy w hvx hvy (by have := hx.len; omega) (by rw [← hxy]; exact Nat.le_trans (ds_two (inR_two.1 hx)) (by decide))).mono fun _ _ ⟨h, k⟩ => ⟨by rw [h, decide_eq_true hxy], k⟩
theorem str_ok (x : Int) (t : ByteArray) (ht : decS x = t) (vx : Value) (w : World) (hvx : Wi w w.heap.size vx x) (hx : InR x) :
    Calls Tryd.prog 19 #[vx] w fun e W' => e = .returned (.string t) ∧ Below w.heap.size w W' :=
  (str_any x vx w hvx (by have := hx.len; omega)).mono fun _ _ ⟨h, k⟩ => ⟨by rw [h, ht], k⟩
theorem inR_lt {z : Int} (h : z.natAbs < 18446744073709551617) : InR z := by
  unfold InR
  exact Nat.le_trans (digs_len_le (b := 4294967296) (k := 3) (by decide) (Nat.lt_of_lt_of_le h (by decide))) (by decide)
theorem alloc_low (W : World) (o : Obj) : Below W.heap.size W (W.alloc o) := (Below.refl _ W).alloc (Nat.le_refl _) _
end Go.Proofs.YtmpdoikdadjneaaDoor

/- The example of the laws. -/
namespace Go.Proofs.YtmpdoikdadjneaaDoor
open Go.RowKit Go.Shelf Hb Vm Ds Vr

theorem dec_at (t : ByteArray) (z : Int) (h : parseOK t) (hz : parseZ t = z) : decS z = t := by rw [← hz]; exact dec_parse t h
set_option maxRecDepth 100000 in
set_option maxHeartbeats 8000000 in
theorem lives_any (w : World) :
    Calls Tryd.prog 20 #[] w fun e W' => e = .returned (.bool true) ∧ Below w.heap.size w W' := by
  have low : Below w.heap.size w w := Below.refl _ _
  go_enter Tryd.func20, Tryd.ntmps20
  go_wp2_with fail
  refine (from_any (-7) (by decide) (by decide) w).mono ?_
  rintro e V1 ⟨⟨u_a, rfl, h_a⟩, hB⟩
  replace low := low.trans (hB.mono low.size)
  clear hB
  go_wp2_with fail
  refine (from_any (2) (by decide) (by decide) V1).mono ?_
  rintro e V2 ⟨⟨u_b, rfl, h_b⟩, hB⟩
  replace h_a := h_a.later hB hB.size
  replace low := low.trans (hB.mono low.size)
  clear hB
  go_wp2_with fail
  refine (div_ok (-7) (2) _ _ V2 h_a h_b (inR_lt (by decide)) (inR_lt (by decide)) (by decide)).mono ?_
  rintro e V3 ⟨⟨u_q, u_r, rfl, h_q, h_r⟩, hB⟩
  replace h_a := h_a.later hB hB.size
  replace h_b := h_b.later hB hB.size
  replace low := low.trans (hB.mono low.size)
  clear hB
  clear h_a
  clear h_b
  obtain ⟨s_q, A_q, n_q, c_q, rfl⟩ := h_q.form
  have x_q := WB.new h_q
  replace h_q := h_q.later (alloc_low (V3) (.cells #[.bool s_q, .slice A_q n_q c_q] 33)) (alloc_low (V3) (.cells #[.bool s_q, .slice A_q n_q c_q] 33)).size
  replace h_r := h_r.later (alloc_low (V3) (.cells #[.bool s_q, .slice A_q n_q c_q] 33)) (alloc_low (V3) (.cells #[.bool s_q, .slice A_q n_q c_q] 33)).size
  replace low := low.trans ((alloc_low (V3) (.cells #[.bool s_q, .slice A_q n_q c_q] 33)).mono low.size)
  obtain ⟨s_r, A_r, n_r, c_r, rfl⟩ := h_r.form
  have x_r := WB.new h_r
  simp only [World.size_alloc] at x_r
  replace x_q := x_q.later (alloc_low ((V3).alloc (.cells #[.bool s_q, .slice A_q n_q c_q] 33)) (.cells #[.bool s_r, .slice A_r n_r c_r] 33))
  replace h_q := h_q.later (alloc_low ((V3).alloc (.cells #[.bool s_q, .slice A_q n_q c_q] 33)) (.cells #[.bool s_r, .slice A_r n_r c_r] 33)) (alloc_low ((V3).alloc (.cells #[.bool s_q, .slice A_q n_q c_q] 33)) (.cells #[.bool s_r, .slice A_r n_r c_r] 33)).size
  replace h_r := h_r.later (alloc_low ((V3).alloc (.cells #[.bool s_q, .slice A_q n_q c_q] 33)) (.cells #[.bool s_r, .slice A_r n_r c_r] 33)) (alloc_low ((V3).alloc (.cells #[.bool s_q, .slice A_q n_q c_q] 33)) (.cells #[.bool s_r, .slice A_r n_r c_r] 33)).size
  replace low := low.trans ((alloc_low ((V3).alloc (.cells #[.bool s_q, .slice A_q n_q c_q] 33)) (.cells #[.bool s_r, .slice A_r n_r c_r] 33)).mono low.size)
  go_wp2_with fail
  clear h_q
  clear h_r
  obtain ⟨V4, hV⟩ : ∃ V4, V4 = ((V3).alloc (.cells #[.bool s_q, .slice A_q n_q c_q] 33)).alloc (.cells #[.bool s_r, .slice A_r n_r c_r] 33) := ⟨_, rfl⟩
  rw [← hV] at x_q x_r low ⊢
  clear hV
  obtain ⟨p4, hp⟩ : ∃ p4, p4 = V3.heap.size := ⟨_, rfl⟩
  rw [← hp] at x_q x_r ⊢
  clear hp
  refine (from_any (7) (by decide) (by decide) V4).mono ?_
  rintro e V5 ⟨⟨u_a, rfl, h_a⟩, hB⟩
  replace x_q := x_q.later hB
  replace x_r := x_r.later hB
  replace low := low.trans (hB.mono low.size)
  clear hB
  go_wp2_with fail
  refine (from_any (-2) (by decide) (by decide) V5).mono ?_
  rintro e V6 ⟨⟨u_b, rfl, h_b⟩, hB⟩
  replace x_q := x_q.later hB
  replace x_r := x_r.later hB
  replace h_a := h_a.later hB hB.size
  replace low := low.trans (hB.mono low.size)
  clear hB
  go_wp2_with fail
  refine (div_ok (7) (-2) _ _ V6 h_a h_b (inR_lt (by decide)) (inR_lt (by decide)) (by decide)).mono ?_
  rintro e V7 ⟨⟨u_s, u_t, rfl, h_s, h_t⟩, hB⟩
  replace x_q := x_q.later hB
  replace x_r := x_r.later hB
  replace h_a := h_a.later hB hB.size
  replace h_b := h_b.later hB hB.size
  replace low := low.trans (hB.mono low.size)
  clear hB
  clear h_a
  clear h_b
  obtain ⟨s_s, A_s, n_s, c_s, rfl⟩ := h_s.form
  have x_s := WB.new h_s
  replace x_q := x_q.later (alloc_low (V7) (.cells #[.bool s_s, .slice A_s n_s c_s] 33))
  replace x_r := x_r.later (alloc_low (V7) (.cells #[.bool s_s, .slice A_s n_s c_s] 33))
  replace h_s := h_s.later (alloc_low (V7) (.cells #[.bool s_s, .slice A_s n_s c_s] 33)) (alloc_low (V7) (.cells #[.bool s_s, .slice A_s n_s c_s] 33)).size
  replace h_t := h_t.later (alloc_low (V7) (.cells #[.bool s_s, .slice A_s n_s c_s] 33)) (alloc_low (V7) (.cells #[.bool s_s, .slice A_s n_s c_s] 33)).size
  replace low := low.trans ((alloc_low (V7) (.cells #[.bool s_s, .slice A_s n_s c_s] 33)).mono low.size)
  obtain ⟨s_t, A_t, n_t, c_t, rfl⟩ := h_t.form
  have x_t := WB.new h_t
  simp only [World.size_alloc] at x_t
  replace x_q := x_q.later (alloc_low ((V7).alloc (.cells #[.bool s_s, .slice A_s n_s c_s] 33)) (.cells #[.bool s_t, .slice A_t n_t c_t] 33))
  replace x_r := x_r.later (alloc_low ((V7).alloc (.cells #[.bool s_s, .slice A_s n_s c_s] 33)) (.cells #[.bool s_t, .slice A_t n_t c_t] 33))
  replace x_s := x_s.later (alloc_low ((V7).alloc (.cells #[.bool s_s, .slice A_s n_s c_s] 33)) (.cells #[.bool s_t, .slice A_t n_t c_t] 33))
  replace h_s := h_s.later (alloc_low ((V7).alloc (.cells #[.bool s_s, .slice A_s n_s c_s] 33)) (.cells #[.bool s_t, .slice A_t n_t c_t] 33)) (alloc_low ((V7).alloc (.cells #[.bool s_s, .slice A_s n_s c_s] 33)) (.cells #[.bool s_t, .slice A_t n_t c_t] 33)).size
  replace h_t := h_t.later (alloc_low ((V7).alloc (.cells #[.bool s_s, .slice A_s n_s c_s] 33)) (.cells #[.bool s_t, .slice A_t n_t c_t] 33)) (alloc_low ((V7).alloc (.cells #[.bool s_s, .slice A_s n_s c_s] 33)) (.cells #[.bool s_t, .slice A_t n_t c_t] 33)).size
  replace low := low.trans ((alloc_low ((V7).alloc (.cells #[.bool s_s, .slice A_s n_s c_s] 33)) (.cells #[.bool s_t, .slice A_t n_t c_t] 33)).mono low.size)
  go_wp2_with fail
  clear h_s
  clear h_t
  obtain ⟨V8, hV⟩ : ∃ V8, V8 = ((V7).alloc (.cells #[.bool s_s, .slice A_s n_s c_s] 33)).alloc (.cells #[.bool s_t, .slice A_t n_t c_t] 33) := ⟨_, rfl⟩
  rw [← hV] at x_q x_r x_s x_t low ⊢
  clear hV
  obtain ⟨p8, hp⟩ : ∃ p8, p8 = V7.heap.size := ⟨_, rfl⟩
  rw [← hp] at x_s x_t ⊢
  clear hp
  refine (from_any 4294967296 (by decide) (by decide) V8).mono ?_
  rintro e V9 ⟨⟨u_a, rfl, h_a⟩, hB⟩
  replace x_q := x_q.later hB
  replace x_r := x_r.later hB
  replace x_s := x_s.later hB
  replace x_t := x_t.later hB
  replace low := low.trans (hB.mono low.size)
  clear hB
  go_wp2_with fail
  refine (from_any 4294967296 (by decide) (by decide) V9).mono ?_
  rintro e V10 ⟨⟨u_b, rfl, h_b⟩, hB⟩
  replace x_q := x_q.later hB
  replace x_r := x_r.later hB
  replace x_s := x_s.later hB
  replace x_t := x_t.later hB
  replace h_a := h_a.later hB hB.size
  replace low := low.trans (hB.mono low.size)
  clear hB
  go_wp2_with fail
  refine (mul_ok 4294967296 4294967296 _ _ V10 h_a h_b (inR_lt (by decide)) (inR_lt (by decide)) (inR_lt (by decide))).mono ?_
  rintro e V11 ⟨⟨u_x, rfl, h_x⟩, hB⟩
  replace x_q := x_q.later hB
  replace x_r := x_r.later hB
  replace x_s := x_s.later hB
  replace x_t := x_t.later hB
  replace h_a := h_a.later hB hB.size
  replace h_b := h_b.later hB hB.size
  replace low := low.trans (hB.mono low.size)
  clear hB
  clear h_a
  clear h_b
  obtain ⟨s_x, A_x, n_x, c_x, rfl⟩ := h_x.form
  have x_x := WB.new h_x
  replace x_q := x_q.later (alloc_low (V11) (.cells #[.bool s_x, .slice A_x n_x c_x] 33))
  replace x_r := x_r.later (alloc_low (V11) (.cells #[.bool s_x, .slice A_x n_x c_x] 33))
  replace x_s := x_s.later (alloc_low (V11) (.cells #[.bool s_x, .slice A_x n_x c_x] 33))
  replace x_t := x_t.later (alloc_low (V11) (.cells #[.bool s_x, .slice A_x n_x c_x] 33))
  replace h_x := h_x.later (alloc_low (V11) (.cells #[.bool s_x, .slice A_x n_x c_x] 33)) (alloc_low (V11) (.cells #[.bool s_x, .slice A_x n_x c_x] 33)).size
  replace low := low.trans ((alloc_low (V11) (.cells #[.bool s_x, .slice A_x n_x c_x] 33)).mono low.size)
  go_wp2_with fail
  clear h_x
  obtain ⟨V12, hV⟩ : ∃ V12, V12 = (V11).alloc (.cells #[.bool s_x, .slice A_x n_x c_x] 33) := ⟨_, rfl⟩
  rw [← hV] at x_q x_r x_s x_t x_x low ⊢
  clear hV
  obtain ⟨p12, hp⟩ : ∃ p12, p12 = V11.heap.size := ⟨_, rfl⟩
  rw [← hp] at x_x ⊢
  clear hp
  refine (small_any (4294967296 * 4294967296) _ V12 x_x.2).mono ?_
  rintro e V13 ⟨rfl, hB⟩
  replace x_q := x_q.later hB
  replace x_r := x_r.later hB
  replace x_s := x_s.later hB
  replace x_t := x_t.later hB
  replace x_x := x_x.later hB
  replace low := low.trans (hB.mono low.size)
  clear hB
  unfold smallE
  rw [if_neg (by decide), decide_eq_false (by decide)]
  go_wp2_with fail
  have hp1 : codeP ⟨#[45, 48]⟩ = 2 := by decide
  have hp2 : codeP ⟨#[48, 49]⟩ = 2 := by decide
  have hq := parse_any ⟨#[45, 48]⟩ V13 (by decide)
  unfold ParseW at hq
  rw [hp1, if_neg (by decide)] at hq
  have HQ := Lib.hid hq
  have HP2 := Lib.hid hp2
  clear hq hp1 hp2
  refine (HQ.out).mono ?_
  rintro e V14 ⟨⟨u_y, rfl, h_y⟩, hB⟩
  replace x_q := x_q.later hB
  replace x_r := x_r.later hB
  replace x_s := x_s.later hB
  replace x_t := x_t.later hB
  replace x_x := x_x.later hB
  replace low := low.trans (hB.mono low.size)
  clear hB
  unfold errI
  clear HQ
  obtain ⟨s_y, A_y, n_y, c_y, rfl⟩ := h_y.form
  have x_y := WB.new h_y
  replace x_q := x_q.later (alloc_low (V14) (.cells #[.bool s_y, .slice A_y n_y c_y] 33))
  replace x_r := x_r.later (alloc_low (V14) (.cells #[.bool s_y, .slice A_y n_y c_y] 33))
  replace x_s := x_s.later (alloc_low (V14) (.cells #[.bool s_y, .slice A_y n_y c_y] 33))
  replace x_t := x_t.later (alloc_low (V14) (.cells #[.bool s_y, .slice A_y n_y c_y] 33))
  replace x_x := x_x.later (alloc_low (V14) (.cells #[.bool s_y, .slice A_y n_y c_y] 33))
  replace h_y := h_y.later (alloc_low (V14) (.cells #[.bool s_y, .slice A_y n_y c_y] 33)) (alloc_low (V14) (.cells #[.bool s_y, .slice A_y n_y c_y] 33)).size
  replace low := low.trans ((alloc_low (V14) (.cells #[.bool s_y, .slice A_y n_y c_y] 33)).mono low.size)
  go_wp2_with fail
  clear h_y
  obtain ⟨V15, hV⟩ : ∃ V15, V15 = (V14).alloc (.cells #[.bool s_y, .slice A_y n_y c_y] 33) := ⟨_, rfl⟩
  rw [← hV] at x_q x_r x_s x_t x_x x_y low ⊢
  clear hV
  obtain ⟨p15, hp⟩ : ∃ p15, p15 = V14.heap.size := ⟨_, rfl⟩
  rw [← hp] at x_y ⊢
  clear hp
  have hq := parse_any ⟨#[48, 49]⟩ V15 (by decide)
  unfold ParseW at hq
  rw [HP2.out, if_neg (by decide)] at hq
  have HQ := Lib.hid hq
  clear hq HP2
  refine (HQ.out).mono ?_
  rintro e V16 ⟨⟨u_z, rfl, h_z⟩, hB⟩
  replace x_q := x_q.later hB
  replace x_r := x_r.later hB
  replace x_s := x_s.later hB
  replace x_t := x_t.later hB
  replace x_x := x_x.later hB
  replace x_y := x_y.later hB
  replace low := low.trans (hB.mono low.size)
  clear hB
  unfold errI
  clear HQ
  obtain ⟨s_z, A_z, n_z, c_z, rfl⟩ := h_z.form
  have x_z := WB.new h_z
  replace x_q := x_q.later (alloc_low (V16) (.cells #[.bool s_z, .slice A_z n_z c_z] 33))
  replace x_r := x_r.later (alloc_low (V16) (.cells #[.bool s_z, .slice A_z n_z c_z] 33))
  replace x_s := x_s.later (alloc_low (V16) (.cells #[.bool s_z, .slice A_z n_z c_z] 33))
  replace x_t := x_t.later (alloc_low (V16) (.cells #[.bool s_z, .slice A_z n_z c_z] 33))
  replace x_x := x_x.later (alloc_low (V16) (.cells #[.bool s_z, .slice A_z n_z c_z] 33))
  replace x_y := x_y.later (alloc_low (V16) (.cells #[.bool s_z, .slice A_z n_z c_z] 33))
  replace h_z := h_z.later (alloc_low (V16) (.cells #[.bool s_z, .slice A_z n_z c_z] 33)) (alloc_low (V16) (.cells #[.bool s_z, .slice A_z n_z c_z] 33)).size
  replace low := low.trans ((alloc_low (V16) (.cells #[.bool s_z, .slice A_z n_z c_z] 33)).mono low.size)
  obtain ⟨k_q0, k_q1, -, -⟩ := x_q.cells
  go_wp2_with fail
  clear k_q0 k_q1
  clear h_z
  obtain ⟨V17, hV⟩ : ∃ V17, V17 = (V16).alloc (.cells #[.bool s_z, .slice A_z n_z c_z] 33) := ⟨_, rfl⟩
  rw [← hV] at x_q x_r x_s x_t x_x x_y x_z low ⊢
  clear hV
  obtain ⟨p17, hp⟩ : ∃ p17, p17 = V16.heap.size := ⟨_, rfl⟩
  rw [← hp] at x_z ⊢
  clear hp
  refine (str_ok (-7 / 2) ⟨#[45, 52]⟩ (dec_at ⟨#[45, 52]⟩ (-7 / 2) (by decide) (by decide)) _ V17 x_q.2 (inR_lt (by decide))).mono ?_
  rintro e V18 ⟨rfl, hB⟩
  replace x_q := x_q.later hB
  replace x_r := x_r.later hB
  replace x_s := x_s.later hB
  replace x_t := x_t.later hB
  replace x_x := x_x.later hB
  replace x_y := x_y.later hB
  replace x_z := x_z.later hB
  replace low := low.trans (hB.mono low.size)
  clear hB
  obtain ⟨k_r0, k_r1, -, -⟩ := x_r.cells
  go_wp2_with fail
  clear k_r0 k_r1
  refine (str_ok (-7 % 2) ⟨#[49]⟩ (dec_at ⟨#[49]⟩ (-7 % 2) (by decide) (by decide)) _ V18 x_r.2 (inR_lt (by decide))).mono ?_
  rintro e V19 ⟨rfl, hB⟩
  replace x_q := x_q.later hB
  replace x_r := x_r.later hB
  replace x_s := x_s.later hB
  replace x_t := x_t.later hB
  replace x_x := x_x.later hB
  replace x_y := x_y.later hB
  replace x_z := x_z.later hB
  replace low := low.trans (hB.mono low.size)
  clear hB
  obtain ⟨k_s0, k_s1, -, -⟩ := x_s.cells
  go_wp2_with fail
  clear k_s0 k_s1
  refine (str_ok (7 / -2) ⟨#[45, 51]⟩ (dec_at ⟨#[45, 51]⟩ (7 / -2) (by decide) (by decide)) _ V19 x_s.2 (inR_lt (by decide))).mono ?_
  rintro e V20 ⟨rfl, hB⟩
  replace x_q := x_q.later hB
  replace x_r := x_r.later hB
  replace x_s := x_s.later hB
  replace x_t := x_t.later hB
  replace x_x := x_x.later hB
  replace x_y := x_y.later hB
  replace x_z := x_z.later hB
  replace low := low.trans (hB.mono low.size)
  clear hB
  obtain ⟨k_t0, k_t1, -, -⟩ := x_t.cells
  go_wp2_with fail
  clear k_t0 k_t1
  refine (str_ok (7 % -2) ⟨#[49]⟩ (dec_at ⟨#[49]⟩ (7 % -2) (by decide) (by decide)) _ V20 x_t.2 (inR_lt (by decide))).mono ?_
  rintro e V21 ⟨rfl, hB⟩
  replace x_q := x_q.later hB
  replace x_r := x_r.later hB
  replace x_s := x_s.later hB
  replace x_t := x_t.later hB
  replace x_x := x_x.later hB
  replace x_y := x_y.later hB
  replace x_z := x_z.later hB
  replace low := low.trans (hB.mono low.size)
  clear hB
  obtain ⟨k_x0, k_x1, -, -⟩ := x_x.cells
  go_wp2_with fail
  clear k_x0 k_x1
  refine (str_ok (4294967296 * 4294967296) ⟨#[49, 56, 52, 52, 54, 55, 52, 52, 48, 55, 51, 55, 48, 57, 53, 53, 49, 54, 49, 54]⟩ (dec_at ⟨#[49, 56, 52, 52, 54, 55, 52, 52, 48, 55, 51, 55, 48, 57, 53, 53, 49, 54, 49, 54]⟩ (4294967296 * 4294967296) (by decide) (by decide)) _ V21 x_x.2 (inR_lt (by decide))).mono ?_
  rintro e V22 ⟨rfl, hB⟩
  replace x_q := x_q.later hB
  replace x_r := x_r.later hB
  replace x_s := x_s.later hB
  replace x_t := x_t.later hB
  replace x_x := x_x.later hB
  replace x_y := x_y.later hB
  replace x_z := x_z.later hB
  replace low := low.trans (hB.mono low.size)
  clear hB
  go_wp2_with fail
  go_ret
  exact ⟨rfl, low⟩
end Go.Proofs.YtmpdoikdadjneaaDoor
