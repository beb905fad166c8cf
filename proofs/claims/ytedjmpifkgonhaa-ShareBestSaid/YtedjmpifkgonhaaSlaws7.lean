/- The law ShareBest, walked. -/
import Derived.Test.YtedjmpifkgonhaaSlaws6
namespace Go.Proofs.Ytedjmpifkgonhaa
open Go.RowKit Hb Sm Sx

def farI (a b : Int) : Int := if a < b then b - a else a - b
theorem far_t (a b A B r : Int) (hA : A = a) (hB : B = b) (ha : -2305843009213693952 ≤ a ∧ a ≤ 2305843009213693952) (hb : -2305843009213693952 ≤ b ∧ b ≤ 2305843009213693952) (hr : r = farI a b) (w : World) :
    Calls Try.prog 23 #[.int .i64 A, .int .i64 B] w fun e w' => e = .returned (.int .i64 r) ∧ w' = w := by
  subst hA hB
  obtain ⟨ha0, ha1⟩ := ha
  obtain ⟨hb0, hb1⟩ := hb
  unfold farI at hr
  by_cases h : A < B
  · rw [if_pos h] at hr
    have HR := Lib.hid hr
    clear hr
    go_enter Try.func23, Try.ntmps23
    go_wp2
    go_ret
    exact ⟨ret_int HR.out.symm, rfl⟩
  · rw [if_neg h] at hr
    have HR := Lib.hid hr
    clear hr
    go_enter Try.func23, Try.ntmps23
    go_wp2
    go_ret
    exact ⟨ret_int HR.out.symm, rfl⟩
theorem farI_bound (a b M : Int) (ha : -M ≤ a ∧ a ≤ M) (hb : -M ≤ b ∧ b ≤ M) : 0 ≤ farI a b ∧ farI a b ≤ 2 * M := by
  unfold farI; split <;> omega
theorem best_num (S a b ri rj mi mj : Int) (hS : 0 < S) (hri : 0 ≤ ri ∧ ri < S) (hrj : 0 ≤ rj ∧ rj < S) (hmi : mi = 0 ∨ mi = 1) (hmj : mj = 0 ∨ mj = 1) (h : mi = 1 → mj = 0 → rj ≤ ri) (di dj : Int) (hdi : di = mi * S - ri) (hdj : dj = mj * S - rj) :
    farI (a + di) a + farI (b + dj) b ≤ farI (a + di - S) a + farI (b + dj + S) b := by
  unfold farI
  rcases hmi with rfl | rfl <;> rcases hmj with rfl | rfl <;> simp only [Int.zero_mul, Int.one_mul] at hdi hdj <;> (repeat' split) <;> omega
theorem best (t : Nat) (ws : List Nat) (h : 0 < ws.sum) (i j : Nat) (hi : i < ws.length) (hj : j < ws.length) (P P' Q Q' : Nat) (hP : P = (split t ws).getD i 0 * ws.sum) (hP' : P' = (split t ws).getD j 0 * ws.sum) (hQ : Q = t * ws.getD i 0) (hQ' : Q' = t * ws.getD j 0) :
    farI P Q + farI P' Q' ≤ farI ((P : Int) - ws.sum) Q + farI ((P' : Int) + ws.sum) Q' := by
  have e1 := split_get t ws i hi
  have e2 := split_get t ws j hj
  have m1 := more_le t ws i
  have m2 := more_le t ws j
  have d1 := Nat.div_add_mod' Q ws.sum
  have d2 := Nat.div_add_mod' Q' ws.sum
  have r1 := Nat.mod_lt Q h
  have r2 := Nat.mod_lt Q' h
  have hb : more t ws i = 1 → more t ws j = 0 → Q' % ws.sum ≤ Q % ws.sum := by
    intro h1 h2
    have hb := more_before t ws i j hj h1 h2
    unfold before at hb
    rw [rs_get, rs_get, ← hQ, ← hQ'] at hb
    omega
  rw [e1, ← hQ] at hP
  rw [e2, ← hQ'] at hP'
  have k := best_num (ws.sum : Int) (Q : Int) (Q' : Int) (Q % ws.sum : Nat) (Q' % ws.sum : Nat) (more t ws i : Nat) (more t ws j : Nat) (by omega) (by omega) (by omega) (by omega) (by omega) (by omega) (P - Q) (P' - Q') ?_ ?_
  · rw [show (Q : Int) + (P - Q) = P by omega, show (Q' : Int) + (P' - Q') = P' by omega] at k
    exact k
  · rw [hP, Nat.add_mul]
    push_cast
    have := congrArg (fun n : Nat => (n : Int)) d1
    push_cast at this
    omega
  · rw [hP', Nat.add_mul]
    push_cast
    have := congrArg (fun n : Nat => (n : Int)) d2
    push_cast at this
    omega

theorem sum_65535 (l : List Nat) (h : ∀ x ∈ l, x ≤ 65535) (hl : l.length ≤ 7) : l.sum ≤ 458745 := by
  have : l.sum ≤ l.length * 65535 := by
    clear hl
    induction l with
    | nil => simp
    | cons x r ih =>
      have h1 := h x (List.mem_cons_self ..)
      have h2 := ih fun y hy => h y (List.mem_cons_of_mem _ hy)
      simp only [List.sum_cons, List.length_cons]
      omega
  omega
set_option maxRecDepth 100000 in
set_option maxHeartbeats 8000000 in
theorem ShareBest_walk (w : World) (a0 : Int) (w0 : (Lit.int .i64 a0).wf = true) (A1 : Option Addr) (len1 cap1 : Nat) (l : List Int) (hr : Rd w w.heap.size A1 len1 (l.map iv)) (hz : ∀ y ∈ l, -9223372036854775808 ≤ y ∧ y ≤ 9223372036854775807) (_ : len1 ≤ cap1) (_ : cap1 ≤ maxLen) :
    Calls Try.prog 7 #[.int .i64 a0, .slice A1 len1 cap1] w fun e W' => e = .returned (.bool true) ∧ Below w.heap.size w W' := by
  obtain ⟨i0, hi, hz0, hz1, hz2⟩ := info_parts infoI
  have hl : l.length = len1 := by simpa using hr.1
  have HL := Lib.hid hl
  have HZ := Lib.hid hz
  clear hz hl
  have hmx : Try.prog.follows .mixedOrders = true := by kernel_rfl
  go_enter Try.func7, Try.ntmps7
  go_wp2_with fail
  refine (around3 a0 4096 _ rfl (bounds_i64 w0) (by omega) w).mono ?_
  rintro e W ⟨⟨t, rfl, ht, -⟩, rfl⟩
  go_upto_block 0 with (fail)
  go_cut [6, 7] from 17 to 34 (fun ov _ wx => ∃ (k : Nat) (ws : List Nat) (A2 : Option Addr) (c2 : Nat), k ≤ 6 ∧ ov = .slice A2 k c2 ∧ wx.ownsRow w.heap.size 3 1 (.slice A2 k c2) k (ws.map nv) ∧ Hid (∀ x ∈ ws, x < 65536) ∧ Below w.heap.size w wx)
  case first =>
    go_wp2_with fail
    go_loopw [6, 7] (fun ov ix wr => ∃ (k : Nat) (ws : List Nat) (A2 : Option Addr) (c2 : Nat), k ≤ len1 ∧ k ≤ 6 ∧ ix = .int .i64 k ∧ ov = .slice A2 k c2 ∧ wr.ownsRow w.heap.size 3 1 (.slice A2 k c2) k (ws.map nv) ∧ Hid (∀ x ∈ ws, x < 65536) ∧ Below w.heap.size w wr) (fun _ ix _ => 7 - (intOf ix).toNat)
    case atStart => exact ⟨0, [], none, 0, Nat.zero_le _, by omega, rfl, rfl, World.ownsRow_nil _ _ _ _, fun x hx => by simp at hx, Below.refl _ _⟩
    case round =>
      obtain ⟨k, ws, A2, c2, hkn, hk6, rfl, rfl, ho, HA, hB⟩ := hrel
      by_cases hlt : k < len1 ∧ k < 6
      · obtain ⟨h1, h2⟩ := hlt
        obtain ⟨a, rfl, hab, hcl⟩ := Rd.int (hr.below hB) k h1
        obtain ⟨x, hx⟩ : ∃ x, x = l.getD k 0 := ⟨_, rfl⟩
        rw [← hx] at hcl
        have hxb : -9223372036854775808 ≤ x ∧ x ≤ 9223372036854775807 := by
          refine HZ.out x ?_
          rw [hx, List.getD_eq_getElem?_getD, List.getElem?_eq_getElem (by rw [HL.out]; exact h1)]
          exact List.getElem_mem _
        clear hx
        have d1 : decide ((k : Int) < (len1 : Int)) = true := decide_eq_true (by omega)
        have d2 : decide ((k : Int) < 6) = true := decide_eq_true (by omega)
        have hs := hB.size
        have HO := Lib.hid ho
        have HB := Lib.hid hB
        clear ho hB
        go_wp2_with fail
        refine (around3 x 65536 _ rfl hxb (by omega) wr).mono ?_
        rintro e W ⟨⟨y, rfl, hy, -⟩, rfl⟩
        have HA2 := Lib.hid (show ∀ x ∈ ws ++ [y], x < 65536 from fun x hx => by
          rcases List.mem_append.1 hx with h | h
          · exact HA.out x h
          · rw [List.mem_singleton.1 h]; exact hy)
        have ho := HO.out
        have hB := HB.out
        go_wp2_with (at_builtin; refine wpList_append_rd _ rfl _ _ 23 rfl w.heap.size 3 i0 (.int .i64 0) 8 Try.underlying23 hi hz0 hz1 hz2 rfl (.slice A2 k c2) k _ rfl (ho.alloc _) (wr.heap.size + 1) (some ⟨wr.heap.size, 0, none⟩) 1 1 [nv y] rfl (boxed_rd wr (nv y) 3) (fun u hu => by rw [List.mem_singleton.1 hu]; rfl) (by unfold maxLen; omega) (by omega) (by simp; omega) ?_; intro A3 c3 W2 hown hg _)
        go_roundw
        case rel => exact ⟨k + 1, ws ++ [y], _, _, by omega, by omega, by go_num, rfl, own_cast hown rfl (by rw [List.map_append]; rfl), HA2, own_grown (hB.alloc hs _) (ho.alloc _) hg (by simp; omega)⟩
        case measure => simp [intOf]; omega
      · have hdec : (k < len1 ∧ ¬ k < 6) ∨ ¬ k < len1 := by omega
        have HO := Lib.hid ho
        have HB := Lib.hid hB
        clear hlt ho hB
        rcases hdec with ⟨h1, h2⟩ | h1
        · have d1 : decide ((k : Int) < (len1 : Int)) = true := decide_eq_true (by omega)
          have d2 : decide ((k : Int) < 6) = false := decide_eq_false (by omega)
          go_wp2_with fail
          go_meet
          case rel => exact ⟨k, ws, A2, c2, hk6, rfl, HO.out, HA, HB.out⟩
        · have d1 : decide ((k : Int) < (len1 : Int)) = false := decide_eq_false (by omega)
          go_wp2_with fail
          go_meet
          case rel => exact ⟨k, ws, A2, c2, hk6, rfl, HO.out, HA, HB.out⟩
  case rest =>
    obtain ⟨k, ws, A2, c2, hk6, rfl, ho, HA, hB⟩ := hcut
    have hs := hB.size
    have HO := Lib.hid ho
    have HB := Lib.hid hB
    clear ho hB hr
    obtain ⟨wr, hwr⟩ : ∃ v, v = wc := ⟨_, rfl⟩
    rw [← hwr] at HO HB hs ⊢
    clear hwr
    clear wc
    have HA2 := Lib.hid (show (∀ x ∈ ws ++ [3], x ≤ 65535) ∧ 0 < (ws ++ [3]).sum from ⟨fun x hx => by
      rcases List.mem_append.1 hx with h | h
      · have := HA.out x h; omega
      · rw [List.mem_singleton.1 h]; omega, by simp⟩)
    have hlw : ws.length = k := by simpa using HO.out.1
    go_wp2_with (at_builtin; refine wpList_append_rd _ rfl _ _ 23 rfl w.heap.size 3 i0 (.int .i64 0) 8 Try.underlying23 hi hz0 hz1 hz2 rfl (.slice A2 k c2) k _ rfl (HO.out.alloc _) (wr.heap.size + 1) (some ⟨wr.heap.size, 0, none⟩) 1 1 [nv 3] rfl (boxed_rd wr (nv 3) 3) (fun u hu => by rw [List.mem_singleton.1 hu]; rfl) (by unfold maxLen; omega) (by omega) (by simp; omega) ?_; intro A3 c3 W2 hown hg _; have B2 := own_grown (HB.out.alloc hs (.cells #[nv 3] 3)) (HO.out.alloc _) hg (by simp; omega); have O3 := Lib.hid hown; have PB := Lib.hid B2; have hs2 := B2.size; clear hown hg B2)
    obtain ⟨n, hn⟩ : ∃ n, n = k + 1 := ⟨_, rfl⟩
    obtain ⟨vs, hvs⟩ : ∃ vs, vs = ws ++ [3] := ⟨_, rfl⟩
    have hvl : vs.length = n := by rw [hvs, List.length_append, hlw, hn]; rfl
    have O4 := Lib.hid (own_cast O3.out rfl (show _ = vs.map nv by rw [hvs, List.map_append]; rfl))
    rw [← hvs] at HA2
    have hn7 : n ≤ 7 := by omega
    rw [← hn] at O4 ⊢
    clear O3 HO HB HA hlw hvs hn
    obtain ⟨ws, hwsv⟩ : ∃ ws, ws = vs := ⟨_, rfl⟩
    rw [← hwsv] at O4 HA2 hvl
    clear hwsv
    have HL2 := Lib.hid hvl
    have HSUM := Lib.hid HA2.out.2
    have hS6 : ws.sum ≤ 458745 := sum_65535 ws HA2.out.1 (by omega)
    obtain ⟨S, hS⟩ : ∃ S, S = ws.sum := ⟨_, rfl⟩
    rw [← hS] at hS6
    have hS0 : 0 < S := by rw [hS]; exact HSUM.out
    have HS := Lib.hid hS
    have RW0 := Rd.of_own O4.out
    clear hvl hS O4 hs
    go_wp2_with fail
    refine (rsum ws S HS.out n c3 A3 (by omega) (by omega) _ W2 RW0).mono ?_
    rintro e W ⟨rfl, rfl⟩
    obtain ⟨xs, hxs⟩ : ∃ xs, xs = split t ws := ⟨_, rfl⟩
    have hxt : xs.sum = t := by rw [hxs, split_sum t ws HSUM.out]
    have HX := Lib.hid hxs
    have HXT := Lib.hid hxt
    clear hxs hxt
    go_wp2_with fail
    refine (split_t t _ rfl ws n c3 A3 (by omega) (fun x hx => by have := HA2.out.1 x hx; omega) HSUM.out (by omega) W2 RW0 xs HX.out).mono ?_
    rintro e W6 ⟨A5, c5, rfl, RX6, -, hB6⟩
    have RW6 := RW0.later hB6 hB6.size
    have B6 := PB.out.trans (hB6.mono hs2)
    have n1 : ((n : Int) != (n : Int)) = false := by simp
    clear hB6 RW0 PB hs2
    go_wp2_with fail
    go_loopw [11, 12, 13, 14] (fun ix _ _ _ wx => ∃ i : Nat, i ≤ n ∧ ix = .int .i64 i ∧ Hid (Quiet W6 wx)) (fun ix _ _ _ _ => n - (intOf ix).toNat)
    case atStart => exact ⟨0, Nat.zero_le _, rfl, ⟨0, rfl⟩⟩
    case round =>
      obtain ⟨i, hi', rfl, HQ⟩ := hrel
      by_cases hlt : i < n
      · obtain ⟨wo, hwo⟩ : ∃ wo : World, wo = wr := ⟨_, rfl⟩
        rw [← hwo] at HQ ⊢
        clear hwo
        clear wr
        go_wp2_with fail
        go_loopw [12, 13, 14] (fun jx _ _ wx => ∃ j : Nat, j ≤ n ∧ jx = .int .i64 j ∧ Hid (Quiet W6 wx)) (fun jx _ _ _ => n - (intOf jx).toNat)
        case atStart => exact ⟨0, Nat.zero_le _, rfl, HQ⟩
        case round =>
          clear HQ
          obtain ⟨j, hj', rfl, HQ⟩ := hrel
          by_cases hjt : j < n
          · by_cases hij : i = j
            · have p1 : ((i : Int) == (j : Int)) = true := by simp; omega
              clear hij
              go_wp2_with fail
              go_roundw
              case rel => exact ⟨j + 1, by omega, by go_num, HQ⟩
              case measure => simp [intOf]; omega
            · have p1 : ((i : Int) == (j : Int)) = false := by simp; omega
              have RA := RW6.later (HQ.out.below W6.heap.size) (HQ.out.below W6.heap.size).size
              have RX := RX6.later (HQ.out.below W6.heap.size) (HQ.out.below W6.heap.size).size
              obtain ⟨x, hx⟩ : ∃ x, x = ws.getD i 0 := ⟨_, rfl⟩
              obtain ⟨y, hy⟩ : ∃ y, y = ws.getD j 0 := ⟨_, rfl⟩
              obtain ⟨u, hu⟩ : ∃ u, u = xs.getD i 0 := ⟨_, rfl⟩
              obtain ⟨v, hv⟩ : ∃ v, v = xs.getD j 0 := ⟨_, rfl⟩
              obtain ⟨a, ha, ci⟩ := Rd.nat' RA i hlt
              obtain ⟨_, e1, cj⟩ := Rd.nat' RA j hjt
              obtain ⟨b, hb, di⟩ := Rd.nat' RX i hlt
              obtain ⟨_, e2, dj⟩ := Rd.nat' RX j hjt
              subst ha hb
              injection e1 with e1
              subst e1
              injection e2 with e2
              subst e2
              rw [← hx] at ci
              rw [← hy] at cj
              rw [← hu] at di
              rw [← hv] at dj
              obtain ⟨P, hP⟩ : ∃ P, P = u * S := ⟨_, rfl⟩
              obtain ⟨P', hP'⟩ : ∃ P, P = v * S := ⟨_, rfl⟩
              obtain ⟨Q, hQ⟩ : ∃ Q, Q = t * x := ⟨_, rfl⟩
              obtain ⟨Q', hQ'⟩ : ∃ Q, Q = t * y := ⟨_, rfl⟩
              have hbest := best t ws HSUM.out i j (by rw [HL2.out]; exact hlt) (by rw [HL2.out]; exact hjt) P P' Q Q' (by rw [hP, hu, HX.out, HS.out]) (by rw [hP', hv, HX.out, HS.out]) (by rw [hQ, hx]) (by rw [hQ', hy])
              rw [← HS.out] at hbest
              have hut : u ≤ 4095 := by rw [hu]; exact Nat.le_trans (getD_sum_le xs i) (by rw [HXT.out]; omega)
              have hvt : v ≤ 4095 := by rw [hv]; exact Nat.le_trans (getD_sum_le xs j) (by rw [HXT.out]; omega)
              have hxS : x ≤ 458745 := by rw [hx]; exact Nat.le_trans (getD_sum_le ws i) (by rw [← HS.out]; omega)
              have hyS : y ≤ 458745 := by rw [hy]; exact Nat.le_trans (getD_sum_le ws j) (by rw [← HS.out]; omega)
              have bP : P ≤ 4095 * 458745 := by rw [hP]; exact Nat.mul_le_mul hut hS6
              have bP' : P' ≤ 4095 * 458745 := by rw [hP']; exact Nat.mul_le_mul hvt hS6
              have bQ : Q ≤ 4095 * 458745 := by rw [hQ]; exact Nat.mul_le_mul (by omega) hxS
              have bQ' : Q' ≤ 4095 * 458745 := by rw [hQ']; exact Nat.mul_le_mul (by omega) hyS
              obtain ⟨P2, hP2⟩ : ∃ z : Int, z = (P : Int) - S := ⟨_, rfl⟩
              obtain ⟨P3, hP3⟩ : ∃ z : Int, z = (P' : Int) + S := ⟨_, rfl⟩
              have bP2 : -458745 ≤ P2 ∧ P2 ≤ 1878560775 := by omega
              have bP3 : 0 ≤ P3 ∧ P3 ≤ 1879019520 := by omega
              have f1 : (u : Int) * (S : Int) = (P : Int) := by rw [hP]; exact (Int.natCast_mul _ _).symm
              have f2 : (t : Int) * (x : Int) = (Q : Int) := by rw [hQ]; exact (Int.natCast_mul _ _).symm
              have f3 : (v : Int) * (S : Int) = (P' : Int) := by rw [hP']; exact (Int.natCast_mul _ _).symm
              have f4 : (t : Int) * (y : Int) = (Q' : Int) := by rw [hQ']; exact (Int.natCast_mul _ _).symm
              have f5 : ((u : Int) - 1) * (S : Int) = P2 := by rw [Int.sub_mul, f1, hP2]; omega
              have f6 : ((v : Int) + 1) * (S : Int) = P3 := by rw [Int.add_mul, f3, hP3]; omega
              obtain ⟨r1, h1⟩ : ∃ r, r = farI P Q := ⟨_, rfl⟩
              obtain ⟨r2, h2⟩ : ∃ r, r = farI P' Q' := ⟨_, rfl⟩
              obtain ⟨r3, h3⟩ : ∃ r, r = farI P2 Q := ⟨_, rfl⟩
              obtain ⟨r4, h4⟩ : ∃ r, r = farI P3 Q' := ⟨_, rfl⟩
              rw [← h1, ← h2, ← hP2, ← hP3, ← h3, ← h4] at hbest
              have q1 := farI_bound P Q 2000000000 (by omega) (by omega)
              have q2 := farI_bound P' Q' 2000000000 (by omega) (by omega)
              have q3 := farI_bound P2 Q 2000000000 (by omega) (by omega)
              have q4 := farI_bound P3 Q' 2000000000 (by omega) (by omega)
              rw [← h1] at q1
              rw [← h2] at q2
              rw [← h3] at q3
              rw [← h4] at q4
              obtain ⟨q11, q12⟩ := q1
              obtain ⟨q21, q22⟩ := q2
              obtain ⟨q31, q32⟩ := q3
              obtain ⟨q41, q42⟩ := q4
              have HH := Lib.hid (And.intro h1 (And.intro h2 (And.intro h3 h4)))
              have b1 : (i : Int) < (n : Int) := by omega
              have b2 : (j : Int) < (n : Int) := by omega
              have wf : ∀ z : Int, -4611686018427387904 ≤ z → z ≤ 4611686018427387904 → IntKind.i64.wrap z = z := fun z h1 h2 => by rw [IntKind.wrap_i64]; omega
              have g1 := wf P (by omega) (by omega)
              have g2 := wf Q (by omega) (by omega)
              have g3 := wf P' (by omega) (by omega)
              have g4 := wf Q' (by omega) (by omega)
              have g5 := wf P2 (by omega) (by omega)
              have g6 := wf P3 (by omega) (by omega)
              obtain ⟨bb, hbb⟩ : ∃ z, z = r1 + r2 := ⟨_, rfl⟩
              obtain ⟨aa, haa⟩ : ∃ z, z = r3 + r4 := ⟨_, rfl⟩
              have e7 : r1 + r2 = bb := hbb.symm
              have e8 : r3 + r4 = aa := haa.symm
              have f7 : IntKind.i64.wrap ((u : Int) - 1) = (u : Int) - 1 := wf _ (by omega) (by omega)
              have f8 : IntKind.i64.wrap ((v : Int) + 1) = (v : Int) + 1 := wf _ (by omega) (by omega)
              have f9 : IntKind.i64.wrap (((u : Int) - 1) * (S : Int)) = P2 := by rw [f5]; exact g5
              have f10 : IntKind.i64.wrap (((v : Int) + 1) * (S : Int)) = P3 := by rw [f6]; exact g6
              have g7 := wf bb (by omega) (by omega)
              have g8 := wf aa (by omega) (by omega)
              have p5 : decide (aa < bb) = false := decide_eq_false (by omega)
              have hle : bb ≤ aa := by omega
              clear hx hy hu hv RA RX hP hP' hQ hQ' hP2 hP3 h1 h2 h3 h4 hbest hxS hyS hij wf hbb haa q11 q12 q21 q22 q31 q32 q41 q42
              obtain ⟨bP21, bP22⟩ := bP2
              obtain ⟨bP31, bP32⟩ := bP3
              go_wp2_with fail
              go_quiet (first | (go_at_call 23; refine Calls.quiet_of_same (far_t P Q _ _ r1 (by first | rfl | exact g1) (by first | rfl | exact g2) (by omega) (by omega) HH.out.1 _)) | (go_at_call 23; refine Calls.quiet_of_same (far_t P' Q' _ _ r2 (by first | rfl | exact g3) (by first | rfl | exact g4) (by omega) (by omega) HH.out.2.1 _)))
              have ci7 : (wr.drewN nq).cell? (a.add i) = some (.int .i64 (x : Int)) := ci
              have cj7 : (wr.drewN nq).cell? (a.add j) = some (.int .i64 (y : Int)) := cj
              have di7 : (wr.drewN nq).cell? (b.add i) = some (.int .i64 (u : Int)) := di
              have dj7 : (wr.drewN nq).cell? (b.add j) = some (.int .i64 (v : Int)) := dj
              obtain ⟨W7, hW7⟩ : ∃ W, W = wr.drewN nq := ⟨_, rfl⟩
              have HQ7 := Lib.hid (show Quiet W6 W7 from by rw [hW7]; exact HQ.out.n _)
              rw [← hW7] at ci7 cj7 di7 dj7 ⊢
              clear hW7 ci cj di dj HQ
              clear nq
              go_wp2_with fail
              go_quiet (first | (go_at_call 23; refine Calls.quiet_of_same (far_t P2 Q _ _ r3 (by first | exact g5 | exact f9 | exact f5 | (rw [f7]; exact f9) | rfl) (by first | rfl | exact g2) (by omega) (by omega) HH.out.2.2.1 _)) | (go_at_call 23; refine Calls.quiet_of_same (far_t P3 Q' _ _ r4 (by first | exact g6 | exact f10 | exact f6 | (rw [f8]; exact f10) | rfl) (by first | rfl | exact g4) (by omega) (by omega) HH.out.2.2.2 _)))
              go_wp2_with fail
              go_roundw
              case rel => exact ⟨j + 1, by omega, by go_num, HQ7.out.n _⟩
              case measure => simp [intOf]; omega
          · go_wp2_with fail
            go_roundw
            case rel => exact ⟨i + 1, by omega, by go_num, HQ⟩
            case measure => simp [intOf]; omega
      · have B7 := B6.trans (HQ.out.below w.heap.size)
        go_wp2_with fail
        refine (lives_from w wr B7).mono ?_
        rintro e W7 ⟨rfl, B8⟩
        go_wp2_with fail
        go_ret
        exact ⟨rfl, B8⟩
end Go.Proofs.Ytedjmpifkgonhaa
