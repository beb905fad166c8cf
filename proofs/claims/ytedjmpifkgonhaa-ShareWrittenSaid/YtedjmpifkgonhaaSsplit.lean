/- Split, whole. -/
import Derived.Test.YtedjmpifkgonhaaSsum
namespace Go.Proofs.Ytedjmpifkgonhaa
open Go.RowKit Hb Sm Sx

def zeros (n : Nat) : Obj := .cells (madeCells #[.int .i64 0] n) 3
theorem make_run (n : Nat) (hn : n ≤ 1000) (W : World) : Sem.run Try.prog (Instr.makeSlice 23 (.int .i64 (n : Int)) (.int .i64 (n : Int))) W = .ok (.slice (some ⟨W.heap.size, 0, none⟩) n n) (W.alloc (zeros n)) := by
  obtain ⟨i0, hi, hz0, hz1, hz2⟩ := info_parts infoI
  have h := run_make (P := Try.prog) W 23 3 i0 _ Try.underlying23 hi hz0 .i64 .i64 n n (by omega) (Int.le_refl _) (by rw [hz2]; omega) (by omega)
  rw [hz1] at h
  simpa [zeros, Value.cells] using h
theorem zeros_list (n : Nat) : (madeCells #[Value.int .i64 0] n).toList = (List.replicate n 0).map nv := by
  rw [toList_madeCells_one, List.map_replicate]; rfl
/-- two rows of zeros -/
theorem two_made (base n : Nat) (hn : n ≤ 1000) (W : World) (hb : base ≤ W.heap.size) :
    ((W.alloc (zeros n)).alloc (zeros n)).ownsRow base 3 1 (.slice (some ⟨W.heap.size, 0, none⟩) n n) n ((List.replicate n 0).map nv) ∧
    ((W.alloc (zeros n)).alloc (zeros n)).ownsRow base 3 1 (.slice (some ⟨W.heap.size + 1, 0, none⟩) n n) n ((List.replicate n 0).map nv) ∧
    Below W.heap.size W ((W.alloc (zeros n)).alloc (zeros n)) := by
  have s1 : (W.alloc (zeros n)).heap.size = W.heap.size + 1 := by simp
  have h1 := World.ownsRow_lit (base := base) (e := 3) (size := 1) W (madeCells #[Value.int .i64 0] n) n hb (by unfold maxLen; omega) (by rw [size_madeCells]; omega)
  have h2 := World.ownsRow_lit (base := base) (e := 3) (size := 1) (W.alloc (zeros n)) (madeCells #[Value.int .i64 0] n) n (by omega) (by unfold maxLen; omega) (by rw [size_madeCells]; omega)
  rw [zeros_list] at h1 h2
  rw [s1] at h2
  have b1 := (Below.refl (W.alloc (zeros n)).heap.size (W.alloc (zeros n))).alloc (Nat.le_refl _) (zeros n)
  exact ⟨own_below h1 b1 (Nat.le_refl _), h2, ((Below.refl W.heap.size W).alloc (Nat.le_refl _) (zeros n)).trans (b1.mono (by omega))⟩

theorem two_drew (base n : Nat) (hn : n ≤ 1000) (W : World) (hb : base ≤ W.heap.size) :
    ((W.alloc (zeros n)).alloc (zeros n)).drew.ownsRow base 3 1 (.slice (some ⟨W.heap.size, 0, none⟩) n n) n ((List.replicate n 0).map nv) ∧
    ((W.alloc (zeros n)).alloc (zeros n)).drew.ownsRow base 3 1 (.slice (some ⟨W.heap.size + 1, 0, none⟩) n n) n ((List.replicate n 0).map nv) ∧
    Below W.heap.size W ((W.alloc (zeros n)).alloc (zeros n)).drew := by
  obtain ⟨h1, h2, h3⟩ := two_made base n hn W hb
  have hq : Quiet ((W.alloc (zeros n)).alloc (zeros n)) ((W.alloc (zeros n)).alloc (zeros n)).drew := ⟨1, rfl⟩
  exact ⟨own_below h1 (hq.below _) (Nat.le_refl _), own_below h2 (hq.below _) (Nat.le_refl _), h3.trans (hq.below _)⟩
theorem map_get (ws : List Nat) (k : Nat) (h : k < ws.length) : (ws.map nv)[k]? = some (nv (ws.getD k 0)) := by
  rw [List.getElem?_map, List.getD_eq_getElem?_getD, List.getElem?_eq_getElem h]; rfl
theorem map_at (ws : List Nat) (k : Nat) (h : k < ws.length) : (ws.map nv)[k]? = some (.int .i64 (ws.getD k 0 : Nat)) := map_get ws k h

set_option maxRecDepth 100000 in
set_option maxHeartbeats 4000000 in
theorem split_ok (t : Nat) (ws : List Nat) (n c : Nat) (A : Option Addr) (ht : t ≤ 1099511627776) (hws : ∀ x ∈ ws, x ≤ 1099511627776) (S : Nat) (hS : S = ws.sum) (hS0 : 0 < S) (hn : n ≤ 8) (w : World) (hr : Rd w w.heap.size A n (ws.map nv)) :
    Calls Try.prog 19 #[.int .i64 t, .slice A n c] w fun e w' => ∃ A' c', e = .returned (.tuple #[.slice A' n c', .int .i64 0]) ∧ Rd w' w'.heap.size A' n ((split t ws).map nv) ∧ w'.ownsRow w.heap.size 3 1 (.slice A' n c') n ((split t ws).map nv) ∧ Below w.heap.size w w' := by
  have hl : ws.length = n := by simpa using hr.1
  have hall : (ws.map (fun n : Nat => (n : Int))).all isAm = true := by
    rw [List.all_eq_true]
    intro x hx
    obtain ⟨y, hy, rfl⟩ := List.mem_map.1 hx
    exact decide_eq_true ⟨by omega, by have := hws y hy; omega⟩
  have hsumI : (ws.map (fun n : Nat => (n : Int))).sum = (S : Int) := by
    rw [hS]
    clear hall hws hr hl hS
    induction ws with
    | nil => rfl
    | cons x r ih => simp only [List.map_cons, List.sum_cons, ih]; omega
  have hr' := hr
  rw [← map_iv_nv] at hr'
  have cs := sum_of _ n c A hn _ w hr'
  rw [sumRes_t hall, hsumI] at cs
  have hS8 : S ≤ 8796093022208 := by
    have : ∀ l : List Nat, (∀ x ∈ l, x ≤ 1099511627776) → l.sum ≤ l.length * 1099511627776 := by
      intro l
      induction l with
      | nil => intro _; simp
      | cons x r ih => intro h; have := h x (List.mem_cons_self ..); have := ih fun y hy => h y (List.mem_cons_of_mem _ hy); simp only [List.sum_cons, List.length_cons]; omega
    have := this ws hws
    rw [hl, ← hS] at this
    omega
  have hn0 : 0 < n := by
    rcases Nat.eq_zero_or_pos n with h | h
    · rw [h] at hl
      have := List.eq_nil_of_length_eq_zero hl
      rw [this] at hS
      simp at hS
      omega
    · exact h
  have ca := samount t w
  rw [show isAm (t : Int) = true from decide_eq_true (by omega)] at ca
  have hS1 : ((S : Int) == 0) = false := by simp; omega
  obtain ⟨R, hR⟩ : ∃ R, R = rs t S ws := ⟨_, rfl⟩
  obtain ⟨Q, hQ⟩ : ∃ Q, Q = qs t S ws := ⟨_, rfl⟩
  have HL := Lib.hid hl
  have HS := Lib.hid hS
  have HW := Lib.hid hws
  have HR := Lib.hid hR
  have HQ := Lib.hid hQ
  have hmk := make_run n (by omega)
  clear hl hall hsumI hr' hws hR hQ hS
  go_enter Try.func19, Try.ntmps19
  go_wp2_with fail
  refine cs.mono ?_
  rintro e W ⟨rfl, rfl⟩
  go_wp2_with fail
  refine ca.mono ?_
  rintro e W ⟨rfl, rfl⟩
  go_upto_region 4 with (fail)
  go_cut [8, 9] from 31 to 36 (fun pv rv wx => ∃ g h : Nat, pv = .slice (some ⟨g, 0, none⟩) n n ∧ rv = .slice (some ⟨h, 0, none⟩) n n ∧ g ≠ h ∧ w.heap.size ≤ g ∧ w.heap.size ≤ h ∧ wx.ownsRow w.heap.size 3 1 (.slice (some ⟨g, 0, none⟩) n n) n ((List.replicate n 0).map nv) ∧ wx.ownsRow w.heap.size 3 1 (.slice (some ⟨h, 0, none⟩) n n) n ((List.replicate n 0).map nv) ∧ Below w.heap.size w wx)
  case first =>
    clear cs ca
    obtain ⟨k1, k2, k3⟩ := two_drew w.heap.size n (by omega) w (Nat.le_refl _)
    have K1 := Lib.hid k1
    have K2 := Lib.hid k2
    have K3 := Lib.hid k3
    clear k1 k2 k3
    go_region
    · go_wp2_with fail
      go_meet
      case rel => exact ⟨_, _, rfl, rfl, by omega, by omega, by omega, K1.out, K2.out, K3.out⟩
    · go_wp2_with fail
      go_meet
      case rel => exact ⟨_, _, rfl, rfl, by omega, by omega, by omega, K2.out, K1.out, K3.out⟩
  case rest =>
    obtain ⟨g, h, rfl, rfl, hgh, hg, hh, ho1, ho2, hB⟩ := hcut
    clear hmk cs ca
    go_wp2_with fail
    go_loopw [10, 11, 12, 40] (fun mv _ _ ix wr => ∃ (k m M : Nat), n = k + m ∧ mv = .int .i64 M ∧ ix = .int .i64 k ∧ M ≤ t ∧ Hid (M + (Q.take k).sum = t) ∧ wr.ownsRow w.heap.size 3 1 (.slice (some ⟨g, 0, none⟩) n n) n ((Q.take k ++ List.replicate m 0).map nv) ∧ wr.ownsRow w.heap.size 3 1 (.slice (some ⟨h, 0, none⟩) n n) n ((R.take k ++ List.replicate m 0).map nv) ∧ Below w.heap.size w wr) (fun _ _ _ ix _ => n - (intOf ix).toNat)
    case atStart => exact ⟨0, n, t, by omega, rfl, rfl, Nat.le_refl _, by rw [List.take_zero]; rfl, own_cast ho1 rfl (by simp), own_cast ho2 rfl (by simp), hB⟩
    case round =>
      clear ho1 ho2 hB
      obtain ⟨k, m, M, hkm, rfl, rfl, hMt, HM, ho1, ho2, hB⟩ := hrel
      cases m with
      | succ m =>
        have hkn : k < n := by omega
        have HKM := Lib.hid hkm
        clear hkm
        have hw' : k < ws.length := by rw [HL.out]; exact hkn
        have hrw := hr.below hB
        obtain ⟨a, _, rfl, -, -, -⟩ := hr.at hkn
        have hck := Rd.nat hrw k hkn
        unfold nv at hck
        obtain ⟨x, hx⟩ : ∃ x, x = ws.getD k 0 := ⟨_, rfl⟩
        rw [← hx] at hck
        have hxS : x ≤ S := by rw [hx, HS.out]; exact getD_sum_le ws k
        have hx40 : x ≤ 1099511627776 := by
          rw [hx, List.getD_eq_getElem?_getD, List.getElem?_eq_getElem hw']
          exact HW.out _ (List.getElem_mem hw')
        have cd := sdivide t x S ht (by omega) hS0 (by omega) wr
        have hqk : Q.getD k 0 = t * x / S := by rw [HQ.out, hx]; simp [qs, List.getD_eq_getElem?_getD, List.getElem?_map, List.getElem?_eq_getElem hw']
        have hrk : R.getD k 0 = t * x % S := by rw [HR.out, hx, rs_get]
        have hqt : t * x / S ≤ t := by
          have h1 : t * x ≤ t * S := Nat.mul_le_mul_left _ hxS
          have h2 := Nat.div_le_div_right (c := S) h1
          rw [Nat.mul_div_cancel _ hS0] at h2
          exact h2
        have hQl : Q.length = n := by rw [HQ.out, qs_len, HL.out]
        have hRl : R.length = n := by rw [HR.out, rs_len, HL.out]
        have hXX := Lib.hid (And.intro hqk (And.intro hrk hqt))
        have hLL := Lib.hid (And.intro hQl hRl)
        clear hx hqk hrk hqt hrw hQl hRl
        go_wp2_with fail
        refine cd.mono ?_
        rintro e W ⟨⟨q, r, rfl, hq1, hr1, hqr⟩, hQu⟩
        have hqv : q = Q.getD k 0 ∧ r = R.getD k 0 := by
          rw [hXX.out.1, hXX.out.2.1]
          rcases hqr with ⟨_, h2, h3⟩ | ⟨h1, _⟩
          · exact ⟨h2, h3⟩
          · have := hXX.out.2.2; omega
        have hsum : M - q + (Q.take (k + 1)).sum = t ∧ q ≤ M := by
          have h1 := HM.out
          rw [take_snoc Q 0 k (by rw [hLL.out.1]; exact hkn), List.sum_append, ← hqv.1]
          have h2 : (Q.take (k + 1)).sum ≤ Q.sum := take_sum_le _ _
          have h3 : Q.sum ≤ t := by rw [HQ.out, HS.out]; exact qs_le t ws (by rw [← HS.out]; exact hS0)
          rw [take_snoc Q 0 k (by rw [hLL.out.1]; exact hkn), List.sum_append, ← hqv.1] at h2
          simp only [List.sum_cons, List.sum_nil] at *
          omega
        have hqM := hsum.2
        have HSUM := Lib.hid hsum.1
        have HQV := Lib.hid hqv
        have p1 := own_below ho1 (hQu.below _) (Nat.le_refl _)
        have p2 := own_below ho2 (hQu.below _) (Nat.le_refl _)
        have hB1 := hB.trans (hQu.below _)
        clear ho1 ho2 hqr hqv hsum hck cd hQu
        have lenk1 : (Q.take k).length = k := by rw [List.length_take, hLL.out.1]; omega
        have lenk2 : (R.take k).length = k := by rw [List.length_take, hLL.out.2]; omega
        have fz1 := p1.frozenAt k
        have fz2 : (W.setCell ⟨g, k, none⟩ (.int .i64 q)).frozen? ⟨h, k, none⟩ = false := by rw [World.frozen?_setCell]; exact p2.frozenAt k
        have cl1 : W.cell? ⟨g, k, none⟩ = some (.int .i64 0) := by
          rw [p1.cellAt k (by omega), List.map_append, List.replicate_succ, List.map_cons]
          exact mid_get _ _ _ _ (by rw [List.length_map, lenk1])
        have cl2 : (W.setCell ⟨g, k, none⟩ (.int .i64 q)).cell? ⟨h, k, none⟩ = some (.int .i64 0) := by
          rw [World.cell?_setCell_other _ _ _ _ (by intro e; simp only [Addr.mk.injEq] at e; omega), p2.cellAt k (by omega), List.map_append, List.replicate_succ, List.map_cons]
          exact mid_get _ _ _ _ (by rw [List.length_map, lenk2])
        have cl3 : ((W.setCell ⟨g, k, none⟩ (.int .i64 q)).setCell ⟨h, k, none⟩ (.int .i64 r)).cell? ⟨g, k, none⟩ = some (.int .i64 q) := by
          rw [World.cell?_setCell_other _ _ _ _ (by intro e; simp only [Addr.mk.injEq] at e; omega)]
          exact World.cell?_setCell_same _ _ _ cl1
        have q1 := (p1.stored k (.int .i64 q)).1
        have q2 := p2.kept (p1.stored k (.int .i64 q)).2 (.inr (by simp [Value.ownBlock]; omega))
        have q3 := (q2.stored k (.int .i64 r)).1
        have q4 := q1.kept (q2.stored k (.int .i64 r)).2 (.inr (by simp [Value.ownBlock]; omega))
        have e1 : ((Q.take k ++ List.replicate (m + 1) 0).map nv).set k (.int .i64 q) = (Q.take (k + 1) ++ List.replicate m 0).map nv := by
          rw [List.replicate_succ, List.map_append, List.map_cons, mid_set _ _ _ _ _ (by rw [List.length_map, lenk1]), take_snoc Q 0 k (by rw [hLL.out.1]; exact hkn), ← HQV.out.1, List.map_append, List.map_append]
          rfl
        have e2 : ((R.take k ++ List.replicate (m + 1) 0).map nv).set k (.int .i64 r) = (R.take (k + 1) ++ List.replicate m 0).map nv := by
          rw [List.replicate_succ, List.map_append, List.map_cons, mid_set _ _ _ _ _ (by rw [List.length_map, lenk2]), take_snoc R 0 k (by rw [hLL.out.2]; exact hkn), ← HQV.out.2, List.map_append, List.map_append]
          rfl
        have hB2 := (hB1.setCell (p := ⟨g, k, none⟩) hg (.int .i64 q)).setCell (p := ⟨h, k, none⟩) hh (.int .i64 r)
        have Q3 := Lib.hid (own_cast q3 rfl e2)
        have Q4 := Lib.hid (own_cast q4 rfl e1)
        clear p1 p2 q1 q2 q3 q4 e1 e2 lenk1 lenk2 hB1
        go_wp2_with fail
        go_roundw
        case rel => exact ⟨k + 1, m, M - q, by rw [HKM.out]; omega, by go_num, by go_num, by omega, HSUM.out, Q4.out, Q3.out, hB2⟩
        case measure => simp [intOf]; omega
      | zero =>
        obtain rfl : n = k := by omega
        have hQl : Q.length = n := by rw [HQ.out, qs_len, HL.out]
        have hRl : R.length = n := by rw [HR.out, rs_len, HL.out]
        have o1 := own_cast ho1 rfl (show _ = Q.map nv by rw [List.take_of_length_le (by omega)]; simp)
        have o2 := own_cast ho2 rfl (show _ = R.map nv by rw [List.take_of_length_le (by omega)]; simp)
        have hM : M + Q.sum = t := by have := HM.out; rwa [List.take_of_length_le (by omega)] at this
        have hMm : M = miss t ws := by
          unfold miss
          rw [← HS.out, ← HQ.out]
          omega
        have hMn : M ≤ n := by
          rw [hMm, ← HL.out]
          exact miss_le t ws (by rw [← HS.out]; exact hS0)
        have hres : split t ws = bump Q ((ord R).take M) := by
          unfold split
          rw [hMm, HQ.out, HR.out, HS.out]
        have HRES := Lib.hid hres
        have HMQ := Lib.hid hM
        have HLL := Lib.hid (And.intro hQl hRl)
        have cc := gf_any R n n ⟨h, 0, none⟩ hn0 (by omega) wr (Rd.of_own o2)
        have hgl := (o1.lt g rfl).2
        clear ho1 ho2 o2 hQl hRl hM hMm hres hkm HM
        go_wp2_with fail
        refine cc.mono ?_
        rintro e W3 ⟨g', c', rfl, hg', rd, hBo⟩
        have o3 := own_below o1 hBo (Nat.le_refl _)
        have B3 := hB.trans (hBo.mono hB.size)
        have hord : ∀ j v : Nat, (ord R)[j]? = some v → W3.cell? ⟨g', j, none⟩ = some (nv v) := by
          intro j v hv
          obtain ⟨a, e, _, hc⟩ := rd.2 hn0
          injection e with e
          subst e
          have := hc j (nv v) (by rw [List.getElem?_map, hv]; rfl)
          rwa [add_plain, Nat.zero_add] at this
        have HO := Lib.hid hord
        have hgg : g ≠ g' := by omega
        clear o1 cc rd hBo hord hB
        go_wp2_with fail
        go_loopw [14, 68] (fun _ ix wx => ∃ k : Nat, k ≤ M ∧ ix = .int .i64 k ∧ wx.ownsRow w.heap.size 3 1 (.slice (some ⟨g, 0, none⟩) n n) n ((bump Q ((ord R).take k)).map nv) ∧ Hid (∀ j v : Nat, (ord R)[j]? = some v → wx.cell? ⟨g', j, none⟩ = some (nv v)) ∧ Below w.heap.size w wx) (fun _ ix _ => M - (intOf ix).toNat)
        case atStart => exact ⟨0, Nat.zero_le _, rfl, o3, HO, B3⟩
        case round =>
          clear o3 HO B3
          obtain ⟨k, hkM, rfl, ho, HO, hB⟩ := hrel
          by_cases hlt : k < M
          · have hkl : k < (ord R).length := by rw [ord_len, HLL.out.2]; omega
            obtain ⟨i, hi⟩ : ∃ i, (ord R)[k]? = some i := ⟨_, List.getElem?_eq_getElem hkl⟩
            have hiR : i < R.length := ord_lt R i (List.mem_of_getElem? hi)
            have hin : i < n := by rw [HLL.out.2] at hiR; exact hiR
            have co := HO.out k i hi
            obtain ⟨p, hp⟩ : ∃ p, p = (bump Q ((ord R).take k)).getD i 0 := ⟨_, rfl⟩
            have hbl : (bump Q ((ord R).take k)).length = n := by rw [bump_len, HLL.out.1]
            have cp : wr.cell? ⟨g, i, none⟩ = some (.int .i64 p) := by
              rw [ho.cellAt i (by omega), map_at _ i (by rw [hbl]; exact hin), ← hp]
            have hpt : p ≤ t := by
              rw [hp]
              refine Nat.le_trans (getD_sum_le _ _) ?_
              rw [bump_sum _ _ (fun j hj => by rw [HLL.out.1, ← HLL.out.2]; exact ord_lt R j (List.mem_of_mem_take hj)), List.length_take, ← HMQ.out]
              omega
            have fz := ho.frozenAt i
            have ho4 := (ho.stored i (nv (p + 1))).1
            have e1 : ((bump Q ((ord R).take k)).map nv).set i (nv (p + 1)) = (bump Q ((ord R).take (k + 1))).map nv := by
              have : (ord R).take (k + 1) = (ord R).take k ++ [i] := by
                rw [List.take_succ_eq_append_getElem hkl]
                rw [List.getElem?_eq_getElem hkl] at hi
                injection hi with hi
                rw [hi]
              rw [this, bump_snoc]
              unfold bump1
              rw [← hp, List.map_set]
            have O4 := Lib.hid (own_cast ho4 rfl e1)
            have HO2 := Lib.hid (show ∀ j v : Nat, (ord R)[j]? = some v → (wr.setCell ⟨g, i, none⟩ (nv (p + 1))).cell? ⟨g', j, none⟩ = some (nv v) from fun j v hv => by
              rw [World.cell?_setCell_other _ _ _ _ (by intro e; simp only [Addr.mk.injEq] at e; omega)]
              exact HO.out j v hv)
            have hB2 := hB.setCell (p := ⟨g, i, none⟩) hg (nv (p + 1))
            have b1 : (i : Int) < (n : Int) := by omega
            have b2 : (0 : Int) ≤ (i : Int) := by omega
            have b3 : (k : Int) < (n : Int) := by omega
            unfold nv at co O4 HO2 hB2
            clear ho ho4 e1 hp hi hiR hbl HO hkl
            go_wp2_with fail
            go_roundw
            case rel => exact ⟨k + 1, by omega, by go_num, O4.out, HO2, hB2⟩
            case measure => simp [intOf]; omega
          · obtain rfl : M = k := by omega
            have O := Lib.hid (own_cast ho rfl (by rw [← HRES.out]))
            clear ho
            go_wp2_with fail
            go_ret2
            exact ⟨_, _, rfl, Rd.of_own O.out, O.out, hB⟩
end Go.Proofs.Ytedjmpifkgonhaa
