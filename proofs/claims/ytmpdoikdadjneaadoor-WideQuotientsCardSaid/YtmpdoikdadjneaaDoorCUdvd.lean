/- The reference's small and divided. -/
import Derived.Test.YtmpdoikdadjneaaDoorCJ
import Derived.Test.YtmpdoikdadjneaaDoorCG
import Derived.IntWalk
namespace Go.Proofs.YtmpdoikdadjneaaDoor
open Go.RowKit Go.Shelf Hb Vm Ds Vr

theorem intV_nat (n : Nat) (u : Value) : intV (n : Int) u = .agg #[.bool false, u] := by
  unfold intV
  rw [decide_eq_false (by omega)]
theorem Ni.nat {W : World} {B n : Nat} {u : Value} (h : Nl W B u n) : Ni W B (.agg #[.bool false, u]) (n : Int) := ⟨u, (intV_nat n u).symm, by rw [Int.natAbs_natCast]; exact h⟩
theorem Ni.digits {W : World} {B n : Nat} {b : Bool} {u : Value} (h : Ni W B (.agg #[.bool b, u]) (n : Int)) : Nl W B u n := by
  obtain ⟨u', e, hu⟩ := h
  rw [intV_nat] at e
  injection e with e
  simp at e
  rw [Int.natAbs_natCast] at hu
  rw [e.2]; exact hu

set_option maxRecDepth 100000 in
set_option maxHeartbeats 4000000 in
theorem smallD_any (v : Value) (b k : Nat) (K : Int) (hK : K = (k : Int)) (hk : k < 10000) (hb : (ds b).length ≤ 50000) (w : World) (hv : Nl w w.heap.size v b) :
    Calls Tryd.prog 80 #[v, .int .i64 K] w fun e W' => (∃ u, e = .returned u ∧ Nl W' W'.heap.size u (b * k)) ∧ Below w.heap.size w W' := by
  subst hK
  have HB := Lib.hid hb
  clear hb
  have hv' := hv
  obtain ⟨A, c, rfl, -, -, -⟩ := hv'
  obtain ⟨n, hn⟩ : ∃ n, n = (ds b).length := ⟨_, rfl⟩
  rw [← hn] at hv ⊢
  clear hn
  go_enter Tryd.func80, Tryd.ntmps80
  go_wp2_with fail
  refine (of_any (k : Int) (by omega) w).mono ?_
  rintro e W1 ⟨⟨u1, rfl, hu1⟩, hB1⟩
  have hv1 := hv.later hB1 hB1.size
  clear hv
  go_wp2_with fail
  refine (nmul_any (b : Int) (k : Int) _ _ W1 (Ni.nat hv1) hu1 (by rw [Int.natAbs_natCast]; have := HB.out; omega) (Nat.le_trans (digs_len_le (b := 10000) (k := 1) (by decide) (by omega)) (by decide))).mono ?_
  rintro e W2 ⟨⟨u2, rfl, hu2⟩, hB2⟩
  rw [← Int.natCast_mul] at hu2
  obtain ⟨s2, A2, n2, c2, rfl⟩ := hu2.form
  have hn2 := Ni.digits hu2
  go_wp2_with fail
  go_ret
  exact ⟨⟨_, rfl, hn2.later (((Below.refl _ _).alloc (Nat.le_refl _) _)) (by simp)⟩, (hB1.trans (hB2.mono hB1.size)).alloc (by have := hB1.size; have := hB2.size; omega) _⟩

theorem n_len {n b L : Nat} (h : n < 10000 * b) (hb : (ds b).length ≤ L) : (ds n).length ≤ L + 1 := by
  refine digs_len_le (by decide) ?_
  have h1 := Nat.lt_of_lt_of_le (digs_lt (b := 10000) (by decide) b) (Nat.pow_le_pow_right (by decide) hb)
  rw [Nat.pow_succ]
  omega
theorem rd_but_ne {W W' : World} {B g n : Nat} {A : Option Addr} {xs : List Value} (hr : Rd W B A n xs) (hne : ∀ a, A = some a → a.block ≠ g) (hb : But B g W W') : Rd W' B A n xs := by
  refine ⟨hr.1, fun hn => ?_⟩
  obtain ⟨a, rfl, h1, h2⟩ := hr.2 hn
  exact ⟨a, rfl, h1, fun j u hu => by rw [← h2 j u hu]; exact World.cell?_of_block (hb.block (by rw [add_block]; exact h1) (by rw [add_block]; exact hne a rfl))⟩
theorem Nl.but_ne {W W' : World} {B g n : Nat} {v : Value} (h : Nl W B v n) (hne : ∀ a k c, v = .slice (some a) k c → a.block ≠ g) (hb : But B g W W') : Nl W' B v n := by
  obtain ⟨A, c, e, h1, h2, h3⟩ := h
  exact ⟨A, c, e, rd_but_ne h1 (fun a ha => hne a _ c (by rw [e, ha])) hb, h2, h3⟩
theorem dvd_step (ls rs : List Nat) (b k d lo R : Nat) (hka : k < ls.length) (hkr : k < rs.length) (hd : d = ls.getD k 0) (h : val 10000 (ls.drop (k + 1)) = b * val 10000 (rs.drop (k + 1)) + R) (h1 : b * lo ≤ d + 10000 * R) :
    val 10000 (ls.drop k) = b * val 10000 ((rs.set k lo).drop k) + (d + 10000 * R - b * lo) := by
  rw [val_drop_step 10000 ls k hka, ← hd, h, val_drop_step 10000 (rs.set k lo) k (by rw [List.length_set]; exact hkr), List.drop_set_of_lt (by omega)]
  have e1 : (rs.set k lo).getD k 0 = lo := by rw [List.getD_eq_getElem?_getD, List.getElem?_set_self hkr]; rfl
  rw [e1, Nat.mul_add, Nat.mul_add, Nat.mul_left_comm b 10000]
  omega

set_option maxRecDepth 100000 in
set_option maxHeartbeats 8000000 in
theorem divided_any (va vb : Value) (a b : Nat) (hb0 : 0 < b) (hla : (ds a).length ≤ 20000) (hlb : (ds b).length ≤ 20000) (w : World) (hva : Nl w w.heap.size va a) (hvb : Nl w w.heap.size vb b) :
    Calls Tryd.prog 66 #[va, vb] w fun e W' => (∃ u v, e = .returned (.tuple #[u, v]) ∧ Ol W' u (a / b) ∧ Nl W' W'.heap.size v (a % b)) ∧ Below w.heap.size w W' := by
  obtain ⟨i0, hi, hz0, hz1, hz2⟩ := info_parts infoI'
  obtain ⟨A, c, rfl, hra, hc1, hc2⟩ := hva
  have hvb' := hvb
  obtain ⟨C, d, rfl, -, -, -⟩ := hvb'
  obtain ⟨n, hn⟩ : ∃ n, n = (ds a).length := ⟨_, rfl⟩
  obtain ⟨m, hm⟩ : ∃ m, m = (ds b).length := ⟨_, rfl⟩
  rw [← hn] at hra hc1 hla ⊢
  rw [← hm] at hvb hlb ⊢
  have mkn : Sem.run Tryd.prog (Instr.makeSlice 22 (.int .i64 (n : Int)) (.int .i64 (n : Int))) w = .ok (.slice (some ⟨w.heap.size, 0, none⟩) n n) (w.alloc (mkN n)) := makeN n (by omega) w
  have r1 := mkN_row n w
  have bm := mkN_below n w
  obtain ⟨w1, hw1⟩ : ∃ w1, w1 = w.alloc (mkN n) := ⟨_, rfl⟩
  rw [← hw1] at mkn r1 bm
  have HN := Lib.hid hn
  have HM := Lib.hid hm
  have HB0 := Lib.hid hb0
  clear hn hm hw1 hb0
  go_enter Tryd.func66, Tryd.ntmps66
  go_wp2_with fail
  go_loopw [7, 8] (fun rv iv W => ∃ (i R : Nat) (rs : List Nat), iv = .int .i64 ((i : Int) - 1) ∧ i ≤ n ∧ Hid (rs.length = n) ∧ Hid (∀ j, j < i → rs.getD j 0 = 0) ∧ Hid (Dig 10000 rs) ∧ Row W w.heap.size 3 (rs.map dw) ∧ Nl W W.heap.size rv R ∧ Hid (R < b) ∧ Hid (val 10000 ((ds a).drop i) = b * val 10000 (rs.drop i) + R) ∧ Below w.heap.size w W) (fun _ iv _ => (intOf iv + 1).toNat)
  case atStart => exact ⟨n, 0, List.replicate n 0, by go_num, Nat.le_refl _, Lib.hid (List.length_replicate ..), Lib.hid (fun j _ => by rw [List.getD_eq_getElem?_getD, List.getElem?_replicate]; split <;> rfl), Lib.hid (Dig.zeros (by decide) _), r1, Nl.nil _ _, Lib.hid HB0.out, Lib.hid (by rw [List.drop_of_length_le (by rw [HN.out]; exact Nat.le_refl _), List.drop_of_length_le (by rw [List.length_replicate]; exact Nat.le_refl _)]; rfl), bm⟩
  case round =>
    obtain ⟨i, R, rs, rfl, hi1, HRL, HRZ, HDR, hrow, hrest, HRB, HV, hB⟩ := hrel
    obtain ⟨RA, rc, rfl, hrr, hrc1, hrc2⟩ := hrest
    cases i with
    | zero =>
      have hdm : Hid (a / b = val 10000 rs ∧ a % b = R) := Lib.hid (by
        have h := HV.out
        rw [List.drop_zero, List.drop_zero, ds_val] at h
        have h1 := HRB.out
        have h2 := HB0.out
        exact ⟨by rw [h, Nat.mul_add_div h2, Nat.div_eq_of_lt h1, Nat.add_zero], by rw [h, Nat.mul_add_mod, Nat.mod_eq_of_lt h1]⟩)
      have hrd : Rd wr wr.heap.size (some ⟨w.heap.size, 0, none⟩) n (rs.map dw) := (hrow.rd n (by rw [List.length_map, HRL.out])).mono hrow.lt
      clear HV HRZ
      go_wp2_with fail
      go_ret2
      exact ⟨⟨_, _, rfl, ⟨_, n, n, rs, rfl, hrd, Nat.le_refl _, by unfold maxLen; omega, HDR.out, hdm.out.1.symm, by omega⟩, by rw [hdm.out.2]; exact ⟨RA, rc, rfl, hrr, hrc1, hrc2⟩⟩, hB⟩
    | succ k =>
      obtain ⟨wo, rfl⟩ : ∃ wo : World, wo = wr := ⟨_, rfl⟩
      obtain ⟨aA, rfl, hba, hca⟩ := Rd.digit (hra.below hB) (show k < n by omega)
      obtain ⟨dg, hdg⟩ : ∃ dg, dg = (ds a).getD k 0 := ⟨_, rfl⟩
      have hdl : dg < 10000 := by rw [hdg]; exact (ds_dig a).get (by decide) k
      rw [← hdg] at hca
      have HDG := Lib.hid hdg
      obtain ⟨rk, hrk⟩ : ∃ rk, rk = (ds R).length := ⟨_, rfl⟩
      have hrkl : rk ≤ 20000 := by
        rw [hrk]
        have h1 := HRB.out
        rcases Nat.lt_or_ge (ds b).length (ds R).length with h | h
        · have := ds_len h; omega
        · rw [← HM.out] at h; omega
      rw [← hrk] at hrr hrc1 ⊢
      have HRK := Lib.hid hrk
      obtain ⟨N1, hN1⟩ : ∃ N1, N1 = dg + 10000 * R := ⟨_, rfl⟩
      have HN1 := Lib.hid hN1
      have HN1b : Hid (N1 < 10000 * b) := Lib.hid (by have := HRB.out; omega)
      have HN1l : Hid ((ds N1).length ≤ 20001) := Lib.hid (n_len HN1b.out (by rw [← HM.out]; exact hlb))
      have HR := hrr.later ((Below.refl _ wo).alloc (Nat.le_refl _) (.cells #[.int .i64 (dg : Int)] 3)) (Nat.le_refl wo.heap.size)
      have e1 : ((k + 1 : Nat) : Int) - 1 = (k : Int) := by omega
      have e2 : (0 : Int) ≤ (k : Int) := by omega
      have e3 : (k : Int) < (n : Int) := by omega
      have hone : ∀ u ∈ (ds R).map dw, u.oneCell' = true := fun u hu => by obtain ⟨y, _, rfl⟩ := List.mem_map.1 hu; rfl
      have HONE := Lib.hid hone
      have hlit := World.ownsRow_lit (base := wo.heap.size) (e := 3) (size := 1) wo #[.int .i64 (dg : Int)] 1 (Nat.le_refl _) (by decide) rfl
      have HLIT := Lib.hid hlit
      clear hdg hrk hN1 hone hlit
      simp only [e1]
      go_wp2_with (at_builtin; refine wpList_append_rd _ rfl _ _ 22 rfl wo.heap.size 3 i0 (.int .i64 0) 8 Tryd.underlying22 hi hz0 hz1 hz2 rfl (.slice (some ⟨wo.heap.size, 0, none⟩) 1 1) 1 [.int .i64 (dg : Int)] rfl HLIT.out wo.heap.size RA rk rc ((ds R).map dw) rfl HR HONE.out (by unfold maxLen; omega) (by omega) (by simp) ?_; intro A1 c1 W1 hown hg _)
      have hB1 : Below wo.heap.size wo W1 := own_grown ((Below.refl _ wo).alloc (Nat.le_refl _) _) HLIT.out hg (by simp)
      have hown' := own_cast (ys := (dg :: ds R).map dw) hown rfl rfl
      clear hown hg HR HLIT HONE
      refine (normal_at false A1 (1 + rk) c1 (dg :: ds R) (own_cap hown').1 (own_cap hown').2 (fun y hy => by rcases List.mem_cons.1 hy with rfl | hy; exact hdl; exact ds_dig R y hy) (N1 : Int) (by rw [if_neg (by decide), val_cons, ds_val, HN1.out]) W1 (Rd.of_own hown')).mono ?_
      rintro e W2 ⟨⟨k2, b2, rfl, hu⟩, hB2⟩
      have hx2 := Ni.digits hu
      have hB2' := hB1.trans (hB2.mono hB1.size)
      have row2 := hrow.below hB2' hrow.lt
      have low2 := hB.trans (hB2'.mono hB.size)
      have ltG := hrow.lt
      have sz2 := hB2'.size
      clear hrow hB hB1 hB2 hB2' hrr hown' hu hca
      go_wp2_with fail
      obtain ⟨W3, hW3⟩ : ∃ W3, W3 = W2.alloc (.cells #[.bool b2, .slice A1 k2 c1] 25) := ⟨_, rfl⟩
      have hB3 : Below W2.heap.size W2 W3 := by rw [hW3]; exact (Below.refl _ _).alloc (Nat.le_refl _) _
      rw [← hW3]
      have hx3 := hx2.later hB3 hB3.size
      have row3 := row2.below hB3 (by omega)
      have low3 := low2.trans (hB3.mono (by omega))
      have sz3 := hB3.size
      have hlt3 : w.heap.size < W3.heap.size := by omega
      clear hW3 hx2 row2 low2 hB3 sz2 sz3 ltG
      go_loopw [10, 11] (fun lv hv W => ∃ lo hi : Nat, lv = .int .i64 lo ∧ hv = .int .i64 hi ∧ lo ≤ hi ∧ hi ≤ 9999 ∧ Hid (b * lo ≤ N1) ∧ Hid (N1 < b * (hi + 1)) ∧ Below W3.heap.size W3 W) (fun lv hv _ => (intOf hv - intOf lv).toNat)
      case atStart => exact ⟨0, 9999, rfl, rfl, by omega, by omega, Lib.hid (Nat.zero_le _), Lib.hid (by have := HN1b.out; omega), Below.refl _ _⟩
      case round =>
        obtain ⟨lo, hi', rfl, rfl, hlh, hh9, hlo, hhi, hBw⟩ := hrel
        have hvbw := hvb.later (low3.trans (hBw.mono low3.size)) (low3.trans (hBw.mono low3.size)).size
        have hxw := hx3.later hBw hBw.size
        by_cases hlt : lo < hi'
        · have hlt' : (lo : Int) < (hi' : Int) := by omega
          obtain ⟨mid, hmid⟩ : ∃ mid, mid = (lo + hi' + 1) / 2 := ⟨_, rfl⟩
          have em : ((lo : Int) + hi' + 1) / 2 = (mid : Int) := by omega
          have hml : mid < 10000 := by omega
          have hm1 : lo < mid := by omega
          have hm2 : mid ≤ hi' := by omega
          clear hmid
          go_wp2_with fail
          refine (smallD_any _ b mid (mid : Int) rfl hml (by rw [← HM.out]; omega) wr hvbw).mono ?_
          rintro e V1 ⟨⟨u, rfl, hu⟩, hBa⟩
          have hx1 := hxw.later hBa hBa.size
          have hu' := hu
          obtain ⟨SA, sc, rfl, -, -, -⟩ := hu'
          obtain ⟨sk, hsk⟩ : ∃ sk, sk = (ds (b * mid)).length := ⟨_, rfl⟩
          rw [← hsk] at hu ⊢
          clear hsk hxw hvbw
          go_wp2_with fail
          refine (compared_n _ _ (b * mid) N1 V1 hu hx1 (Nat.le_trans (digs_mul_len (by decide) (show (digs 10000 b).length ≤ 20000 by have := HM.out; unfold ds at this; omega) (digs_len_le (b := 10000) (k := 1) (by decide) (by omega))) (by decide)) (by have := HN1l.out; omega)).mono ?_
          rintro e V2 ⟨rfl, hBb⟩
          have hBn := hBw.trans ((hBa.trans (hBb.mono hBa.size)).mono hBw.size)
          by_cases hle : b * mid ≤ N1
          · obtain ⟨cv, hcv⟩ : ∃ cv, cv = cmpI ((b * mid : Nat) : Int) (N1 : Int) := ⟨_, rfl⟩
            have hcv0 : cv ≤ 0 := by rw [hcv]; rcases cmpI_cases ((b * mid : Nat) : Int) (N1 : Int) with ⟨h1, h2⟩ | ⟨h1, h2⟩ | ⟨h1, h2⟩ <;> omega
            rw [← hcv]
            have HLE := Lib.hid hle
            clear hcv hle hu hx1 hBa hBb hBw
            go_wp2_with fail
            go_roundw
            case rel => exact ⟨mid, hi', rfl, rfl, hm2, hh9, HLE, hhi, hBn⟩
            case measure => simp [intOf]; omega
          · obtain ⟨cv, hcv⟩ : ∃ cv, cv = cmpI ((b * mid : Nat) : Int) (N1 : Int) := ⟨_, rfl⟩
            have hcv0 : ¬ cv ≤ 0 := by rw [hcv]; rcases cmpI_cases ((b * mid : Nat) : Int) (N1 : Int) with ⟨h1, h2⟩ | ⟨h1, h2⟩ | ⟨h1, h2⟩ <;> omega
            rw [← hcv]
            have HLE : Hid (N1 < b * (mid - 1 + 1)) := Lib.hid (by rw [show mid - 1 + 1 = mid by omega]; omega)
            have em1 : (mid : Int) - 1 = ((mid - 1 : Nat) : Int) := by omega
            clear hcv hle hu hx1 hBa hBb hBw
            go_wp2_with fail
            go_roundw
            case rel => exact ⟨lo, mid - 1, rfl, by first | (rw [← em1]) | go_num, by omega, by omega, hlo, HLE, hBn⟩
            case measure => simp [intOf]; omega
        · obtain rfl : lo = hi' := by omega
          have hlt' : ¬ (lo : Int) < (lo : Int) := by omega
          go_wp2_with fail
          refine (smallD_any _ b lo (lo : Int) rfl (by omega) (by rw [← HM.out]; omega) wr hvbw).mono ?_
          rintro e V1 ⟨⟨u, rfl, hu⟩, hBa⟩
          have hx1 := hxw.later hBa hBa.size
          have hu' := hu
          obtain ⟨SA, sc, rfl, -, -, -⟩ := hu'
          obtain ⟨sk, hsk⟩ : ∃ sk, sk = (ds (b * lo)).length := ⟨_, rfl⟩
          rw [← hsk] at hu ⊢
          have hBn := hBw.trans (hBa.mono hBw.size)
          clear hsk hxw hvbw hBa hBw
          go_wp2_with fail
          refine (minus_f _ _ N1 (b * lo) V1 hx1 hu hlo.out (by have := HN1l.out; omega)).mono ?_
          rintro e V2 ⟨⟨v, rfl, hv, hnew⟩, hBb⟩
          obtain ⟨YA, yk, yc, ys, rfl, hyr, hy1, hy2, hyd, hyv, -⟩ := hv
          have hBn2 := hBn.trans (hBb.mono hBn.size)
          have HNEW : Hid (∀ a, YA = some a → W3.heap.size ≤ a.block) := Lib.hid (fun a ha => Nat.le_trans hBn.size (hnew a yk yc (by rw [ha])))
          clear hnew hBb hBn hu hx1
          go_wp2_with fail
          refine (normal_at false YA yk yc ys hy1 hy2 hyd ((N1 - b * lo : Nat) : Int) (by rw [if_neg (by decide), hyv]) V2 hyr).mono ?_
          rintro e V3 ⟨⟨k4, b4, rfl, hu⟩, hBc⟩
          have hy3 := Ni.digits hu
          have hBn3 := hBn2.trans (hBc.mono hBn2.size)
          have rowV := row3.below hBn3 hlt3
          have lowV := low3.trans (hBn3.mono low3.size)
          have hltV : w.heap.size < V3.heap.size := by have := hBn3.size; omega
          clear hu hBc hBn2 hyr hyd hyv
          have rowA := rowV.alloc (.cells #[.bool b4, .slice YA k4 yc] 25)
          have bx := Row.new V3 25 [.bool b4, .slice YA k4 yc]
          have f4 := rowA.frozen k
          have c4 := rowA.read dw (k := k) (by rw [HRL.out]; omega)
          have r5 := (rowV.put dw (k := k) lo).alloc (.cells #[.bool b4, .slice YA k4 yc] 25)
          have x5 := (bx.other k (dw lo) (show V3.heap.size ≠ w.heap.size by omega)).cell 1 _ rfl
          have bt := But.setCell V3.heap.size w.heap.size k V3 (dw lo)
          have hyB : Nl ((V3.setCell ⟨w.heap.size, k, none⟩ (dw lo)).alloc (.cells #[.bool b4, .slice YA k4 yc] 25)) ((V3.setCell ⟨w.heap.size, k, none⟩ (dw lo)).alloc (.cells #[.bool b4, .slice YA k4 yc] 25)).heap.size (.slice YA k4 yc) (N1 - b * lo) :=
            ((hy3.but_ne (g := w.heap.size) (fun a k c he => by
              injection he with h1 h2 h3
              have := HNEW.out a h1
              omega) bt).later (Below.refl _ _) bt.size).later ((Below.refl _ _).alloc (Nat.le_refl _) _) (by simp)
          have lowB := (lowV.trans bt.low).alloc (by have := bt.size; omega) (.cells #[.bool b4, .slice YA k4 yc] 25)
          unfold dw at c4 x5 hyB lowB
          have r6 : Row ((V3.setCell ⟨w.heap.size, k, none⟩ (.int .i64 (lo : Int))).alloc (.cells #[.bool b4, .slice YA k4 yc] 25)) w.heap.size 3 ((rs.set k lo).map dw) := r5
          clear rowV rowA bx hy3 lowV bt r5
          go_wp2_with fail
          go_roundw
          case rel =>
            refine ⟨k, N1 - b * lo, rs.set k lo, by first | rfl | go_num, by omega, Lib.hid (by rw [List.length_set, HRL.out]), Lib.hid (fun j hj => by rw [getD_set_ne _ _ _ _ (by omega), HRZ.out j (by omega)]), Lib.hid (HDR.out.set k (by omega)), r6, hyB, Lib.hid ?_, Lib.hid ?_, lowB⟩
            · have h1 := hhi.out
              have h2 := hlo.out
              rw [Nat.mul_add, Nat.mul_one] at h1
              omega
            · have := dvd_step (ds a) rs b k dg lo R (by rw [← HN.out]; omega) (by rw [HRL.out]; omega) HDG.out HV.out (by rw [← HN1.out]; exact hlo.out)
              rw [← HN1.out] at this
              exact this
          case measure => simp [intOf]
end Go.Proofs.YtmpdoikdadjneaaDoor
