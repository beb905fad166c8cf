/- The law ShareScale, walked. -/
import Derived.Test.YtedjmpifkgonhaaSlaws5
namespace Go.Proofs.Ytedjmpifkgonhaa
open Go.RowKit Hb Sm Sx

theorem sum_mul (f : Nat) (l : List Nat) : (l.map (f * ·)).sum = f * l.sum := by
  induction l with
  | nil => simp
  | cons x r ih => simp only [List.map_cons, List.sum_cons, ih, Nat.mul_add]
set_option maxRecDepth 100000 in
set_option maxHeartbeats 8000000 in
theorem ShareScale_walk (w : World) (a0 : Int) (w0 : (Lit.int .i64 a0).wf = true) (A1 : Option Addr) (len1 cap1 : Nat) (l : List Int) (hr : Rd w w.heap.size A1 len1 (l.map iv)) (hz : ∀ y ∈ l, -9223372036854775808 ≤ y ∧ y ≤ 9223372036854775807) (_ : len1 ≤ cap1) (_ : cap1 ≤ maxLen) (a2 : Int) (w2 : (Lit.int .i64 a2).wf = true) :
    Calls Try.prog 6 #[.int .i64 a0, .slice A1 len1 cap1, .int .i64 a2] w fun e W' => e = .returned (.bool true) ∧ Below w.heap.size w W' := by
  obtain ⟨i0, hi, hz0, hz1, hz2⟩ := info_parts infoI
  have hl : l.length = len1 := by simpa using hr.1
  have HL := Lib.hid hl
  have HZ := Lib.hid hz
  clear hz hl

  go_enter Try.func6, Try.ntmps6
  go_wp2_with fail
  refine (around3 a0 1099511627777 _ rfl (bounds_i64 w0) (by omega) w).mono ?_
  rintro e W ⟨⟨t, rfl, ht, -⟩, rfl⟩
  go_wp2_with fail
  refine (around3 a2 1000 _ rfl (bounds_i64 w2) (by omega) w).mono ?_
  rintro e W ⟨⟨f', rfl, hf', -⟩, rfl⟩
  obtain ⟨f, hf⟩ : ∃ f, f = f' + 1 := ⟨_, rfl⟩
  have e1 : 1 + (f' : Int) = (f : Int) := by omega
  have hf0 : 0 < f := by omega
  have hf2 : f ≤ 1000 := by omega
  clear hf hf'
  go_upto_block 0 with (fail)
  go_cut [9, 11] from 24 to 41 (fun ov _ wx => ∃ (k : Nat) (ws : List Nat) (A2 : Option Addr) (c2 : Nat), k ≤ 6 ∧ ov = .slice A2 k c2 ∧ wx.ownsRow w.heap.size 3 1 (.slice A2 k c2) k (ws.map nv) ∧ Hid (∀ x ∈ ws, x < 1048577) ∧ Below w.heap.size w wx)
  case first =>
    go_wp2_with fail
    go_loopw [9, 11] (fun ov ix wr => ∃ (k : Nat) (ws : List Nat) (A2 : Option Addr) (c2 : Nat), k ≤ len1 ∧ k ≤ 6 ∧ ix = .int .i64 k ∧ ov = .slice A2 k c2 ∧ wr.ownsRow w.heap.size 3 1 (.slice A2 k c2) k (ws.map nv) ∧ Hid (∀ x ∈ ws, x < 1048577) ∧ Below w.heap.size w wr) (fun _ ix _ => 7 - (intOf ix).toNat)
    case atStart => exact ⟨0, [], none, 0, Nat.zero_le _, by omega, rfl, rfl, World.ownsRow_nil _ _ _ _, fun x hx => by simp at hx, Below.refl _ _⟩
    case round =>
      obtain ⟨k, ws, A2, c2, hkn, hk6, rfl, rfl, ho, HA, hB⟩ := hrel
      by_cases hlt : k < len1 ∧ k < 6
      · obtain ⟨h1, h2⟩ := hlt
        obtain ⟨a, rfl, hab, hcl⟩ := Rd.int (hr.below hB) k h1
        obtain ⟨x, hx⟩ : ∃ x, x = l.getD k 0 := ⟨_, rfl⟩
        rw [← hx] at hcl
        have hxb : -9223372036854775808 ≤ x ∧ x ≤ 9223372036854775807 := by
          refine HZ.out x ?_
          rw [hx, List.getD_eq_getElem?_getD, List.getElem?_eq_getElem (by rw [HL.out]; exact h1)]
          exact List.getElem_mem _
        clear hx
        have d1 : decide ((k : Int) < (len1 : Int)) = true := decide_eq_true (by omega)
        have d2 : decide ((k : Int) < 6) = true := decide_eq_true (by omega)
        have hs := hB.size
        have HO := Lib.hid ho
        have HB := Lib.hid hB
        clear ho hB
        go_wp2_with fail
        refine (around3 x 1048577 _ rfl hxb (by omega) wr).mono ?_
        rintro e W ⟨⟨y, rfl, hy, -⟩, rfl⟩
        have HA2 := Lib.hid (show ∀ x ∈ ws ++ [y], x < 1048577 from fun x hx => by
          rcases List.mem_append.1 hx with h | h
          · exact HA.out x h
          · rw [List.mem_singleton.1 h]; exact hy)
        have ho := HO.out
        have hB := HB.out
        go_wp2_with (at_builtin; refine wpList_append_rd _ rfl _ _ 23 rfl w.heap.size 3 i0 (.int .i64 0) 8 Try.underlying23 hi hz0 hz1 hz2 rfl (.slice A2 k c2) k _ rfl (ho.alloc _) (wr.heap.size + 1) (some ⟨wr.heap.size, 0, none⟩) 1 1 [nv y] rfl (boxed_rd wr (nv y) 3) (fun u hu => by rw [List.mem_singleton.1 hu]; rfl) (by unfold maxLen; omega) (by omega) (by simp; omega) ?_; intro A3 c3 W2 hown hg _)
        go_roundw
        case rel => exact ⟨k + 1, ws ++ [y], _, _, by omega, by omega, by go_num, rfl, own_cast hown rfl (by rw [List.map_append]; rfl), HA2, own_grown (hB.alloc hs _) (ho.alloc _) hg (by simp; omega)⟩
        case measure => simp [intOf]; omega
      · have hdec : (k < len1 ∧ ¬ k < 6) ∨ ¬ k < len1 := by omega
        have HO := Lib.hid ho
        have HB := Lib.hid hB
        clear hlt ho hB
        rcases hdec with ⟨h1, h2⟩ | h1
        · have d1 : decide ((k : Int) < (len1 : Int)) = true := decide_eq_true (by omega)
          have d2 : decide ((k : Int) < 6) = false := decide_eq_false (by omega)
          go_wp2_with fail
          go_meet
          case rel => exact ⟨k, ws, A2, c2, hk6, rfl, HO.out, HA, HB.out⟩
        · have d1 : decide ((k : Int) < (len1 : Int)) = false := decide_eq_false (by omega)
          go_wp2_with fail
          go_meet
          case rel => exact ⟨k, ws, A2, c2, hk6, rfl, HO.out, HA, HB.out⟩
  case rest =>
    obtain ⟨k, ws, A2, c2, hk6, rfl, ho, HA, hB⟩ := hcut
    have hs := hB.size
    have HO := Lib.hid ho
    have HB := Lib.hid hB
    clear ho hB hr
    obtain ⟨wr, hwr⟩ : ∃ v, v = wc := ⟨_, rfl⟩
    rw [← hwr] at HO HB hs ⊢
    clear hwr
    clear wc
    have HA2 := Lib.hid (show (∀ x ∈ ws ++ [1], x ≤ 1048576) ∧ 0 < (ws ++ [1]).sum from ⟨fun x hx => by
      rcases List.mem_append.1 hx with h | h
      · have := HA.out x h; omega
      · rw [List.mem_singleton.1 h]; omega, by simp⟩)
    have hlw : ws.length = k := by simpa using HO.out.1
    go_wp2_with (at_builtin; refine wpList_append_rd _ rfl _ _ 23 rfl w.heap.size 3 i0 (.int .i64 0) 8 Try.underlying23 hi hz0 hz1 hz2 rfl (.slice A2 k c2) k _ rfl (HO.out.alloc _) (wr.heap.size + 1) (some ⟨wr.heap.size, 0, none⟩) 1 1 [nv 1] rfl (boxed_rd wr (nv 1) 3) (fun u hu => by rw [List.mem_singleton.1 hu]; rfl) (by unfold maxLen; omega) (by omega) (by simp; omega) ?_; intro A3 c3 W2 hown hg _; have B2 := own_grown (HB.out.alloc hs (.cells #[nv 1] 3)) (HO.out.alloc _) hg (by simp; omega); have O3 := Lib.hid hown; have PB := Lib.hid B2; have hs2 := B2.size; clear hown hg B2)
    obtain ⟨n, hn⟩ : ∃ n, n = k + 1 := ⟨_, rfl⟩
    obtain ⟨vs, hvs⟩ : ∃ vs, vs = ws ++ [1] := ⟨_, rfl⟩
    have hvl : vs.length = n := by rw [hvs, List.length_append, hlw, hn]; rfl
    have O4 := Lib.hid (own_cast O3.out rfl (show _ = vs.map nv by rw [hvs, List.map_append]; rfl))
    rw [← hvs] at HA2
    have hn7 : n ≤ 7 := by omega
    rw [← hn] at O4 ⊢
    clear O3 HO HB HA hlw hvs hn
    obtain ⟨ws, hwsv⟩ : ∃ ws, ws = vs := ⟨_, rfl⟩
    rw [← hwsv] at O4 HA2 hvl
    clear hwsv
    have HL2 := Lib.hid hvl
    have HSUM := Lib.hid HA2.out.2
    clear hvl
    have RW0 := Lib.hid (And.intro HA2.out.1 HSUM.out)
    clear hs
    go_wp2_with fail
    go_loopw [10, 12] (fun vv ix wx => ∃ (i : Nat) (A4 : Option Addr) (c4 : Nat), i ≤ n ∧ ix = .int .i64 i ∧ vv = .slice A4 i c4 ∧ wx.ownsRow w.heap.size 3 1 (.slice A4 i c4) i (((ws.take i).map (f * ·)).map nv) ∧ wx.ownsRow w.heap.size 3 1 (.slice A3 n c3) n (ws.map nv) ∧ Apart (.slice A4 i c4) (.slice A3 n c3) ∧ Hid (Below w.heap.size w wx)) (fun _ ix _ => n - (intOf ix).toNat)
    case atStart => exact ⟨0, none, 0, Nat.zero_le _, rfl, rfl, World.ownsRow_nil _ _ _ _, O4.out, Apart.none, PB⟩
    case round =>
      clear O4 PB hs2
      obtain ⟨i, A4, c4, hin, rfl, rfl, hov, how, hap, HB⟩ := hrel
      by_cases hlt : i < n
      · obtain ⟨a, ha, ci⟩ := Rd.nat' (Rd.of_own how) i hlt
        subst ha
        obtain ⟨x, hx⟩ : ∃ x, x = ws.getD i 0 := ⟨_, rfl⟩
        rw [← hx] at ci
        have hx20 : x ≤ 1048576 := by
          rw [hx, List.getD_eq_getElem?_getD, List.getElem?_eq_getElem (by rw [HL2.out]; exact hlt)]
          exact RW0.out.1 _ (List.getElem_mem _)
        obtain ⟨p, hp⟩ : ∃ p, p = f * x := ⟨_, rfl⟩
        have e8 : (f : Int) * (x : Int) = (p : Int) := by rw [hp]; exact (Int.natCast_mul _ _).symm
        have hp2 : p ≤ 1048576000 := by rw [hp]; exact Nat.le_trans (Nat.mul_le_mul hf2 hx20) (by omega)
        have hE := Lib.hid (show ((ws.take i).map (f * ·)).map nv ++ [nv p] = ((ws.take (i + 1)).map (f * ·)).map nv from by
          rw [take_snoc ws 0 i (by rw [HL2.out]; exact hlt), ← hx, List.map_append, List.map_append, hp]; rfl)
        have hs := HB.out.size
        have OV := Lib.hid hov
        have OW := Lib.hid how
        have HAP := Lib.hid hap
        clear hov how hap hx hp
        go_wp2_with (at_builtin; refine wpList_append_rd _ rfl _ _ 23 rfl w.heap.size 3 i0 (.int .i64 0) 8 Try.underlying23 hi hz0 hz1 hz2 rfl (.slice A4 i c4) i _ rfl (OV.out.alloc _) (wr.heap.size + 1) (some ⟨wr.heap.size, 0, none⟩) 1 1 [nv p] rfl (boxed_rd wr (nv p) 3) (fun u hu => by rw [List.mem_singleton.1 hu]; rfl) (by unfold maxLen; omega) (by omega) (by simp; omega) ?_; intro A7 c7 W2 hown hg hbb; have how2 := (OW.out.alloc (.cells #[nv p] 3)).kept hg (HAP.out.sym.ne); have hB2 := own_grown (HB.out.alloc hs (.cells #[nv p] 3)) (OV.out.alloc _) hg (by simp; omega); have hap2 := HAP.out.grow (OW.out.alloc (.cells #[nv p] 3)) hbb (by simp); have P1 := Lib.hid hown; have P2 := Lib.hid how2; have P3 := Lib.hid hB2; have P4 := Lib.hid hap2; clear hown how2 hB2 hap2 hg hbb)
        go_roundw
        case rel => exact ⟨i + 1, _, _, by omega, by go_num, rfl, own_cast P1.out rfl hE.out, P2.out, P4.out, P3⟩
        case measure => simp [intOf]; omega
      · have hie : i = n := by omega
        subst hie
        have RV := Rd.of_own hov
        have RWd := Rd.of_own how
        rw [List.take_of_length_le (by rw [HL2.out]; exact Nat.le_refl _)] at RV
        have hB := HB.out
        have s1 := hB.size
        obtain ⟨n, hnn⟩ : ∃ n, n = i := ⟨_, rfl⟩
        rw [← hnn] at RV RWd hn7 ⊢
        have hll : ws.length = n := by rw [hnn]; exact HL2.out
        have HL3 := Lib.hid hll
        clear hov how hap HB hin hlt HL2 hnn hll
        have HL2 := Lib.hid HL3.out
        clear HL3
        obtain ⟨xs, hxs⟩ : ∃ xs, xs = split t ws := ⟨_, rfl⟩
        have HX := Lib.hid hxs
        have hws40 : ∀ x ∈ ws, x ≤ 1099511627776 := fun x hx => by have := RW0.out.1 x hx; omega
        have hvs40 : ∀ x ∈ ws.map (f * ·), x ≤ 1099511627776 := fun x hx => by
          obtain ⟨y, hy, rfl⟩ := List.mem_map.1 hx
          have h1 := RW0.out.1 y hy
          have h2 : f * y ≤ 1000 * 1048576 := Nat.mul_le_mul hf2 h1
          show f * y ≤ _
          omega
        have hvsum : 0 < (ws.map (f * ·)).sum := by
          rw [sum_mul]
          exact Nat.mul_pos hf0 HSUM.out
        have H40 := Lib.hid (And.intro hws40 (And.intro hvs40 hvsum))
        clear hxs hws40 hvs40 hvsum
        go_wp2_with fail
        refine (split_t t _ rfl ws n c3 A3 (by omega) H40.out.1 HSUM.out (by omega) wr RWd xs HX.out).mono ?_
        rintro e W4 ⟨A5, c5, rfl, R5, -, hB4⟩
        have RV4 := RV.later hB4 hB4.size
        have RW4 := RWd.later hB4 hB4.size
        have B4 := hB.trans (hB4.mono s1)
        have s4 := B4.size
        clear hB4 RV RWd hB
        go_wp2_with fail
        refine (split_t t _ rfl (ws.map (f * ·)) n c4 A4 (by omega) H40.out.2.1 H40.out.2.2 (by omega) W4 RV4 xs (by rw [split_scale t f hf0 ws]; exact HX.out)).mono ?_
        rintro e W5 ⟨A6, c6, rfl, R6, -, hB5⟩
        have RX5 := R5.later hB5 hB5.size
        have RW5 := RW4.later hB5 hB5.size
        have B5 := B4.trans (hB5.mono s4)
        have s5 := B5.size
        have n1 : ((n : Int) != (n : Int)) = false := by simp
        clear hB5 R5 RW4 B4 RV4
        go_wp2_with fail
        refine (same3_nat A5 A6 n c5 n c6 xs xs W5.heap.size (by omega) W5 RX5 R6 rfl).mono ?_
        rintro e W6 ⟨rfl, hq⟩
        have RX6 := RX5.later (hq.below W5.heap.size) (hq.below W5.heap.size).size
        have RW6 := RW5.later (hq.below W5.heap.size) (hq.below W5.heap.size).size
        have B6 := B5.trans (hq.below _)
        clear hq RX5 RW5 R6 B5
        go_wp2_with fail
        go_loopw [17, 18] (fun ix _ wx => ∃ i : Nat, i ≤ n ∧ ix = .int .i64 i ∧ Hid (Quiet W6 wx)) (fun ix _ _ => n - (intOf ix).toNat)
        case atStart => exact ⟨0, Nat.zero_le _, rfl, ⟨0, rfl⟩⟩
        case round =>
          obtain ⟨i, hi', rfl, HQ⟩ := hrel
          by_cases hlt : i < n
          · obtain ⟨wo, hwo⟩ : ∃ wo : World, wo = wr := ⟨_, rfl⟩
            rw [← hwo] at HQ ⊢
            clear hwo
            clear wr
            go_wp2_with fail
            go_loopw [18] (fun jx wx => ∃ j : Nat, j ≤ n ∧ jx = .int .i64 j ∧ Hid (Quiet W6 wx)) (fun jx _ => n - (intOf jx).toNat)
            case atStart => exact ⟨0, Nat.zero_le _, rfl, HQ⟩
            case round =>
              clear HQ
              obtain ⟨j, hj', rfl, HQ⟩ := hrel
              by_cases hjt : j < n
              · have RA := RW6.later (HQ.out.below W6.heap.size) (HQ.out.below W6.heap.size).size
                have RX := RX6.later (HQ.out.below W6.heap.size) (HQ.out.below W6.heap.size).size
                obtain ⟨x, hx⟩ : ∃ x, x = ws.getD i 0 := ⟨_, rfl⟩
                obtain ⟨y, hy⟩ : ∃ y, y = ws.getD j 0 := ⟨_, rfl⟩
                obtain ⟨u, hu⟩ : ∃ u, u = xs.getD i 0 := ⟨_, rfl⟩
                obtain ⟨v, hv⟩ : ∃ v, v = xs.getD j 0 := ⟨_, rfl⟩
                obtain ⟨a, ha, ci⟩ := Rd.nat' RA i hlt
                obtain ⟨_, e1, cj⟩ := Rd.nat' RA j hjt
                obtain ⟨b, hb, di⟩ := Rd.nat' RX i hlt
                obtain ⟨_, e2, dj⟩ := Rd.nat' RX j hjt
                subst ha hb
                injection e1 with e1
                subst e1
                injection e2 with e2
                subst e2
                rw [← hx] at ci
                rw [← hy] at cj
                rw [← hu] at di
                rw [← hv] at dj
                have hmono : y < x → v ≤ u := by
                  rw [hx, hy, hu, hv, HX.out]
                  exact split_mono t ws HSUM.out i j (by rw [HL2.out]; exact hlt) (by rw [HL2.out]; exact hjt)
                have b1 : (i : Int) < (n : Int) := by omega
                have b2 : (j : Int) < (n : Int) := by omega
                clear hx hy hu hv RA RX
                by_cases hxy : y < x
                · have huv := hmono hxy
                  have p1 : decide ((x : Int) > (y : Int)) = true := decide_eq_true (by omega)
                  have p2 : decide ((u : Int) < (v : Int)) = false := decide_eq_false (by omega)
                  clear hmono
                  go_wp2_with fail
                  go_quiet (fail)
                  go_wp2_with fail
                  go_roundw
                  case rel => exact ⟨j + 1, by omega, by go_num, HQ.out.n _⟩
                  case measure => simp [intOf]; omega
                · have hle : x ≤ y := by omega
                  have p1 : decide ((x : Int) > (y : Int)) = false := decide_eq_false (by omega)
                  have p3 : decide ((y : Int) < (x : Int)) = false := decide_eq_false (by omega)
                  have p4 : decide (y < x) = false := decide_eq_false (by omega)
                  clear hmono hxy
                  go_wp2_with fail
                  go_quiet (fail)
                  go_wp2_with fail
                  go_roundw
                  case rel => exact ⟨j + 1, by omega, by go_num, HQ.out.n _⟩
                  case measure => simp [intOf]; omega
              · go_wp2_with fail
                go_roundw
                case rel => exact ⟨i + 1, by omega, by go_num, HQ⟩
                case measure => simp [intOf]; omega
          · have B7 := B6.trans (HQ.out.below w.heap.size)
            go_wp2_with fail
            refine (lives_from w wr B7).mono ?_
            rintro e W7 ⟨rfl, B8⟩
            go_wp2_with fail
            go_ret
            exact ⟨rfl, B8⟩
end Go.Proofs.Ytedjmpifkgonhaa
