/- The law WireOne, walked. -/
import Derived.Test.YtigbknhlmifikaaWone
import Derived.Deep.Cut
import Derived.Deep.CutRange
namespace Go.Proofs.Ytigbknhlmifikaa
open Go.RowKit Hb Wm

set_option maxRecDepth 100000 in
set_option maxHeartbeats 4000000 in
theorem WireOne_walk (w : World) (a0 : Option Addr) (n0 c0 : Nat) (bs : List UInt8) (r0 : Rd w w.heap.size a0 n0 (bs.map bv)) (h0 : n0 ≤ c0) (hc0 : c0 ≤ maxLen)
    (a1 : Option Addr) (n1 c1 : Nat) (xs : List Int) (r1 : Rd w w.heap.size a1 n1 (xs.map iv)) (bd1 : ∀ y ∈ xs, -9223372036854775808 ≤ y ∧ y ≤ 9223372036854775807) (h1 : n1 ≤ c1) (hc1 : c1 ≤ maxLen)
    (a2 : Int) (w2 : (Lit.int .i64 a2).wf = true) (a3 : Int) (w3 : (Lit.int .u8 a3).wf = true)
    (a4 : Option Addr) (n4 c4 : Nat) (ls : List Int) (r4 : Rd w w.heap.size a4 n4 (ls.map iv)) (bd4 : ∀ y ∈ ls, -9223372036854775808 ≤ y ∧ y ≤ 9223372036854775807) (h4 : n4 ≤ c4) (hc4 : c4 ≤ maxLen) :
    Calls Try.prog 6 #[.slice a0 n0 c0, .slice a1 n1 c1, .int .i64 a2, .int .u8 a3, .slice a4 n4 c4] w fun e W' => e = .returned (.bool true) ∧ Below w.heap.size w W' := by
  obtain ⟨iV, hiV, hzV0, hzV1, hzV2⟩ := info_parts infoV
  obtain ⟨q, rfl⟩ : ∃ q : UInt8, a3 = (q.toNat : Int) := ⟨UInt8.ofNat a3.toNat, by have := bounds_u8 w3; simp; omega⟩
  go_enter Try.func6, Try.ntmps6
  go_wp2_with fail
  refine (vals_any a1 n1 c1 xs (by unfold maxLen at *; omega) bd1 w r1).mono ?_
  rintro e W1 ⟨x, N, all, rfl, hN8, hvs, hO, B1⟩
  obtain ⟨A, ca, rfl⟩ : ∃ A ca, x = .slice A N ca := by obtain ⟨rs2, ho, _⟩ := hO; exact own_form ho
  have hal : all.length = N := by obtain ⟨_, _, _, h, _⟩ := hO; exact h
  have s1 := B1.size
  have HVS := Lib.hid hvs
  have HAL := Lib.hid hal
  have hlen := encs_len60 all hvs
  rw [hal] at hlen
  have hV := hO.vs
  have hV1 := hV
  clear hvs hal hO
  go_wp2_with fail
  refine (encode_any A N ca all (fun v hv => (HVS.out v hv).1.ok) (by omega) W1 hV).mono ?_
  obtain ⟨es, hes⟩ : ∃ es, es = encs all := ⟨_, rfl⟩
  rw [← hes] at hlen
  rw [← hes]
  clear hes
  rintro e W2 ⟨A2, c2, rfl, ho2, hB⟩
  have B2 := B1.trans (hB.mono s1)
  have s2 := B2.size
  have z2 := hB.size
  have HW2 := Lib.hid hB
  clear hB hV
  obtain ⟨M, hM⟩ : ∃ M, M = es.length := ⟨_, rfl⟩
  rw [← hM] at ho2 hlen
  simp only [← hM]
  have HM := Lib.hid hM
  clear hM
  go_upto_if 24 with (fail)
  go_cut [] from 24 (fun wx => ∃ tb : List UInt8, tb.length = M ∧ wx.ownsRow W1.heap.size 5 1 (.slice A2 M c2) M (tb.map bv) ∧ Below W1.heap.size W1 wx)
  case first =>
    by_cases hM0 : 0 < M
    · obtain ⟨g, rfl⟩ := own_some ho2 hM0
      go_wp2_with fail
      refine (around_t a2 M _ rfl w2 (by omega) _).mono ?_
      rintro e W ⟨⟨k, rfl, hk⟩, rfl⟩
      have hfz := ho2.frozenAt k
      have hyl : (es.map bv).length = M := by simpa using ho2.1
      obtain ⟨y, hcl⟩ : ∃ y, W2.cell? ⟨g, k, none⟩ = some y := ⟨(es.map bv)[k]'(by omega), by rw [ho2.cellAt k (by omega), List.getElem?_eq_getElem (by omega)]⟩
      have hst := (ho2.stored k (.int .u8 (q.toNat : Int))).1
      have hg := (ho2.lt g rfl).1
      have hsl : (es.set k q).length = M := by rw [List.length_set]; exact HM.out.symm
      have i0' : (0 : Int) ≤ (k : Int) := Int.natCast_nonneg _
      have i1' : (k : Int) < (M : Int) := by omega
      have HST := Lib.hid hst
      have HSL := Lib.hid hsl
      clear hst hsl hyl ho2
      go_wp2_with fail
      go_meet
      case rel => exact ⟨es.set k q, HSL.out, own_cast HST.out rfl (by rw [List.map_set]; rfl), HW2.out.setCell (p := ⟨g, k, none⟩) hg _⟩
    · go_wp2_with fail
      go_meet
      case rel => exact ⟨es, HM.out.symm, ho2, HW2.out⟩
  case rest =>
  obtain ⟨tb, htl, ho3, hB3⟩ := hcut
  have HTL := Lib.hid htl
  have hVc : Vs wc W1.heap.size A N all := hV1.below hB3 (Nat.le_refl _)
  have Bc := B1.trans (hB3.mono s1)
  have sc := Bc.size
  have zc := hB3.size
  have R3 := Rd.of_own ho3
  have l3 := own_le ho3
  have l3' := own_cap ho3
  unfold maxLen at l3'
  clear htl hB3 ho3
  go_wp2_with fail
  refine (r_read A2 M c2 tb (by omega) l3 wc R3).mono ?_
  rintro e W4 ⟨p, rfl, hp, hR, hB⟩
  have B4 := Bc.trans (hB.mono sc)
  have hV4 := hVc.below (hB.mono zc) (Nat.le_refl _)
  have R4 := R3.below hB
  have hpz := hR.lt
  have z4 := hB.size
  have hB4 := hB
  clear hB R3 hVc
  go_wp2_with fail
  go_loopw [14, 15] (fun gv ix wr => ∃ (i : Nat) (gs : List VV) (s : St), i ≤ N ∧ ix = .int .i64 i ∧ OneSt tb gs s ∧ OwnVs wr W4.heap.size gv i gs ∧ Rr wr p (Between wc.heap.size p) s ∧ Vs wr W1.heap.size A N all ∧ Rd wr wc.heap.size A2 M (tb.map bv) ∧ Below wc.heap.size wc wr ∧ W4.heap.size ≤ wr.heap.size) (fun _ ix _ => N - (intOf ix).toNat)
  case atStart => exact ⟨0, [], (0, tb), Nat.zero_le _, rfl, OneSt.start tb, ⟨[], World.ownsRow_nil _ _ _ _, rfl, rfl, by simp⟩, hR, hV4, R4, hB4, Nat.le_refl _⟩
  case round =>
    obtain ⟨i, gs, s, hiN0, rfl, hs, hO, hRi, hVi, hRd, hBi, hzi⟩ := hrel
    have hpi := hRi.lt
    by_cases hiN : i < N
    · obtain ⟨g, rr, v, rfl, hgb, hvi, hrv, e0, -, -, -, -⟩ := hVi.at hiN
      have hvo := (HVS.out v (List.mem_of_getElem? hvi)).1.ok
      rw [hrv.k] at e0
      have hk5 := hvo.k
      have i0' : (0 : Int) ≤ (i : Int) := Int.natCast_nonneg _
      have i1' : (i : Int) < (N : Int) := by omega
      have hls : s.2.length ≤ 1000000 := by have := hs.2.2; have := HTL.out; omega
      have HRD := Lib.hid (read_any p (Between wc.heap.size p) s hls v.k hk5 wr hRi)
      have HS := Lib.hid (fun he => hs.step v.k hk5 (by have := HTL.out; omega) he)
      clear hs hvi hrv
      go_wp2_with fail
      refine HRD.out.mono ?_
      rintro e W7 ⟨r7, rfl, ho7, hR7, hG7⟩
      have hO7 := hO.reader hRi hG7
      have z7 := hG7.size
      have hV7 := hVi.below (below_of_grown hG7 (by omega) (by omega)) (Nat.le_refl _)
      have hRd7 := hRd.grown hG7 (by omega) hp
      have B7 := hBi.trans (below_of_grown hG7 (by omega) hp)
      have hs2 := HS.out fun he => hR7.2.1 he
      obtain ⟨rs, hox, hrl, hvl, hall⟩ := hO7
      obtain ⟨Ax, cx, rfl⟩ := own_form hox
      have HPU := Lib.hid (fun x' w2 tmp hown' hgrow => OwnVs.push (w2 := w2) (x' := x') (tmp := tmp) hox hrl hvl hall (ho7.base hzi) hown' hgrow)
      have HS2 := Lib.hid hs2
      clear hs2 hall hrl hvl hO ho7
      go_wp2_with (at_builtin; refine wpList_append_own _ rfl _ _ 25 rfl W4.heap.size 28 iV (.agg #[.int .i64 0, .int .u64 0, .int .i64 0, .slice none 0 0, .slice none 0 0]) 5 72 Try.underlying25 hiV hzV0 hzV1 hzV2 rfl (by decide) (.slice Ax i cx) i _ rfl (hox.alloc _) ⟨W7.heap.size, 0, none⟩ 1 1 r7.cells rfl rfl (World.news_of_block (World.alloc_heap_new W7 _)) (by simp [RV.cells, Value.oneCell']) (by unfold maxLen; omega) (by omega) (by simp; omega) ?_; intro x' W8 hown' hgrow _)
      have hO8 := HPU.out x' W8 _ hown' hgrow
      have hB8 : Below W4.heap.size W7 W8 := own_grown5 ((Below.refl W4.heap.size W7).alloc (by omega) _) (hox.alloc _) hgrow (by simp; omega)
      have hR8 : Rr W8 p (Between wc.heap.size p) (rV s v.k).2 := (hR7.below ((Below.refl W7.heap.size W7).alloc (Nat.le_refl _) _) (Nat.le_refl _)).row hgrow (fun k hk => by
        have := (hox.lt k hk).1
        exact ⟨fun h => by unfold Between at h; omega, by omega⟩)
      have hV8 := hV7.below (hB8.mono (by omega)) (Nat.le_refl _)
      have hRd8 := hRd7.below (hB8.mono (by omega))
      have B8 := B7.trans (hB8.mono (by omega))
      have z8 := hB8.size
      clear hown' hgrow hB8 hox
      go_wp2_with fail
      go_roundw
      case rel => exact ⟨i + 1, _, _, by omega, by go_num, HS2.out, hO8, hR8, hV8, hRd8, B8, by omega⟩
      case measure => simp [intOf]; omega
    · obtain rfl : i = N := by omega
      obtain ⟨we, rfl⟩ : ∃ we : World, we = wr := ⟨_, rfl⟩
      have hwe : w.heap.size ≤ we.heap.size := by have := hBi.size; omega
      have hBwe := Bc.trans (hBi.mono sc)
      go_upto_region 13 with (fail)
      go_cut [61] from 36 (fun b wx => b = .bool false ∧ Below w.heap.size w wx)
      case first =>
        by_cases he : endOf s = 0
        · go_wp2_with fail
          refine (r_end p _ _ we hRi).mono ?_
          rw [he]
          rintro e W8 ⟨rfl, rfl⟩
          have hfin := hs.fin he
          have hoks := hs.1
          obtain ⟨Ax, cx, rfl⟩ : ∃ Ax cx, u14 = .slice Ax i cx := by obtain ⟨rs2, ho, _⟩ := hO; exact own_form ho
          have hVg := hO.vs
          have HF := Lib.hid hfin
          have HK := Lib.hid hoks
          have hrd := hRd
          clear hs hfin hoks
          go_wp2_with fail
          refine (encode_any Ax i cx gs HK.out (by omega) we hVg).mono ?_
          rw [HF.out]
          rintro e W9 ⟨A9, c9, rfl, o9, hB9⟩
          have R9 := Rd.of_own o9
          have hrd9 : Rd W9 W9.heap.size A2 M (tb.map bv) := (hrd.below (hB9.mono (by omega))).mono (by have := hB9.size; omega)
          clear o9 hVg hrd
          go_wp2_with fail
          refine (same_bytes_t A9 A2 _ c9 M c2 tb tb W9.heap.size (by unfold maxLen; have := HTL.out; omega) W9 R9 hrd9 rfl).mono ?_
          rintro e W10 ⟨rfl, hq⟩
          have hBx := (hBwe.trans (hB9.mono hwe)).trans (hq.below w.heap.size)
          clear hq
          go_wp2_with fail
          go_meet
          case rel => exact ⟨rfl, hBx⟩
        · have hd : (((endOf s : Nat) : Int) == 0) = false := beq_eq_false_iff_ne.2 (by omega)
          go_wp2_with fail
          refine (r_end p _ _ we hRi).mono ?_
          rintro e W8 ⟨rfl, rfl⟩
          go_wp2_with fail
          go_meet
          case rel => exact ⟨rfl, hBwe⟩
      case rest =>
      obtain ⟨rfl, hBx⟩ := hcut
      have sx := hBx.size
      clear hs hO hRi hVi hRd hBi hBwe
      go_wp2_with fail
      refine (few_t a0 n0 c0 bs h0 hc0 60 (by omega) _ rfl wc (r0.later hBx sx)).mono ?_
      obtain ⟨fb, hfb⟩ : ∃ fb, fb = bs.take 60 := ⟨_, rfl⟩
      rw [← hfb]
      clear hfb
      rintro e V1 ⟨A5, m5, c5, rfl, hm5, hl5, hmc5, -, R5, -, hB⟩
      have HL5 := Lib.hid hl5
      have BV1 := hBx.trans (hB.mono sx)
      have sv1 := BV1.size
      clear hl5 hB
      go_wp2_with fail
      refine (r_read A5 m5 c5 fb (by omega) hmc5 V1 R5).mono ?_
      rintro e V2 ⟨p2, rfl, hp2, hL, hB⟩
      have BV2 := BV1.trans (hB.mono sv1)
      have R52 := R5.below hB
      have r42 := r4.below BV2
      have hpz2 := hL.lt
      have hB2 := hB
      clear hB R5
      go_wp2_with fail
      go_loopw [14, 17] (fun gv ix wr => ∃ (i : Nat) (gs : List VV) (s : St), i ≤ 10 ∧ i ≤ n4 ∧ ix = .int .i64 i ∧ OneSt fb gs s ∧ OwnVs wr V2.heap.size gv i gs ∧ Rr wr p2 (Between V1.heap.size p2) s ∧ Rd wr V1.heap.size A5 m5 (fb.map bv) ∧ Rd wr w.heap.size a4 n4 (ls.map iv) ∧ Below w.heap.size w wr ∧ V2.heap.size ≤ wr.heap.size) (fun _ ix _ => 10 - (intOf ix).toNat)
      case atStart => exact ⟨0, [], (0, fb), Nat.zero_le _, Nat.zero_le _, rfl, OneSt.start fb, ⟨[], World.ownsRow_nil _ _ _ _, rfl, rfl, by simp⟩, hL, R52, r42, BV2, Nat.le_refl _⟩
      case round =>
        obtain ⟨i, gs, s, hi10, hin4, rfl, hs, hO, hRi, hRd, hKd, hBi, hzi⟩ := hrel
        obtain ⟨we, rfl⟩ : ∃ we : World, we = wr := ⟨_, rfl⟩
        have hpi := hRi.lt
        have sz := hBi.size
        have zV := hB2.size
        have hfin2 : True := trivial
        by_cases hc12 : i < n4 ∧ i < 10
        · obtain ⟨hc1', hc2'⟩ := hc12
          by_cases he : endOf s = 0
          · go_wp2_with fail
            refine (r_end p2 _ _ we hRi).mono ?_
            rw [he]
            rintro e W8 ⟨rfl, rfl⟩
            go_wp2_with fail
            refine (r_end p2 _ _ we hRi).mono ?_
            rw [he]
            rintro e W8 ⟨rfl, rfl⟩
            have hfin := hs.fin he
            have hoks := hs.1
            obtain ⟨Ax, cx, rfl⟩ : ∃ Ax cx, u14 = .slice Ax i cx := by obtain ⟨rs2, ho, _⟩ := hO; exact own_form ho
            have hVg := hO.vs
            have HF := Lib.hid hfin
            have HK := Lib.hid hoks
            have hrd := hRd
            clear hs hfin hoks
            go_wp2_with fail
            refine (encode_any Ax i cx gs HK.out (by omega) we hVg).mono ?_
            rw [HF.out]
            rintro e W9 ⟨A9, c9, rfl, o9, hB9⟩
            have R9 := Rd.of_own o9
            have hrd9 : Rd W9 W9.heap.size A5 m5 (fb.map bv) := (hrd.below (hB9.mono (by omega))).mono (by have := hB9.size; omega)
            clear o9 hVg hrd
            go_wp2_with fail
            refine (same_bytes_t A9 A5 _ c9 m5 c5 fb fb W9.heap.size (by unfold maxLen; have := HL5.out; omega) W9 R9 hrd9 rfl).mono ?_
            rintro e W10 ⟨rfl, hq⟩
            have hBy := (hBi.trans (hB9.mono sz)).trans (hq.below w.heap.size)
            clear hq
            go_wp2_with fail
            refine (lives_from w _ hBy).mono ?_
            rintro e W11 ⟨rfl, B11⟩
            go_wp2_with fail
            go_ret
            exact ⟨rfl, B11⟩
          · have hd : (((endOf s : Nat) : Int) != 0) = true := bne_iff_ne.2 (by omega)
            have HE := Lib.hid he
            obtain ⟨a, y, rfl, hab, hy, hcy⟩ := hKd.at hc1'
            have hil : i < ls.length := by have := hKd.1; simp at this; omega
            obtain ⟨z, hz⟩ : ∃ z, z = ls[i] := ⟨_, rfl⟩
            have hy' : y = iv z := by
              rw [List.getElem?_map, List.getElem?_eq_getElem hil] at hy
              rw [hz]
              exact (Option.some.inj hy).symm
            subst hy'
            unfold iv at hcy
            have hbd : -9223372036854775808 ≤ z ∧ z ≤ 9223372036854775807 := by rw [hz]; exact bd4 ls[i] (List.getElem_mem hil)
            clear hy hz he
            go_wp2_with fail
            refine (r_end p2 _ _ we hRi).mono ?_
            rintro e W8 ⟨rfl, rfl⟩
            go_wp2_with fail
            refine (around_b z 6 _ rfl hbd (by omega) we).mono ?_
            rintro e W ⟨⟨k, rfl, hk⟩, rfl⟩
            have hls : s.2.length ≤ 1000000 := by have := hs.2.2; have := HL5.out; omega
            have HRD := Lib.hid (read_any p2 (Between V1.heap.size p2) s hls k (by omega) we hRi)
            have HS := Lib.hid (fun he => hs.step k (by omega) (by have := HL5.out; omega) he)
            clear hs hd
            go_wp2_with fail
            refine HRD.out.mono ?_
            rintro e W7 ⟨r7, rfl, ho7, hR7, hG7⟩
            have hO7 := hO.reader hRi hG7
            have z7 := hG7.size
            have hRd7 := hRd.grown hG7 (by omega) hp2
            have hKd7 := hKd.grown hG7 (by omega) (by omega)
            have B7 := hBi.trans (below_of_grown hG7 (by omega) (by omega))
            have hs2 := HS.out fun he => hR7.2.1 he
            obtain ⟨rs, hox, hrl, hvl, hall⟩ := hO7
            obtain ⟨Ax, cx, rfl⟩ := own_form hox
            have HPU := Lib.hid (fun x' w2 tmp hown' hgrow => OwnVs.push (w2 := w2) (x' := x') (tmp := tmp) hox hrl hvl hall (ho7.base hzi) hown' hgrow)
            have HS2 := Lib.hid hs2
            clear hs2 hall hrl hvl hO ho7
            go_wp2_with (at_builtin; refine wpList_append_own _ rfl _ _ 25 rfl V2.heap.size 28 iV (.agg #[.int .i64 0, .int .u64 0, .int .i64 0, .slice none 0 0, .slice none 0 0]) 5 72 Try.underlying25 hiV hzV0 hzV1 hzV2 rfl (by decide) (.slice Ax i cx) i _ rfl (hox.alloc _) ⟨W7.heap.size, 0, none⟩ 1 1 r7.cells rfl rfl (World.news_of_block (World.alloc_heap_new W7 _)) (by simp [RV.cells, Value.oneCell']) (by unfold maxLen; omega) (by omega) (by simp; omega) ?_; intro x' W8 hown' hgrow _)
            have hO8 := HPU.out x' W8 _ hown' hgrow
            have hB8 : Below V2.heap.size W7 W8 := own_grown5 ((Below.refl V2.heap.size W7).alloc (by omega) _) (hox.alloc _) hgrow (by simp; omega)
            have hR8 : Rr W8 p2 (Between V1.heap.size p2) (rV s k).2 := (hR7.below ((Below.refl W7.heap.size W7).alloc (Nat.le_refl _) _) (Nat.le_refl _)).row hgrow (fun k hk => by
              have := (hox.lt k hk).1
              exact ⟨fun h => by unfold Between at h; omega, by omega⟩)
            have hRd8 := hRd7.below (hB8.mono (by omega))
            have hKd8 := hKd7.below (hB8.mono (by omega))
            have B8 := B7.trans (hB8.mono (by omega))
            have z8 := hB8.size
            clear hown' hgrow hB8 hox
            go_wp2_with fail
            go_roundw
            case rel => exact ⟨i + 1, _, _, by omega, by omega, by go_num, HS2.out, hO8, hR8, hRd8, hKd8, B8, by omega⟩
            case measure => simp [intOf]; omega
        · by_cases hc1' : i < n4
          · have hc2' : ¬ i < 10 := by omega
            clear hc12
            by_cases he : endOf s = 0
            · go_wp2_with fail
              refine (r_end p2 _ _ we hRi).mono ?_
              rw [he]
              rintro e W8 ⟨rfl, rfl⟩
              have hfin := hs.fin he
              have hoks := hs.1
              obtain ⟨Ax, cx, rfl⟩ : ∃ Ax cx, u14 = .slice Ax i cx := by obtain ⟨rs2, ho, _⟩ := hO; exact own_form ho
              have hVg := hO.vs
              have HF := Lib.hid hfin
              have HK := Lib.hid hoks
              have hrd := hRd
              clear hs hfin hoks
              go_wp2_with fail
              refine (encode_any Ax i cx gs HK.out (by omega) we hVg).mono ?_
              rw [HF.out]
              rintro e W9 ⟨A9, c9, rfl, o9, hB9⟩
              have R9 := Rd.of_own o9
              have hrd9 : Rd W9 W9.heap.size A5 m5 (fb.map bv) := (hrd.below (hB9.mono (by omega))).mono (by have := hB9.size; omega)
              clear o9 hVg hrd
              go_wp2_with fail
              refine (same_bytes_t A9 A5 _ c9 m5 c5 fb fb W9.heap.size (by unfold maxLen; have := HL5.out; omega) W9 R9 hrd9 rfl).mono ?_
              rintro e W10 ⟨rfl, hq⟩
              have hBy := (hBi.trans (hB9.mono sz)).trans (hq.below w.heap.size)
              clear hq
              go_wp2_with fail
              refine (lives_from w _ hBy).mono ?_
              rintro e W11 ⟨rfl, B11⟩
              go_wp2_with fail
              go_ret
              exact ⟨rfl, B11⟩
            · have hd : (((endOf s : Nat) : Int) != 0) = true := bne_iff_ne.2 (by omega)
              go_wp2_with fail
              refine (r_end p2 _ _ we hRi).mono ?_
              rintro e W8 ⟨rfl, rfl⟩
              go_wp2_with fail
              refine (lives_from w _ hBi).mono ?_
              rintro e W11 ⟨rfl, B11⟩
              go_wp2_with fail
              go_ret
              exact ⟨rfl, B11⟩
          · clear hc12
            by_cases he : endOf s = 0
            · go_wp2_with fail
              refine (r_end p2 _ _ we hRi).mono ?_
              rw [he]
              rintro e W8 ⟨rfl, rfl⟩
              have hfin := hs.fin he
              have hoks := hs.1
              obtain ⟨Ax, cx, rfl⟩ : ∃ Ax cx, u14 = .slice Ax i cx := by obtain ⟨rs2, ho, _⟩ := hO; exact own_form ho
              have hVg := hO.vs
              have HF := Lib.hid hfin
              have HK := Lib.hid hoks
              have hrd := hRd
              clear hs hfin hoks
              go_wp2_with fail
              refine (encode_any Ax i cx gs HK.out (by omega) we hVg).mono ?_
              rw [HF.out]
              rintro e W9 ⟨A9, c9, rfl, o9, hB9⟩
              have R9 := Rd.of_own o9
              have hrd9 : Rd W9 W9.heap.size A5 m5 (fb.map bv) := (hrd.below (hB9.mono (by omega))).mono (by have := hB9.size; omega)
              clear o9 hVg hrd
              go_wp2_with fail
              refine (same_bytes_t A9 A5 _ c9 m5 c5 fb fb W9.heap.size (by unfold maxLen; have := HL5.out; omega) W9 R9 hrd9 rfl).mono ?_
              rintro e W10 ⟨rfl, hq⟩
              have hBy := (hBi.trans (hB9.mono sz)).trans (hq.below w.heap.size)
              clear hq
              go_wp2_with fail
              refine (lives_from w _ hBy).mono ?_
              rintro e W11 ⟨rfl, B11⟩
              go_wp2_with fail
              go_ret
              exact ⟨rfl, B11⟩
            · have hd : (((endOf s : Nat) : Int) != 0) = true := bne_iff_ne.2 (by omega)
              go_wp2_with fail
              refine (r_end p2 _ _ we hRi).mono ?_
              rintro e W8 ⟨rfl, rfl⟩
              go_wp2_with fail
              refine (lives_from w _ hBi).mono ?_
              rintro e W11 ⟨rfl, B11⟩
              go_wp2_with fail
              go_ret
              exact ⟨rfl, B11⟩
end Go.Proofs.Ytigbknhlmifikaa
