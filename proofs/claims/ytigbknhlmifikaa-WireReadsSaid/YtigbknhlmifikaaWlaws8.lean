/- The law WireReads, walked. -/
import Derived.Test.YtigbknhlmifikaaWrrd3
import Derived.Test.YtigbknhlmifikaaWref2
import Derived.Deep.Cut
import Derived.Deep.CutRange
namespace Go.Proofs.Ytigbknhlmifikaa
open Go.RowKit Hb Wm

theorem TRow.above {w W : World} {base n c q : Nat} {e : TypeId} {A : Option Addr} {xs : List Value} (h : TRow w base e A n c xs) (hg : w.grownBy W (some q)) (hq : q < base) : TRow W base e A n c xs := by
  obtain ⟨hl, h1, h2, h⟩ := h
  refine ⟨hl, h1, h2, ?_⟩
  rcases h with h | ⟨g, cur, fr, rfl, hb, hgg, ht⟩
  · exact .inl h
  · exact .inr ⟨g, cur, fr, rfl, hb, (hg.block g (Array.getElem?_eq_some_iff.1 hgg).1 (fun e1 => by cases e1; omega)).trans hgg, ht⟩
theorem RvOwn.above {w W : World} {base q : Nat} {r : RV} {v : VV} (h : RvOwn w base r v) (hg : w.grownBy W (some q)) (hq : q < base) : RvOwn W base r v :=
  ⟨h.k, h.u, h.n, h.b.above hg hq, h.l.above hg hq⟩
/-- reading leaves no more than there was -/
theorem rV_rest (s : St) (k : Nat) (hs : s.2.length ≤ 1000) : (rV s k).2.2.length ≤ 1000 := by
  have h1 := rU_len s
  have hlen : (rLen s).2.2.length ≤ s.2.length := by
    unfold rLen
    split
    · split
      · simp
      · exact h1
    · simp
  unfold rV
  split
  · simp only; omega
  split
  · unfold rI; simp only; omega
  split
  · unfold rB
    split
    · split
      · simp
      · rename_i c cs he
        split
        · simp
        · rw [he] at hs; simp at hs ⊢; omega
    · simp
  split
  · unfold rR
    split
    · simp; omega
    · simp
  · unfold rL
    split
    · rename_i h0
      by_cases h2 : (rN (rLen s).1 (rLen s).2.2).2.1 = 0
      · have := congrArg List.length (rN_one _ _ h2).1
        rw [List.length_append] at this
        show (rN (rLen s).1 (rLen s).2.2).2.2.length ≤ 1000
        omega
      · rw [rN_err _ _ h2]; simp
    · simp
/-- a block of two slices -/
def Two (W : World) (g : Nat) (x y : Value) : Prop := W.cell? ⟨g, 0, none⟩ = some x ∧ W.cell? ⟨g, 1, none⟩ = some y

set_option maxRecDepth 100000 in
set_option maxHeartbeats 4000000 in
theorem WireReads_walk (w : World) (a0 : Option Addr) (n0 c0 : Nat) (bs : List UInt8) (r0 : Rd w w.heap.size a0 n0 (bs.map bv)) (h0 : n0 ≤ c0) (hc0 : c0 ≤ maxLen)
    (a1 : Option Addr) (n1 c1 : Nat) (xs : List Int) (r1 : Rd w w.heap.size a1 n1 (xs.map iv)) (bd1 : ∀ y ∈ xs, -9223372036854775808 ≤ y ∧ y ≤ 9223372036854775807) (h1 : n1 ≤ c1) (hc1 : c1 ≤ maxLen)
    (a2 : Int) (w2 : (Lit.int .i64 a2).wf = true) (a3 : Int) (w3 : (Lit.int .u8 a3).wf = true)
    (a4 : Option Addr) (n4 c4 : Nat) (ls : List Int) (r4 : Rd w w.heap.size a4 n4 (ls.map iv)) (bd4 : ∀ y ∈ ls, -9223372036854775808 ≤ y ∧ y ≤ 9223372036854775807) (_ : n4 ≤ c4) (_ : c4 ≤ maxLen) :
    Calls Try.prog 4 #[.slice a0 n0 c0, .slice a1 n1 c1, .int .i64 a2, .int .u8 a3, .slice a4 n4 c4] w fun e W' => e = .returned (.bool true) ∧ Below w.heap.size w W' := by
  obtain ⟨q, rfl⟩ : ∃ q : UInt8, a3 = (q.toNat : Int) := ⟨UInt8.ofNat a3.toNat, by have := bounds_u8 w3; simp; omega⟩
  go_enter Try.func4, Try.ntmps4
  go_wp2_with fail
  refine (vals_any a1 n1 c1 xs (by unfold maxLen at *; omega) bd1 w r1).mono ?_
  rintro e W1 ⟨x, N, all, rfl, hN8, hvs, hO, B1⟩
  obtain ⟨A, ca, rfl⟩ : ∃ A ca, x = .slice A N ca := by obtain ⟨rs2, ho, _⟩ := hO; exact own_form ho
  have hal : all.length = N := by obtain ⟨_, _, _, h, _⟩ := hO; exact h
  have s1 := B1.size
  have HVS := Lib.hid hvs
  have hlen := encs_len60 all hvs
  rw [hal] at hlen
  have hV := hO.vs
  clear hvs hal hO
  go_wp2_with fail
  refine (rencode_any A N ca all (fun v hv => (HVS.out v hv).1.ok) (by omega) W1 hV).mono ?_
  obtain ⟨es, hes⟩ : ∃ es, es = encs all := ⟨_, rfl⟩
  rw [← hes] at hlen
  rw [← hes]
  clear hes
  rintro e W2 ⟨A2, c2, rfl, ho2, hB⟩
  have B2 := B1.trans (hB.mono s1)
  have s2 := B2.size
  have HW2 := Lib.hid hB
  clear hB hV
  obtain ⟨M, hM⟩ : ∃ M, M = es.length := ⟨_, rfl⟩
  have ho2' : W2.ownsRow W1.heap.size 5 1 (.slice A2 es.length c2) es.length (es.map bv) := ho2
  rw [← hM] at ho2' hlen
  simp only [← hM]
  have HM := Lib.hid hM
  clear hM ho2
  go_upto_if 23 with (fail)
  go_cut [] from 23 (fun wx => ∃ tb : List UInt8, tb.length = M ∧ wx.ownsRow W1.heap.size 5 1 (.slice A2 M c2) M (tb.map bv) ∧ Below W1.heap.size W1 wx)
  case first =>
    by_cases hM0 : 0 < M
    · obtain ⟨g, rfl⟩ := own_some ho2' hM0
      go_wp2_with fail
      refine (around_t a2 M _ rfl w2 (by omega) _).mono ?_
      rintro e W ⟨⟨k, rfl, hk⟩, rfl⟩
      have hfz := ho2'.frozenAt k
      have hyl : (es.map bv).length = M := by simpa using ho2'.1
      obtain ⟨y, hcl⟩ : ∃ y, W2.cell? ⟨g, k, none⟩ = some y := ⟨(es.map bv)[k]'(by omega), by rw [ho2'.cellAt k (by omega), List.getElem?_eq_getElem (by omega)]⟩
      have hst := (ho2'.stored k (.int .u8 (q.toNat : Int))).1
      have hg := (ho2'.lt g rfl).1
      have hsl : (es.set k q).length = M := by rw [List.length_set]; exact HM.out.symm
      have i0' : (0 : Int) ≤ (k : Int) := Int.natCast_nonneg _
      have i1' : (k : Int) < (M : Int) := by omega
      have HST := Lib.hid hst
      have HSL := Lib.hid hsl
      clear hst hsl hyl ho2'
      go_wp2_with fail
      go_meet
      case rel => exact ⟨es.set k q, HSL.out, own_cast HST.out rfl (by rw [List.map_set]; rfl), HW2.out.setCell (p := ⟨g, k, none⟩) hg _⟩
    · go_wp2_with fail
      go_meet
      case rel => exact ⟨es, HM.out.symm, ho2', HW2.out⟩
  case rest =>
  obtain ⟨tb, htl, ho3, hB3⟩ := hcut
  have HTL := Lib.hid htl
  have Bc := B1.trans (hB3.mono s1)
  have sc := Bc.size
  have R3 := Rd.of_own ho3
  have l3 := own_le ho3
  have l3' := own_cap ho3
  clear htl hB3 ho3
  go_wp2_with fail
  refine (few_t a0 n0 c0 bs h0 hc0 60 (by omega) _ rfl wc (r0.later Bc sc)).mono ?_
  obtain ⟨fb, hfb⟩ : ∃ fb, fb = bs.take 60 := ⟨_, rfl⟩
  rw [← hfb]
  clear hfb
  rintro e V1 ⟨A5, m5, c5, rfl, hm5, hl5, hmc5, hcm5, R5, -, hB⟩
  have HL5 := Lib.hid hl5
  have BV1 := Bc.trans (hB.mono sc)
  have sv1 := BV1.size
  have R31 := R3.later hB hB.size
  have BV2 := BV1.alloc sv1 (.cells #[.slice A5 m5 c5, .slice A2 M c2] 24)
  have hal := (Below.refl V1.heap.size V1).alloc (Nat.le_refl _) (.cells #[.slice A5 m5 c5, .slice A2 M c2] 24)
  have hTw : Two (V1.alloc (.cells #[.slice A5 m5 c5, .slice A2 M c2] 24)) V1.heap.size (.slice A5 m5 c5) (.slice A2 M c2) := by
    have hb2 := Box2.new V1 24 (.slice A5 m5 c5) (.slice A2 M c2)
    exact ⟨hb2.cell0, hb2.cell1⟩
  have R5a := R5.below hal
  have R3a := R31.below hal
  have r4a := r4.below BV2
  have HTW := Lib.hid hTw
  clear hl5 hB R5 R31 R3 hal hTw
  go_wp2_with fail
  go_loopw [13] (fun ix wr => ∃ i : Nat, i ≤ 2 ∧ ix = .int .i64 i ∧ Two wr V1.heap.size (.slice A5 m5 c5) (.slice A2 M c2) ∧ Rd wr V1.heap.size A5 m5 (fb.map bv) ∧ Rd wr V1.heap.size A2 M (tb.map bv) ∧ Rd wr w.heap.size a4 n4 (ls.map iv) ∧ Below w.heap.size w wr ∧ V1.heap.size + 1 ≤ wr.heap.size) (fun ix _ => 2 - (intOf ix).toNat)
  case atStart => exact ⟨0, by omega, rfl, HTW.out, R5a, R3a, r4a, BV2, by simp⟩
  case round =>
    obtain ⟨i, hi2, rfl, hTw, hRf, hRt, hK, hBi, hzi⟩ := hrel
    obtain ⟨wo, rfl⟩ : ∃ wo : World, wo = wr := ⟨_, rfl⟩
    have so := hBi.size
    by_cases hin : i < 2
    · obtain ⟨At, mt, ct, xt, hct, hRx, hmx, hmc, hcm⟩ : ∃ (At : Option Addr) (mt ct : Nat) (xt : List UInt8), wo.cell? ⟨V1.heap.size, i, none⟩ = some (.slice At mt ct) ∧ Rd wo V1.heap.size At mt (xt.map bv) ∧ mt ≤ 1000 ∧ mt ≤ ct ∧ ct ≤ maxLen := by
        by_cases hz : i = 0
        · subst hz
          exact ⟨A5, m5, c5, fb, hTw.1, hRf, by omega, hmc5, hcm5⟩
        · obtain rfl : i = 1 := by omega
          exact ⟨A2, M, c2, tb, hTw.2, hRt, by omega, l3, l3'⟩
      have hxl : xt.length = mt := by simpa using hRx.1
      have HXL := Lib.hid hxl
      have HTW2 := Lib.hid hTw
      have i0' : (0 : Int) ≤ (i : Int) := Int.natCast_nonneg _
      have i1' : (i : Int) < (2 : Int) := by omega
      clear hTw hxl
      go_wp2_with fail
      refine (r_read At mt ct xt (by omega) hmc wo (hRx.mono (by omega))).mono ?_
      rintro e W4 ⟨p, rfl, hp, hR, hB⟩
      have hct4 : W4.cell? ⟨V1.heap.size, i, none⟩ = some (.slice At mt ct) := (hB.cell (p := ⟨V1.heap.size, i, none⟩) (by show V1.heap.size < _; omega)).trans hct
      have z4 := hB.size
      have hpz := hR.lt
      have hRx4 := hRx.below (hB.mono (by omega))
      have B4 := hBi.trans (hB.mono so)
      have HB4 := Lib.hid hB
      clear hB hct
      have hal4 := (Below.refl W4.heap.size W4).alloc (Nat.le_refl _) (.cells #[.slice At mt ct, .int .i64 0] 47)
      have hR5 := hR.below hal4 (Nat.le_refl _)
      have hM5 : Mr (W4.alloc (.cells #[.slice At mt ct, .int .i64 0] 47)) W4.heap.size (fun k => k < V1.heap.size) (0, xt) :=
        ⟨fun k hk => ⟨by simp; omega, by omega⟩, fun h => absurd rfl h, At, mt, ct, Box2.new W4 _ _ _, hmc, hcm, fun _ => Rq.of_rd (hRx4.below (hal4.mono (by omega)))⟩
      have B5 := B4.alloc B4.size (.cells #[.slice At mt ct, .int .i64 0] 47)
      have hK5 := hK.below ((HB4.out.mono so).trans (hal4.mono B4.size))
      have hBB : Below wo.heap.size wo (W4.alloc (.cells #[.slice At mt ct, .int .i64 0] 47)) := HB4.out.trans (hal4.mono z4)
      clear hal4 hR hRx4 hRx hK
      go_wp2_with fail
      go_loopw [16] (fun jx wr => ∃ (j : Nat) (s : St), j ≤ 10 ∧ j ≤ n4 ∧ jx = .int .i64 j ∧ s.2.length ≤ 1000 ∧ Rr wr p (Between wo.heap.size p) s ∧ Mr wr W4.heap.size (fun k => k < V1.heap.size) s ∧ Rd wr w.heap.size a4 n4 (ls.map iv) ∧ Below wo.heap.size wo wr) (fun jx _ => 10 - (intOf jx).toNat)
      case atStart => exact ⟨0, (0, xt), Nat.zero_le _, Nat.zero_le _, rfl, by have := HXL.out; simp only; omega, hR5, hM5, hK5, hBB⟩
      case round =>
        obtain ⟨j, s, hj10, hjn4, rfl, hsl, hRj, hMj, hKj, hBj⟩ := hrel
        obtain ⟨we, rfl⟩ : ∃ we : World, we = wr := ⟨_, rfl⟩
        have hpj := hRj.lt
        have hqj := hMj.lt
        have zj := hBj.size
        by_cases hc12 : j < n4 ∧ j < 10
        · obtain ⟨hc1', hc2'⟩ := hc12
          obtain ⟨a, y, rfl, hab, hy, hcy⟩ := hKj.at hc1'
          have hil : j < ls.length := by have := hKj.1; simp at this; omega
          obtain ⟨z, hz⟩ : ∃ z, z = ls[j] := ⟨_, rfl⟩
          have hy' : y = iv z := by
            rw [List.getElem?_map, List.getElem?_eq_getElem hil] at hy
            rw [hz]
            exact (Option.some.inj hy).symm
          subst hy'
          unfold iv at hcy
          have hbd : -9223372036854775808 ≤ z ∧ z ≤ 9223372036854775807 := by rw [hz]; exact bd4 ls[j] (List.getElem_mem hil)
          clear hy hz
          go_wp2_with fail
          refine (around_b z 6 _ rfl hbd (by omega) we).mono ?_
          rintro e W ⟨⟨k, rfl, hk⟩, rfl⟩
          have HRD := Lib.hid (read_any p (Between wo.heap.size p) s (by omega) k (by omega) we hRj)
          have hst := rV_rest s k hsl
          obtain ⟨⟨vv, s'⟩, hvs⟩ : ∃ y, y = rV s k := ⟨_, rfl⟩
          have HRD2 := HRD.out
          rw [← hvs] at HRD2 hst
          have HVS2 := Lib.hid hvs
          have HRD3 := Lib.hid HRD2
          clear HRD HRD2 hvs
          go_wp2_with fail
          refine HRD3.out.mono ?_
          rintro e W7 ⟨r7, rfl, ho7, hR7, hG7⟩
          have hM7 := hMj.grown hG7 (fun k hk => by have hk' : k < V1.heap.size := hk; omega) (by omega)
          have hK7 := hKj.grown hG7 (by omega) (by omega)
          have z7 := hG7.size
          have B7 := hBj.trans (below_of_grown hG7 (by omega) hp)
          have hmr := m_read W4.heap.size (fun k => k < V1.heap.size) s (by omega) k (by omega) W7 hM7
          rw [← HVS2.out] at hmr
          have HMR := Lib.hid hmr
          clear hmr
          go_wp2_with fail
          refine HMR.out.mono ?_
          rintro e W8 ⟨r8, rfl, ho8, hM8, hG8⟩
          have hR8 := hR7.grown hG8 (fun k hk => by unfold Between at hk; omega) (by omega)
          have ho78 := (ho7.above hG8 (by omega)).ok
          have hK8 := hK7.grown hG8 (by omega) (by omega)
          have z8 := hG8.size
          have B8 := B7.trans (below_of_grown hG8 (by omega) (by omega))
          clear ho7
          go_wp2_with fail
          refine (same_t r7 r8 vv vv rfl W8 ho78 ho8).mono ?_
          rintro e W9 ⟨rfl, hB9⟩
          have hR9 := hR8.below hB9 (Nat.le_refl _)
          have hM9 := hM8.below hB9 (Nat.le_refl _)
          have hK9 := hK8.below (hB9.mono (by omega))
          have B9 := B8.trans (hB9.mono (by omega))
          go_wp2_with fail
          refine (r_end p _ _ W9 hR9).mono ?_
          rintro e W10 ⟨rfl, rfl⟩
          go_wp2_with fail
          refine (m_end W4.heap.size _ _ W9 hM9).mono ?_
          rintro e W10 ⟨rfl, rfl⟩
          go_wp2_with fail
          go_roundw
          case rel => exact ⟨j + 1, _, by omega, by omega, by go_num, hst, hR9, hM9, hK9, B9⟩
          case measure => simp [intOf]; omega
        · have hTT := HTW2.out
          have hT2 : Two we V1.heap.size (.slice A5 m5 c5) (.slice A2 M c2) :=
            ⟨(hBj.cell (p := ⟨V1.heap.size, 0, none⟩) (by show V1.heap.size < _; omega)).trans hTT.1, (hBj.cell (p := ⟨V1.heap.size, 1, none⟩) (by show V1.heap.size < _; omega)).trans hTT.2⟩
          have HT2 := Lib.hid hT2
          have hRf2 := hRf.below (hBj.mono (by omega))
          have hRt2 := hRt.below (hBj.mono (by omega))
          have B2' := hBi.trans (hBj.mono so)
          clear hTT hT2
          by_cases hc1' : j < n4
          · have hc2' : ¬ j < 10 := by omega
            clear hc12
            go_wp2_with fail
            go_roundw
            case rel => exact ⟨i + 1, by omega, by go_num, HT2.out, hRf2, hRt2, hKj, B2', by omega⟩
            case measure => simp [intOf]; omega
          · clear hc12
            go_wp2_with fail
            go_roundw
            case rel => exact ⟨i + 1, by omega, by go_num, HT2.out, hRf2, hRt2, hKj, B2', by omega⟩
            case measure => simp [intOf]; omega
    · have HTW2 := Lib.hid hTw
      clear hTw
      go_wp2_with fail
      refine (lives_from w _ hBi).mono ?_
      rintro e W11 ⟨rfl, B11⟩
      go_wp2_with fail
      go_ret
      exact ⟨rfl, B11⟩
end Go.Proofs.Ytigbknhlmifikaa
