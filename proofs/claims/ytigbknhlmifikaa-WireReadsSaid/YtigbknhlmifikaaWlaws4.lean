/- The law WirePrefix, walked. -/
import Derived.Test.YtigbknhlmifikaaWlaws3
namespace Go.Proofs.Ytigbknhlmifikaa
open Go.RowKit Hb Wm

theorem rU_no (s : St) (h : s.1 ≠ 0) : rU s = (0, s.1, []) := by unfold rU; rw [if_neg h]
theorem rLen_no (s : St) (h : s.1 ≠ 0) : rLen s = (0, s.1, []) := by
  unfold rLen; rw [rU_no s h]; simp only; rw [if_neg h]
/-- behind an error nothing is read -/
theorem rV_no (s : St) (h : s.1 ≠ 0) (k : Nat) : rV s k = ({ k := k }, s.1, []) := by
  unfold rV
  split
  · rw [rU_no s h]
  split
  · unfold rI; rw [rU_no s h]; simp only [show unzz 0 = 0 from by decide]
  split
  · unfold rB; rw [if_neg h]; rfl
  split
  · unfold rR; rw [rLen_no s h]; simp only; rw [if_neg h]
  · unfold rL; rw [rLen_no s h]; simp only; rw [if_neg h]
/-- what a reader of a proper prefix holds -/
def PreSt (all : List VV) (t : List UInt8) (i : Nat) (s : St) : Prop := (s.1 = 0 ∧ s.2 ++ t = encs (all.drop i)) ∨ s = (3, [])
theorem PreSt.step {all : List VV} {t : List UInt8} {i : Nat} {s : St} {v : VV} (h : PreSt all t i s) (hv : all[i]? = some v) (hc : v.canon) (he : (rV s v.k).2.1 ≠ 0 → (rV s v.k).2.2 = []) : PreSt all t (i + 1) (rV s v.k).2 := by
  rcases h with ⟨h0, h1⟩ | rfl
  · obtain ⟨e, q⟩ := s
    obtain rfl : e = 0 := h0
    simp only at h1
    obtain ⟨x1, x2, x3⟩ := rV_ext v.k q t
    simp only at x1 x2 x3
    have hr := rV_round v hc (encs (all.drop (i + 1)))
    rw [← encs_drop all i v hv, ← h1] at hr
    rcases x3 with h3 | h3 | h3
    · have := x1 h3
      rw [hr] at this
      refine .inl ⟨h3, ?_⟩
      exact (congrArg (fun y => y.2.2) this).symm
    · have := x2 h3
      rw [hr] at this
      cases this
    · refine .inr ?_
      have h4 := he (by omega)
      exact Prod.ext h3 h4
  · right
    rw [rV_no _ (by decide)]
theorem PreSt.fin {all : List VV} {t : List UInt8} {s : St} (h : PreSt all t all.length s) (ht : t ≠ []) : s = (3, []) := by
  rcases h with ⟨_, h1⟩ | h
  · rw [List.drop_length] at h1
    have : s.2 ++ t = [] := h1
    simp at this
    exact absurd this.2 ht
  · exact h
theorem enc_len60 (v : VV) (h : v.canon ∧ v.b.length ≤ 9 ∧ v.l.length ≤ 4) : (enc v).length ≤ 60 := by
  have h0 := vu_len10 h.1.ok.u
  have h1 := vu_len10 (zz_lt h.1.ok.n.1 h.1.ok.n.2)
  have h2 := vu_len10 (n := v.b.length) (by omega)
  have h3 := vu_len10 (n := v.l.length) (by omega)
  have h4 := encI_len v.l h.1.ok.ll
  unfold enc
  repeat' split
  all_goals simp <;> omega
theorem encs_len60 (l : List VV) (h : ∀ v ∈ l, v.canon ∧ v.b.length ≤ 9 ∧ v.l.length ≤ 4) : (encs l).length ≤ 60 * l.length := by
  induction l with
  | nil => simp [encs]
  | cons v l ih =>
    have h1 := ih fun x hx => h x (by simp [hx])
    have h2 := enc_len60 v (h v (by simp))
    simp only [encs, List.flatMap_cons, List.length_append, List.length_cons] at h1 ⊢
    omega

set_option maxRecDepth 100000 in
set_option maxHeartbeats 4000000 in
theorem WirePrefix_walk (w : World) (a0 : Option Addr) (m c : Nat) (xs : List Int) (r : Rd w w.heap.size a0 m (xs.map iv)) (bd : ∀ y ∈ xs, -9223372036854775808 ≤ y ∧ y ≤ 9223372036854775807) (hnc : m ≤ c) (hc : c ≤ maxLen) (a1 : Int) (w1 : (Lit.int .i64 a1).wf = true) (a2 : Int) (w2 : (Lit.int .u8 a2).wf = true) :
    Calls Try.prog 7 #[.slice a0 m c, .int .i64 a1, .int .u8 a2] w fun e W' => e = .returned (.bool true) ∧ Below w.heap.size w W' := by
  obtain ⟨i0, hi, hz0, hz1, hz2⟩ := info_parts infoU8
  obtain ⟨q, rfl⟩ : ∃ q : UInt8, a2 = (q.toNat : Int) := ⟨UInt8.ofNat a2.toNat, by have := bounds_u8 w2; simp; omega⟩
  go_enter Try.func7, Try.ntmps7
  go_wp2_with fail
  refine (vals_any a0 m c xs (by unfold maxLen at *; omega) bd w r).mono ?_
  rintro e W1 ⟨x, N, all, rfl, hN8, hvs, hO, B1⟩
  obtain ⟨A, ca, rfl⟩ : ∃ A ca, x = .slice A N ca := by obtain ⟨rs2, ho, _⟩ := hO; exact own_form ho
  have hal : all.length = N := by obtain ⟨_, _, _, h, _⟩ := hO; exact h
  have s1 := B1.size
  have HVS := Lib.hid hvs
  have HAL := Lib.hid hal
  have hlen := encs_len60 all hvs
  rw [hal] at hlen
  have hV := hO.vs
  clear hvs hal hO
  go_wp2_with fail
  refine (encode_any A N ca all (fun v hv => (HVS.out v hv).1.ok) (by omega) W1 hV).mono ?_
  rintro e W2 ⟨A2, c2, rfl, ho2, hB⟩
  have B2 := B1.trans (hB.mono s1)
  have s2 := B2.size
  have z2 := hB.size
  have hV2 := hV.below hB (Nat.le_refl _)
  have R2 := Rd.of_own ho2
  have l2 := own_le ho2
  have l2' := own_cap ho2
  clear hB ho2 hV
  by_cases h0 : (encs all).length = 0
  · have hd : (((encs all).length : Int) == 0) = true := by simp [h0]
    go_wp2_with fail
    refine (r_read none 0 0 [] (by omega) (by omega) W2 (Rd.nil _ _ _)).mono ?_
    rintro e W4 ⟨p, rfl, hp, hR, hB⟩
    have B4 := B2.trans (hB.mono s2)
    go_wp2_with fail
    refine (r_end p _ _ W4 hR).mono ?_
    rintro e W5 ⟨rfl, rfl⟩
    go_wp2_with fail
    refine (lives_from w _ B4).mono ?_
    rintro e W7 ⟨rfl, B7⟩
    go_wp2_with fail
    go_ret
    exact ⟨rfl, B7⟩
  · have hd : (((encs all).length : Int) == 0) = false := beq_eq_false_iff_ne.2 (by omega)
    obtain ⟨M, hM⟩ : ∃ M, M = (encs all).length := ⟨_, rfl⟩
    rw [← hM] at hd R2 l2 hlen h0
    simp only [← hM]
    have HM := Lib.hid hM
    clear hM
    unfold maxLen at l2'
    go_wp2_with fail
    refine (around_t a1 M _ rfl w1 (by omega) _).mono ?_
    rintro e W ⟨⟨k, rfl, hk⟩, rfl⟩
    have R2k := R2.take k (by omega)
    rw [← List.map_take] at R2k
    go_wp2_with fail
    refine (r_read A2 k c2 _ (by omega) (by omega) W2 R2k).mono ?_
    rintro e W3 ⟨p, rfl, hp, hR, hB⟩
    have B3 := B2.trans (hB.mono s2)
    have s3 := B3.size
    have z3 := hB.size
    have R3 := R2.below hB
    have hV3 := hV2.below (hB.mono z2) (Nat.le_refl _)
    have hpz := hR.lt
    clear hB R2k R2 hV2
    go_wp2_with fail
    refine (few_t A2 M c2 (encs all) l2 (by unfold maxLen; omega) M (by omega) _ rfl W3 (R3.mono (by omega))).mono ?_
    have htk : (encs all).take M = encs all := List.take_of_length_le (by rw [HM.out]; exact Nat.le_refl _)
    rw [htk]
    rintro e W4 ⟨A4, m4, c4, rfl, -, hm4, -, -, -, ho4, hB⟩
    have hm4' : m4 = M := by rw [hm4, HM.out]
    subst hm4'
    have B4 := B3.trans (hB.mono s3)
    have s4 := B4.size
    have z4 := hB.size
    clear R3 hm4 htk
    go_wp2_with (at_builtin; refine wpList_append_own _ rfl _ _ 24 rfl W3.heap.size 5 i0 (.int .u8 0) 1 1 Try.underlying24 hi hz0 hz1 hz2 rfl (by decide) (.slice A4 m4 c4) m4 _ rfl (ho4.alloc _) ⟨W4.heap.size, 0, none⟩ 1 1 [.int .u8 (q.toNat : Int)] rfl rfl (cell_one_new _ _ _) (by simp [Value.oneCell']) (by unfold maxLen; omega) (by omega) (by simp; omega) ?_; intro v' W5 hown' hgrow _)
    have BX : Below W3.heap.size W3 W5 := own_grown (hB.alloc z4 _) (ho4.alloc _) hgrow (by simp; omega)
    obtain ⟨g', cap', rfl⟩ := ownsRow_succ hown'
    have R5 := (Rd.of_own hown').cast (ys := (encs all ++ [q]).map bv) rfl (by rw [List.map_append]; rfl)
    have l5 := own_le hown'
    have B5 := B3.trans (BX.mono s3)
    have s5 := B5.size
    have z5 := BX.size
    have hR5 := hR.below BX (Nat.le_refl _)
    have hV5 := hV3.below (BX.mono (by omega)) (Nat.le_refl _)
    clear hB BX hR hV3 hown' hgrow ho4 B4 s4
    go_wp2_with fail
    refine (r_read _ (m4 + 1) _ (encs all ++ [q]) (by omega) l5 W5 R5).mono ?_
    rintro e W6 ⟨p2, rfl, hp2, hL, hB⟩
    have B6 := B5.trans (hB.mono s5)
    have hR6 := hR5.below hB (Nat.le_refl _)
    have hV6 := hV5.below (hB.mono (by omega)) (Nat.le_refl _)
    have hpp : p < p2 := by omega
    clear hB hR5 hV5 R5
    obtain ⟨t, ht⟩ : ∃ t, t = (encs all).drop k := ⟨_, rfl⟩
    have htn : t ≠ [] := by
      intro h
      have := congrArg List.length (ht.symm.trans h)
      simp at this
      have := HM.out
      omega
    have hst : PreSt all t 0 (0, (encs all).take k) := .inl ⟨rfl, by rw [ht]; simp⟩
    have HTN := Lib.hid htn
    clear ht htn
    go_wp2_with fail
    go_loopw [12] (fun ix wr => ∃ (i : Nat) (s : St), i ≤ N ∧ ix = .int .i64 i ∧ PreSt all t i s ∧ Rr wr p (Between W2.heap.size p) s ∧ Rr wr p2 (Between W5.heap.size p2) (0, encs (all.drop i) ++ [q]) ∧ Vs wr W1.heap.size A N all ∧ Below w.heap.size w wr) (fun ix _ => N - (intOf ix).toNat)
    case atStart => exact ⟨0, _, Nat.zero_le _, rfl, hst, hR6, by simpa using hL, hV6, B6⟩
    case round =>
      obtain ⟨i, s, hiN0, rfl, hs, hRi, hLi, hVi, hBi⟩ := hrel
      have sz := hBi.size
      have hpz := hLi.lt
      have hQ1 : ∀ k, Between W2.heap.size p k → k ≠ p2 := fun k hk => by unfold Between at hk; omega
      have hQ2 : ∀ k, Between W5.heap.size p2 k → k ≠ p := fun k hk => by unfold Between at hk; omega
      have HQ1 := Lib.hid hQ1
      have HQ2 := Lib.hid hQ2
      clear hQ1 hQ2
      by_cases hiN : i < N
      · obtain ⟨g, rr, v, rfl, hgb, hvi, hrv, c0, -, -, -, -⟩ := hVi.at hiN
        have hvc := (HVS.out v (List.mem_of_getElem? hvi)).1
        have hdr := encs_drop all i v hvi
        have hl2 : (encs (all.drop i)).length ≤ 480 := by
          have h1 := encs_len60 (all.drop i) fun v hv => HVS.out v (List.mem_of_mem_drop hv)
          have h2 : (all.drop i).length ≤ N := by rw [List.length_drop, HAL.out]; omega
          omega
        have hls : s.2.length ≤ 1000000 := by
          rcases hs with ⟨_, h⟩ | rfl
          · have := congrArg List.length h
            rw [List.length_append] at this
            omega
          · simp
        rw [hrv.k] at c0
        have hk5 := hvc.ok.k
        have HS := Lib.hid hs
        have HRD := Lib.hid (read_any p (Between W2.heap.size p) s hls v.k hk5 wr hRi)
        have HST := Lib.hid (fun he => hs.step hvi hvc he)
        have HRV := Lib.hid (show rV (0, encs (all.drop i) ++ [q]) v.k = (v, 0, encs (all.drop (i + 1)) ++ [q]) from by rw [hdr, List.append_assoc, rV_round v hvc])
        clear hs hvi hrv hdr
        have i0' : (0 : Int) ≤ (i : Int) := Int.natCast_nonneg _
        have i1' : (i : Int) < (N : Int) := by omega
        go_wp2_with fail
        refine HRD.out.mono ?_
        rintro e W7 ⟨r7, rfl, -, hR7, hG7⟩
        have hL7 := hLi.grown hG7 HQ2.out (by omega)
        have hV7 := hVi.below (below_of_grown hG7 (by omega) (by omega)) (Nat.le_refl _)
        have B7 := hBi.trans (below_of_grown hG7 sz (by omega))
        have z7 := hG7.size
        have c07 : W7.cell? ⟨g, i * 5, none⟩ = some (.int .i64 (v.k : Int)) := by
          rw [hG7.cell_far _ (by show g < _; omega) (by simp; omega)]; exact c0
        have hs2 := HST.out fun he => hR7.2.1 he
        have HS2 := Lib.hid hs2
        clear hs2 c0
        go_wp2_with fail
        refine (read_any p2 (Between W5.heap.size p2) _ (by rw [List.length_append]; simp; omega) v.k hk5 W7 hL7).mono ?_
        rw [HRV.out]
        rintro e W8 ⟨r8, rfl, -, hL8, hG8⟩
        have hR8 := hR7.grown hG8 HQ1.out (by omega)
        have hV8 := hV7.below (below_of_grown hG8 (by omega) (by omega)) (Nat.le_refl _)
        have B8 := B7.trans (below_of_grown hG8 B7.size (by omega))
        go_wp2_with fail
        go_roundw
        case rel => exact ⟨i + 1, _, by omega, by go_num, HS2.out, hR8, hL8, hV8, B8⟩
        case measure => simp [intOf]; omega
      · obtain rfl : i = N := by omega
        have hfin : s = (3, []) := by
          rw [← HAL.out] at hs
          exact hs.fin HTN.out
        subst hfin
        have hdz : all.drop i = [] := List.drop_eq_nil_of_le (by rw [HAL.out]; exact Nat.le_refl _)
        rw [hdz] at hLi
        clear hs hdz
        go_wp2_with fail
        refine (r_end p _ _ wr hRi).mono ?_
        rintro e W7 ⟨rfl, rfl⟩
        go_wp2_with fail
        refine (r_end p2 _ _ wr hLi).mono ?_
        rintro e W7 ⟨rfl, rfl⟩
        go_wp2_with fail
        refine (around_t a1 6 _ rfl w1 (by omega) _).mono ?_
        rintro e W ⟨⟨k6, rfl, hk6⟩, rfl⟩
        have hread := read_any p _ _ (by simp) k6 (by omega) wr hRi
        rw [rV_no _ (by decide)] at hread
        go_wp2_with fail
        refine hread.mono ?_
        rintro e W7 ⟨r7, rfl, ho7, hR7, hG7⟩
        have B7 := hBi.trans (below_of_grown hG7 sz (by omega))
        have hBa := fun o => (Below.refl W7.heap.size W7).alloc (Nat.le_refl _) o
        have HBA := Lib.hid hBa
        have HOK := Lib.hid (fun o => ho7.ok.below (HBA.out o) (by simp : W7.heap.size ≤ (W7.alloc o).heap.size))
        have HK := Lib.hid ho7.k
        clear hBa ho7
        go_wp2_with fail
        refine (same_t r7 ⟨r7.k, 0, 0, none, 0, 0, none, 0, 0⟩ { k := k6 } { k := k6 } rfl _ (HOK.out _) ⟨HK.out, rfl, rfl, Rd.nil _ _ _, Rd.nil _ _ _, Nat.le_refl _, Nat.zero_le _, Nat.le_refl _, Nat.zero_le _⟩).mono ?_
        rintro e W8 ⟨rfl, hB8⟩
        have BX := (HBA.out _).trans (hB8.mono (by simp))
        have hR8 := hR7.below BX (Nat.le_refl _)
        have B8 := B7.trans (BX.mono B7.size)
        clear BX hB8
        go_wp2_with fail
        refine (r_end p _ _ W8 hR8).mono ?_
        rintro e W9 ⟨rfl, rfl⟩
        go_wp2_with fail
        refine (lives_from w _ B8).mono ?_
        rintro e W9 ⟨rfl, B9⟩
        go_wp2_with fail
        go_ret
        exact ⟨rfl, B9⟩
end Go.Proofs.Ytigbknhlmifikaa
