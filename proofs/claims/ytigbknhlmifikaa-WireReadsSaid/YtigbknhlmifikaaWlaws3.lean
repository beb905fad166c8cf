/- The law WireRound, walked. -/
import Derived.Test.YtigbknhlmifikaaWsame
import Derived.Test.YtigbknhlmifikaaWvals
import Derived.Test.YtigbknhlmifikaaWlaws1
import Derived.Deep.RegionHeld3
namespace Go.Proofs.Ytigbknhlmifikaa
open Go.RowKit Hb Wm

theorem encs_cons (v : VV) (l : List VV) : encs (v :: l) = enc v ++ encs l := rfl
theorem encs_drop (l : List VV) (i : Nat) (v : VV) (h : l[i]? = some v) : encs (l.drop i) = enc v ++ encs (l.drop (i + 1)) := by
  obtain ⟨hi, hv⟩ := List.getElem?_eq_some_iff.1 h
  rw [List.drop_eq_getElem_cons hi, hv, encs_cons]
theorem u64_nat' {a : Int} (h : (Lit.int .u64 a).wf = true) : ∃ u : Nat, u < 18446744073709551616 ∧ a = (u : Int) := ⟨a.toNat, by have := bounds_u64 h; omega, by have := bounds_u64 h; omega⟩

set_option maxRecDepth 100000 in
set_option maxHeartbeats 4000000 in
theorem WireRound_walk (w : World) (a0 : Option Addr) (m c : Nat) (xs : List Int) (r : Rd w w.heap.size a0 m (xs.map iv)) (bd : ∀ y ∈ xs, -9223372036854775808 ≤ y ∧ y ≤ 9223372036854775807) (hnc : m ≤ c) (hc : c ≤ maxLen) (a1 : Int) (w1 : (Lit.int .u64 a1).wf = true) (a2 : Int) (w2 : (Lit.int .i64 a2).wf = true) :
    Calls Try.prog 5 #[.slice a0 m c, .int .u64 a1, .int .i64 a2] w fun e W' => e = .returned (.bool true) ∧ Below w.heap.size w W' := by
  obtain ⟨u, hu, rfl⟩ := u64_nat' w1
  obtain ⟨iV, hiV, hzV0, hzV1, hzV2⟩ := info_parts infoV
  have hb2 := bounds_i64 w2
  go_enter Try.func5, Try.ntmps5
  go_wp2_with fail
  refine (vals_any a0 m c xs (by unfold maxLen at *; omega) bd w r).mono ?_
  rintro e W1 ⟨x, n, vs, rfl, hn8, hvs, ⟨rs, hox, hrl, hvl, hall⟩, B1⟩
  obtain ⟨Ax, cx, rfl⟩ := own_form hox
  have s1 := B1.size
  have hR1 : RvOwn W1 w.heap.size ⟨0, u, 0, none, 0, 0, none, 0, 0⟩ ⟨0, u, 0, [], []⟩ := ⟨rfl, rfl, rfl, TRow.nil _ _ _, TRow.nil _ _ _⟩
  have hR2 : RvOwn W1 w.heap.size ⟨1, 0, a2, none, 0, 0, none, 0, 0⟩ ⟨1, 0, a2, [], []⟩ := ⟨rfl, rfl, rfl, TRow.nil _ _ _, TRow.nil _ _ _⟩
  have hap := fun x' w2 tmp hown' hgrow => OwnVs.app (w2 := w2) (x' := x') (tmp := tmp) (rs2 := [⟨0, u, 0, none, 0, 0, none, 0, 0⟩, ⟨1, 0, a2, none, 0, 0, none, 0, 0⟩]) (vs2 := [⟨0, u, 0, [], []⟩, ⟨1, 0, a2, [], []⟩]) (k := 2) hox hrl hvl hall rfl rfl (by
    intro j r v hr hv
    match j with
    | 0 => cases hr; cases hv; exact hR1
    | 1 => cases hr; cases hv; exact hR2
    | j + 2 => cases hr) hown' hgrow
  have HAP := Lib.hid hap
  clear hap hR1 hR2 hall
  have HVS := Lib.hid hvs
  clear hvs
  go_wp2_with (at_builtin; refine wpList_append_own _ rfl _ _ 25 rfl w.heap.size 28 iV (.agg #[.int .i64 0, .int .u64 0, .int .i64 0, .slice none 0 0, .slice none 0 0]) 5 72 Try.underlying25 hiV hzV0 hzV1 hzV2 rfl (by decide) (.slice Ax n cx) n _ rfl (hox.alloc _) ⟨W1.heap.size, 0, none⟩ 2 2 [.int .i64 0, .int .u64 (u : Int), .int .i64 0, .slice none 0 0, .slice none 0 0, .int .i64 1, .int .u64 0, .int .i64 a2, .slice none 0 0, .slice none 0 0] rfl rfl (World.news_of_block (World.alloc_heap_new W1 _)) (by simp [Value.oneCell']) (by unfold maxLen; omega) (by omega) (by simp; omega) ?_; intro x' W2 hown' hgrow _)
  have hO := HAP.out x' W2 _ hown' hgrow
  have B2 : Below w.heap.size w W2 := own_grown5 (B1.alloc s1 _) (hox.alloc _) hgrow (by simp; omega)
  have s2 := B2.size
  obtain ⟨all, hall⟩ : ∃ all, all = vs ++ [(⟨0, u, 0, [], []⟩ : VV), ⟨1, 0, a2, [], []⟩] := ⟨_, rfl⟩
  have hcan : ∀ v ∈ all, v.canon := by
    intro v hv
    rw [hall] at hv
    rcases List.mem_append.1 hv with h | h
    · exact (HVS.out v h).1
    · simp at h
      rcases h with rfl | rfl
      · exact ⟨⟨by simp, hu, by simp, by simp, by simp, by simp⟩, by simp, by simp, by simp, by simp, by simp⟩
      · exact ⟨⟨by simp, by simp, hb2, by simp, by simp, by simp⟩, by simp, by simp, by simp, by simp, by simp⟩
  rw [← hall] at hO
  obtain ⟨N, hN⟩ : ∃ N, N = n + 2 := ⟨_, rfl⟩
  have hN10 : N ≤ 10 := by omega
  rw [← hN] at hO
  have hal : all.length = N := by rw [hall, hN]; simp [hvl]
  have HCAN := Lib.hid hcan
  have HAL := Lib.hid hal
  clear hown' hgrow hox hall HAP hcan hal HVS hN hrl hvl
  obtain ⟨A, ca, rfl⟩ : ∃ A ca, x' = .slice A N ca := by obtain ⟨rs2, ho, _⟩ := hO; exact own_form ho
  have hV := hO.vs
  clear hO
  have hlen := encs_len all fun v hv => (HCAN.out v hv).ok
  rw [HAL.out] at hlen
  go_wp2_with fail
  refine (encode_any A N ca all (fun v hv => (HCAN.out v hv).ok) (by omega) W2 hV).mono ?_
  rintro e W3 ⟨A3, c3, rfl, ho3, hB⟩
  have B3 := B2.trans (hB.mono s2)
  have s3 := B3.size
  have z3 := hB.size
  have hV3 := hV.below hB (Nat.le_refl _)
  have R3 := Rd.of_own ho3
  have l3 := own_le ho3
  clear hB ho3 hV
  go_wp2_with fail
  refine (r_read A3 _ c3 _ (by omega) l3 W3 R3).mono ?_
  rintro e W4 ⟨p, rfl, hp, hR, hB⟩
  have B4 := B3.trans (hB.mono s3)
  have hV4 := hV3.below (hB.mono z3) (Nat.le_refl _)
  clear hB R3 hV3
  go_wp2_with fail
  go_loopw [9] (fun ix wr => ∃ i : Nat, i ≤ N ∧ ix = .int .i64 i ∧ Rr wr p (Between W3.heap.size p) (0, encs (all.drop i)) ∧ Vs wr W2.heap.size A N all ∧ Below w.heap.size w wr) (fun ix _ => N - (intOf ix).toNat)
  case atStart => exact ⟨0, Nat.zero_le _, rfl, by simpa using hR, hV4, B4⟩
  case round =>
    obtain ⟨i, hi, rfl, hRi, hVi, hBi⟩ := hrel
    have sz := hBi.size
    have hpz := hRi.lt
    by_cases hiN : i < N
    · obtain ⟨g, rr, v, rfl, hgb, hvi, hrv, c0, c1, c2, c3', c4⟩ := hVi.at hiN
      have hvc := HCAN.out v (List.mem_of_getElem? hvi)
      have hdr := encs_drop all i v hvi
      have hlv : (encs (all.drop i)).length ≤ 1000000 := by
        have h1 := encs_len (all.drop i) fun v hv => (HCAN.out v (List.mem_of_mem_drop hv)).ok
        have h2 : (all.drop i).length ≤ N := by rw [List.length_drop, HAL.out]; omega
        omega
      have hread := read_any p (Between W3.heap.size p) (0, encs (all.drop i)) hlv v.k hvc.ok.k wr.drew hRi
      rw [hdr, rV_round v hvc] at hread
      obtain ⟨rk, ru', rn, rA, rm, rc, rA', rm', rc'⟩ := rr
      have hk : rk = (v.k : Int) := hrv.k
      subst hk
      simp only at c0 c1 c2 c3' c4
      have i0' : (0 : Int) ≤ (i : Int) := Int.natCast_nonneg _
      have i1' : (i : Int) < (N : Int) := by omega
      have HRV := Lib.hid hrv
      have HDR := Lib.hid hdr
      clear hdr hvi hlv hrv
      have hgl : g < wr.heap.size := by omega
      have hgp : g ≠ p := by omega
      have hread2 : Calls Try.prog 22 #[.pointer (some ⟨p, 0, none⟩), .int .i64 (v.k : Int)] wr.drew fun x W => ∃ r5 : RV, x = .returned (.agg #[.int .i64 r5.k, .int .u64 r5.u, .int .i64 r5.n, .slice r5.A r5.m r5.c, .slice r5.A' r5.m' r5.c']) ∧ RvOk W W.heap.size r5 v ∧ RvOk W W.heap.size ⟨(v.k : Int), ru', rn, rA, rm, rc, rA', rm', rc'⟩ v ∧ Rr W p (Between W3.heap.size p) (0, encs (all.drop (i + 1))) ∧ wr.grownBy W (some p) := by
        refine hread.mono ?_
        rintro x W ⟨r5, hx, ho5, hR5, hG5⟩
        have hG6 : wr.grownBy W (some p) := ⟨hG5.os, hG5.tape, hG5.output, hG5.size, hG5.block⟩
        exact ⟨r5, hx, ho5.ok, HRV.out.below (below_of_grown hG6 (by omega) (by omega)) (by have := hG6.size; omega), hR5, hG6⟩
      have HREAD := Lib.hid hread2
      clear hread hread2
      go_wp2_with fail
      go_region_held3 (fun w' => w'.cell? ⟨g, i * 5, none⟩ = some (.int .i64 (v.k : Int)) ∧ w'.cell? ⟨g, i * 5 + 1, none⟩ = some (.int .u64 ru') ∧ w'.cell? ⟨g, i * 5 + 2, none⟩ = some (.int .i64 rn) ∧ w'.cell? ⟨g, i * 5 + 3, none⟩ = some (.slice rA rm rc) ∧ w'.cell? ⟨g, i * 5 + 4, none⟩ = some (.slice rA' rm' rc'))
        (first
          | go_keep
          | (go_split_ands
             refine ⟨?_, ?_, ?_, ?_, ?_⟩ <;> (first | (rw [hB6.cell (by simp; omega)]; assumption) | (rw [hG5.cell_far _ (by simp; omega) (by simp; omega)]; assumption))))
        (first
          | (go_at_call 22; refine HREAD.out.mono ?_; rintro e W5 ⟨r5, rfl, ho5, hv5, hR5, hG5⟩; have z5 := hG5.size)
          | (go_at_call 21; refine (same_t r5 ⟨(v.k : Int), ru', rn, rA, rm, rc, rA', rm', rc'⟩ v v rfl W5 ho5 hv5).mono ?_; rintro e W6 ⟨rfl, hB6⟩))
      have hBk : Below W2.heap.size wr W6 := (below_of_grown hG5 (by omega) (by omega)).trans (hB6.mono (by omega))
      have hV6 := hVi.below hBk (Nat.le_refl _)
      have hR6 := hR5.below hB6 (Nat.le_refl _)
      go_wp2_with fail
      go_roundw
      case rel => exact ⟨i + 1, by omega, by go_num, hR6, hV6, hBi.trans (hBk.mono s2)⟩
      case measure => simp [intOf]; omega
    · obtain rfl : i = N := by omega
      have hd : all.drop i = [] := List.drop_eq_nil_of_le (by rw [HAL.out]; exact Nat.le_refl _)
      rw [hd] at hRi
      clear hd
      go_wp2_with fail
      refine (r_end p _ _ wr hRi).mono ?_
      rintro e W5 ⟨rfl, rfl⟩
      go_wp2_with fail
      refine (lives_from w _ hBi).mono ?_
      rintro e W7 ⟨rfl, B7⟩
      go_wp2_with fail
      go_ret
      exact ⟨rfl, B7⟩
end Go.Proofs.Ytigbknhlmifikaa
