/- The law WireWrites, walked. -/
import Derived.Test.YtigbknhlmifikaaWlaws4
import Derived.Test.YtigbknhlmifikaaWref2
import Derived.IntWalk
namespace Go.Proofs.Ytigbknhlmifikaa
open Go.RowKit Hb Wm

theorem Vs.take {w : World} {B n : Nat} {A : Option Addr} {vs : List VV} (h : Vs w B A n vs) (k : Nat) (hk : k ≤ n) : Vs w B A k (vs.take k) := by
  obtain ⟨rs, ⟨h1, h2⟩, h3, h4⟩ := h
  refine ⟨rs.take k, ⟨by simp; omega, fun hk0 => ?_⟩, by simp; omega, fun j r v hr hv => ?_⟩
  · obtain ⟨g, e, hb, hc⟩ := h2 (by omega)
    refine ⟨g, e, hb, fun j r hr => ?_⟩
    rw [List.getElem?_take] at hr
    split at hr
    · exact hc j r hr
    · cases hr
  · rw [List.getElem?_take] at hr hv
    split at hr
    · rename_i hj
      rw [if_pos hj] at hv
      exact h4 j r v hr hv
    · cases hr

set_option maxRecDepth 100000 in
set_option maxHeartbeats 4000000 in
theorem WireWrites_walk (w : World) (a0 : Option Addr) (n0 c0 : Nat) (xs : List Int) (r0 : Rd w w.heap.size a0 n0 (xs.map iv)) (bd0 : ∀ y ∈ xs, -9223372036854775808 ≤ y ∧ y ≤ 9223372036854775807) (h0 : n0 ≤ c0) (hc0 : c0 ≤ maxLen)
    (a1 : Int) (w1 : (Lit.int .u64 a1).wf = true) (a2 : Int) (w2 : (Lit.int .i64 a2).wf = true)
    (a3 : Option Addr) (n3 c3 : Nat) (bs : List UInt8) (r3 : Rd w w.heap.size a3 n3 (bs.map bv)) (h3 : n3 ≤ c3) (hc3 : c3 ≤ maxLen)
    (a4 : Option Addr) (n4 c4 : Nat) (ls : List Int) (r4 : Rd w w.heap.size a4 n4 (ls.map iv)) (bd4 : ∀ y ∈ ls, -9223372036854775808 ≤ y ∧ y ≤ 9223372036854775807) (h4 : n4 ≤ c4) (hc4 : c4 ≤ maxLen) :
    Calls Try.prog 3 #[.slice a0 n0 c0, .int .u64 a1, .int .i64 a2, .slice a3 n3 c3, .slice a4 n4 c4] w fun e W' => e = .returned (.bool true) ∧ Below w.heap.size w W' := by
  obtain ⟨u, hu, rfl⟩ := u64_nat' w1
  obtain ⟨iV, hiV, hzV0, hzV1, hzV2⟩ := info_parts infoV
  have hb2 := bounds_i64 w2
  go_enter Try.func3, Try.ntmps3
  go_wp2_with fail
  refine (vals_any a0 n0 c0 xs (by unfold maxLen at *; omega) bd0 w r0).mono ?_
  rintro e W1 ⟨x, n, vs, rfl, hn8, hvs, hO, B1⟩
  have s1 := B1.size
  have r31 := r3.later B1 s1
  have r41 := r4.below B1
  go_wp2_with fail
  refine (few_t a3 n3 c3 bs h3 hc3 200 (by omega) _ rfl W1 r31).mono ?_
  obtain ⟨ob, hob⟩ : ∃ ob, ob = bs.take 200 := ⟨_, rfl⟩
  rw [← hob]
  rintro e W2 ⟨A2, m2, d2, rfl, hm2, hl2, hmd2, hd2, -, o2, hB⟩
  have HL2 := Lib.hid hl2
  have hO2 := hO.below hB (Nat.le_refl _)
  have B2 := B1.trans (hB.mono s1)
  have s2 := B2.size
  have r42 := (r41.below (hB.mono s1)).mono s2
  clear hob hl2 hB hO r41 r31
  go_wp2_with fail
  refine (ints_t a4 n4 c4 ls h4 hc4 20 (by omega) _ rfl W2 r42).mono ?_
  obtain ⟨nb, hnb⟩ : ∃ nb, nb = ls.take 20 := ⟨_, rfl⟩
  have hnbd : ∀ y ∈ nb, -9223372036854775808 ≤ y ∧ y ≤ 9223372036854775807 := by rw [hnb]; exact fun y hy => bd4 y (List.mem_of_mem_take hy)
  rw [← hnb]
  rintro e W3 ⟨A3, m3, d3, rfl, hm3, hl3, hmd3, hd3, -, o3, hB⟩
  have HL3 := Lib.hid hl3
  have HND := Lib.hid hnbd
  obtain ⟨rs, hox, hrl, hvl, hall⟩ := hO2.below hB (Nat.le_refl _)
  obtain ⟨Ax, cx, rfl⟩ := own_form hox
  have o23 := own_below o2 hB (Nat.le_refl _)
  have B3 := B2.trans (hB.mono s2)
  have s3 := B3.size
  have hR3 : RvOwn W3 w.heap.size ⟨4, 0, 0, A2, m2, d2, none, 0, 0⟩ ⟨4, 0, 0, ob, []⟩ := ⟨rfl, rfl, rfl, (TRow.of_own o23).lower s1, TRow.nil _ _ _⟩
  have hR4 : RvOwn W3 w.heap.size ⟨5, 0, 0, none, 0, 0, A3, m3, d3⟩ ⟨5, 0, 0, [], nb⟩ := ⟨rfl, rfl, rfl, TRow.nil _ _ _, (TRow.of_own o3).lower s2⟩
  have hap := fun x' w2 tmp hown' hgrow => OwnVs.app (w2 := w2) (x' := x') (tmp := tmp) (rs2 := [⟨0, u, 0, none, 0, 0, none, 0, 0⟩, ⟨1, 0, a2, none, 0, 0, none, 0, 0⟩, ⟨4, 0, 0, A2, m2, d2, none, 0, 0⟩, ⟨5, 0, 0, none, 0, 0, A3, m3, d3⟩, ⟨2, 0, 1, none, 0, 0, none, 0, 0⟩])
    (vs2 := [⟨0, u, 0, [], []⟩, ⟨1, 0, a2, [], []⟩, ⟨4, 0, 0, ob, []⟩, ⟨5, 0, 0, [], nb⟩, ⟨2, 0, 1, [], []⟩]) (k := 5) hox hrl hvl hall rfl rfl (by
    intro j r v hr hv
    match j with
    | 0 => cases hr; cases hv; exact ⟨rfl, rfl, rfl, TRow.nil _ _ _, TRow.nil _ _ _⟩
    | 1 => cases hr; cases hv; exact ⟨rfl, rfl, rfl, TRow.nil _ _ _, TRow.nil _ _ _⟩
    | 2 => cases hr; cases hv; exact hR3
    | 3 => cases hr; cases hv; exact hR4
    | 4 => cases hr; cases hv; exact ⟨rfl, rfl, rfl, TRow.nil _ _ _, TRow.nil _ _ _⟩
    | j + 5 => cases hr) hown' hgrow
  have HAP := Lib.hid hap
  have HVS := Lib.hid hvs
  clear hap hR3 hR4 hall hvs hnb hl3 hB o2 o3 o23 hO2 r42 hnbd
  go_wp2_with (at_builtin; refine wpList_append_own _ rfl _ _ 25 rfl w.heap.size 28 iV (.agg #[.int .i64 0, .int .u64 0, .int .i64 0, .slice none 0 0, .slice none 0 0]) 5 72 Try.underlying25 hiV hzV0 hzV1 hzV2 rfl (by decide) (.slice Ax n cx) n _ rfl (hox.alloc _) ⟨W3.heap.size, 0, none⟩ 5 5 [.int .i64 0, .int .u64 (u : Int), .int .i64 0, .slice none 0 0, .slice none 0 0, .int .i64 1, .int .u64 0, .int .i64 a2, .slice none 0 0, .slice none 0 0, .int .i64 4, .int .u64 0, .int .i64 0, .slice A2 m2 d2, .slice none 0 0, .int .i64 5, .int .u64 0, .int .i64 0, .slice none 0 0, .slice A3 m3 d3, .int .i64 2, .int .u64 0, .int .i64 1, .slice none 0 0, .slice none 0 0] rfl rfl (World.news_of_block (World.alloc_heap_new W3 _)) (by simp [Value.oneCell']) (by unfold maxLen; omega) (by omega) (by simp; omega) ?_; intro x' W4 hown' hgrow _)
  have hO := HAP.out x' W4 _ hown' hgrow
  have B4 : Below w.heap.size w W4 := own_grown5 (B3.alloc s3 _) (hox.alloc _) hgrow (by simp; omega)
  have s4 := B4.size
  obtain ⟨all, hall⟩ : ∃ all, all = vs ++ [(⟨0, u, 0, [], []⟩ : VV), ⟨1, 0, a2, [], []⟩, ⟨4, 0, 0, ob, []⟩, ⟨5, 0, 0, [], nb⟩, ⟨2, 0, 1, [], []⟩] := ⟨_, rfl⟩
  have hok : ∀ v ∈ all, v.ok := by
    intro v hv
    rw [hall] at hv
    rcases List.mem_append.1 hv with h | h
    · exact (HVS.out v h).1.ok
    · have e2 := HL2.out
      have e3 := HL3.out
      simp at h
      rcases h with rfl | rfl | rfl | rfl | rfl
      · exact ⟨by simp, hu, by simp, by simp, by simp, by simp⟩
      · exact ⟨by simp, by simp, hb2, by simp, by simp, by simp⟩
      · exact ⟨by simp, by simp, by simp, by simp only; omega, by simp, by simp⟩
      · exact ⟨by simp, by simp, by simp, by simp, by simp only; omega, HND.out⟩
      · exact ⟨by simp, by simp, by simp, by simp, by simp, by simp⟩
  rw [← hall] at hO
  obtain ⟨N, hN⟩ : ∃ N, N = n + 5 := ⟨_, rfl⟩
  have hN13 : N ≤ 13 := by omega
  rw [← hN] at hO
  have hal : all.length = N := by rw [hall, hN]; simp [hvl]
  have HOK := Lib.hid hok
  have HAL := Lib.hid hal
  clear hown' hgrow hox hall HAP hok hal HVS hN hrl hvl
  obtain ⟨A, ca, rfl⟩ : ∃ A ca, x' = .slice A N ca := by obtain ⟨rs2, ho, _⟩ := hO; exact own_form ho
  have hcap : N ≤ ca ∧ ca ≤ maxLen := by obtain ⟨rs2, ho, _⟩ := hO; exact ⟨own_le ho, by
    rcases ho.2 with ⟨hv, h0⟩ | ⟨g, cap, cur, hv, _, _, _, hc, _⟩
    · injection hv with h1 h2 h3; subst h3; exact Nat.zero_le _
    · injection hv with h1 h2 h3; subst h3; exact hc⟩
  have hV := hO.vs
  clear hO
  obtain ⟨hcap1, hcap2⟩ := hcap
  unfold maxLen at hcap2
  have B5 := (Below.refl W4.heap.size W4).alloc (Nat.le_refl _) (.cells #[.slice none 0 0] 32)
  have hV5 := hV.below B5 (Nat.le_refl _)
  have hW5 := Wr.new W4
  go_wp2_with fail
  go_loopw [13] (fun ix wr => ∃ i : Nat, i ≤ N ∧ ix = .int .i64 i ∧ Wr wr W4.heap.size (encs (all.take i)) ∧ Below W4.heap.size W4 wr) (fun ix _ => N - (intOf ix).toNat)
  case atStart => exact ⟨0, Nat.zero_le _, rfl, hW5, B5⟩
  case round =>
    obtain ⟨i, hi, rfl, hWi, hBi⟩ := hrel
    have sz := hBi.size
    have hVi := hV.below hBi (Nat.le_refl _)
    by_cases hiN : i < N
    · obtain ⟨g, rr, v, rfl, hgb, hvi, hrv, e0, e1, e2, e3, e4⟩ := hVi.at hiN
      have hvo := HOK.out v (List.mem_of_getElem? hvi)
      have hl2 := encs_len (all.take i) fun v hv => HOK.out v (List.mem_of_mem_take hv)
      have hl3 : (all.take i).length ≤ i := List.length_take_le _ _
      have hsn : encs (all.take (i + 1)) = encs (all.take i) ++ enc v := by
        obtain ⟨hi', hv'⟩ := List.getElem?_eq_some_iff.1 hvi
        rw [List.take_succ_eq_append_getElem hi', encs_snoc, hv']
      have HS := Lib.hid hsn
      have i0' : (0 : Int) ≤ (i : Int) := Int.natCast_nonneg _
      have i1' : (i : Int) < (N : Int) := by omega
      clear hsn hvi
      go_wp2_with fail
      refine (write_any W4.heap.size rr v hvo _ (by omega) wr hWi hrv).mono ?_
      rw [← HS.out]
      rintro e W6 ⟨rfl, hW6, hB6⟩
      have B6 := hBi.trans hB6
      have hV6 := hV.below B6 (Nat.le_refl _)
      have z6 := B6.size
      clear hB6 e0 e1 e2 e3 e4 hrv
      obtain ⟨es, hes⟩ : ∃ es, es = encs (all.take (i + 1)) := ⟨_, rfl⟩
      have hesl : es.length ≤ 200000 := by rw [hes, HS.out, List.length_append]; have := enc_len v hvo; omega
      have hdone : Calls Try.prog 16 #[.pointer (some ⟨W4.heap.size, 0, none⟩)] W6.drew fun x W7 => ∃ A7 c7, x = .returned (.slice A7 es.length c7) ∧ Rd W7 W7.heap.size A7 es.length (es.map bv) ∧ Vs W7 W7.heap.size (some ⟨g, 0, none⟩) (i + 1) (all.take (i + 1)) ∧ Wr W7 W4.heap.size es ∧ Below W4.heap.size W4 W7 := by
        rw [← hes] at hW6
        refine (w_done W4.heap.size es (by omega) W6.drew hW6).mono ?_
        rintro x W7 ⟨A7, c7, rfl, o7, hW7, hB7⟩
        have B7 : Below W4.heap.size W4 W7 := B6.drew.trans (hB7.mono z6)
        exact ⟨A7, c7, rfl, Rd.of_own o7, (hV.below B7 (Nat.le_refl _)).take (i + 1) (by omega) |>.below (Below.refl _ _) B7.size, hW7, B7⟩
      have HD := Lib.hid hdone
      have HES := Lib.hid hes
      clear hdone hes
      have q1 : IntKind.i64.wrap ((i : Int) + 1) = (i : Int) + 1 := IntWalk.i64_in _ (by omega)
      have q2 : (0 : Int) ≤ (i : Int) + 1 := by omega
      have q3 : ((i : Int) + 1).toNat = i + 1 := by omega
      have q4 : (i : Int) + 1 ≤ (ca : Int) := by omega
      have q5 : i + 1 ≤ ca := by omega
      have q6 : es.length ≤ maxLen := by unfold maxLen; omega
      have q7 : i + 1 ≤ 40 := by omega
      go_wp2_with fail
      go_region_with (first
        | (go_at_call 16; refine HD.out.mono ?_; rintro e W7 ⟨A7, c7, rfl, R7, hv7, hW7, B7⟩)
        | (go_at_call 17; refine (rencode_any (some ⟨g, 0, none⟩) (i + 1) ca (all.take (i + 1)) (fun v hv => HOK.out v (List.mem_of_mem_take hv)) q7 W7 hv7).mono ?_; rw [← HES.out]; rintro e W8 ⟨A8, c8, rfl, o8, hB8⟩)
        | (go_at_call 15; refine (same_bytes_t A7 A8 es.length c7 es.length c8 es es W8.heap.size q6 W8 (R7.later hB8 hB8.size) o8.rd rfl).mono ?_; rintro e W9 ⟨rfl, hq⟩))
      have hW9 := (hW7.below hB8 (Nat.le_refl _)).below (hq.below W8.heap.size) (Nat.le_refl _)
      have B9 := (B7.trans (hB8.mono B7.size)).trans (hq.below W4.heap.size)
      rw [HES.out] at hW9
      clear q1 q2 q3 q4 hq hB8 hW7 o8 R7 hv7
      go_wp2_with fail
      go_roundw
      case rel => exact ⟨i + 1, by omega, by go_num, hW9, B9⟩
      case measure => simp [intOf]; omega
    · go_wp2_with fail
      refine (lives_from w _ (B4.trans (hBi.mono s4))).mono ?_
      rintro e W7 ⟨rfl, B7⟩
      go_wp2_with fail
      go_ret
      exact ⟨rfl, B7⟩
end Go.Proofs.Ytigbknhlmifikaa
