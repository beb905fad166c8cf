/- What the reference model's Words, Sum, Bytes and Pair answer: the same as the program's. -/
import Derived.Test.YtagjecbgbpjobaaHref
import Derived.Test.YtagjecbgbpjobaaHlives
namespace Go.Proofs.Ytagjecbgbpjobaa
open Go.RowKit Hm Hb

theorem rmix_any (s x : Int) (w : World) : Calls Try.prog 71 #[.int .u64 s, .int .u64 x] w fun e w' => e = .returned (.int .u64 (mixI s x)) ∧ w = w' := by
  go_enter Try.func71, Try.ntmps71
  go_wp2
  go_ret
  exact ⟨ret_u64 (mix_walk2 s x), rfl⟩

set_option maxRecDepth 100000 in
set_option maxHeartbeats 1000000 in
theorem rwords_any (A : Option Addr) (n c : Nat) (bs : List UInt8) (hn : n ≤ 140737488351232) (w : World) (hr : Rd w w.heap.size A n (bs.map bv)) :
    Calls Try.prog 68 #[.slice A n c] w fun e W => ∃ v, e = .returned v ∧ Fresh w 24 ((wl bs).map uv) W v := by
  obtain ⟨i0, hi, hz0, hz1, hz2⟩ := info_parts infoU64
  have hlen : bs.length = n := by simpa using hr.1
  have HL := Lib.hid hlen
  clear hlen
  go_enter Try.func68, Try.ntmps68
  go_wp2
  go_loopw [3, 4] (fun v i wr => ∃ q : Nat, q ≤ nw n ∧ i = .int .i64 (8 * q : Nat) ∧ wr.ownsRow w.heap.size 24 1 v q ((wlUpto bs q).map uv) ∧ Below w.heap.size w wr) (fun _ i _ => n + 8 - (intOf i).toNat)
  case atStart => exact ⟨0, Nat.zero_le _, rfl, World.ownsRow_nil _ _ _ _, Below.refl _ _⟩
  case round =>
    obtain ⟨q, hq, rfl, hown, hB⟩ := hrel
    have hsz := hB.size
    by_cases hlt : 8 * q < n
    · obtain ⟨L, hL⟩ : ∃ L, L = (grp bs q).length := ⟨_, rfl⟩
      have hL2 : L = min 8 (n - 8 * q) := by rw [hL]; simp [grp, HL.out]
      have hL1 : 1 ≤ L ∧ L ≤ 8 := by omega
      have hLn : 8 * q + L ≤ n := by omega
      have HGL := Lib.hid hL
      clear hL
      obtain ⟨wo, rfl⟩ : ∃ wo : World, wo = wr := ⟨_, rfl⟩
      go_wp2
      all_goals
        go_loop [5, 6] (fun v k => ∃ r : Nat, r ≤ L ∧ k = .int .i64 (8 * (q : Int) + (r : Int) - 1) ∧ v = .int .u64 (le ((grp bs q).drop r) : Nat)) (fun _ k => (intOf k + 1).toNat)
        case atStart =>
          refine ⟨L, Nat.le_refl _, by congr 1; omega, ?_⟩
          rw [HGL.out, List.drop_length]
          rfl
        case round =>
          obtain ⟨r, hrL, rfl, rfl⟩ := hrel
          by_cases hr0 : 1 ≤ r
          · obtain ⟨s, rfl⟩ : ∃ s, r = s + 1 := ⟨r - 1, by omega⟩
            obtain ⟨a, u, rfl, hab, hu, hc⟩ := (hr.below hB).at (k := 8 * q + s) (by omega)
            have hk : 8 * q + s < bs.length := by rw [HL.out]; omega
            have hu' : u = bv bs[8 * q + s] := by
              rw [List.getElem?_map, List.getElem?_eq_getElem hk] at hu
              exact (Option.some.inj hu).symm
            subst hu'
            unfold bv at hc
            have hgs : s < (grp bs q).length := by rw [← HGL.out]; omega
            have hge : (grp bs q)[s] = bs[8 * q + s] := by simp [grp]
            have hstep : le ((grp bs q).drop s) = bs[8 * q + s].toNat + 256 * le ((grp bs q).drop (s + 1)) := by
              rw [List.drop_eq_getElem_cons hgs, hge]; rfl
            have HS := Lib.hid hstep
            have hlt1 : le ((grp bs q).drop (s + 1)) < 72057594037927936 := by
              have h1 := le_lt ((grp bs q).drop (s + 1))
              have h2 : 256 ^ ((grp bs q).drop (s + 1)).length ≤ 256 ^ 7 := Nat.pow_le_pow_right (by omega) (by have := grp_len bs q; simp; omega)
              omega
            have hb8 := (bs[8 * q + s]).toNat_lt
            clear hstep hge hu
            go_wp2
            go_round
            case rel => exact ⟨s, by omega, by congr 1; omega, by rw [HS.out]; congr 1; omega⟩
            case measure => simp [intOf]; omega
          · obtain rfl : r = 0 := by omega
            rw [List.drop_zero] at *
            go_wp2_with (at_builtin; refine wpList_append_own _ rfl _ _ 35 rfl w.heap.size 24 i0 (.int .u64 0) 1 8 Try.underlying35 hi hz0 hz1 hz2 rfl (by decide) u3 q _ rfl (hown.alloc _) ⟨wo.heap.size, 0, none⟩ 1 1 [uv (wk bs q)] rfl rfl (cell_one_new _ _ _) (by simp [uv_one]) (by unfold maxLen; unfold nw at hq; omega) (by unfold nw at hq; omega) (by simp; omega) ?_; intro v' w1 hown' hgrow _)
            go_roundw
            case rel => exact ⟨q + 1, by unfold nw at hq ⊢; omega, by go_num, own_cast hown' rfl (by rw [wlUpto_succ]; simp), own_grown (hB.alloc hsz _) (hown.alloc _) hgrow (by simp; omega)⟩
            case measure => simp [intOf]; omega
    · obtain rfl : q = nw n := by unfold nw at hq ⊢; omega
      go_wp2
      go_ret
      have e : wlUpto bs (nw n) = wl bs := by unfold wlUpto wl; rw [HL.out]
      rw [e] at hown
      exact ⟨_, rfl, own_cast hown (by rw [List.length_map, wl_length, HL.out]) rfl, hB⟩

set_option maxRecDepth 100000 in
set_option maxHeartbeats 1000000 in
theorem rsum_any (s : ByteArray) (hs : s.size ≤ 140737488351232) (A : Option Addr) (m c : Nat) (zs : List Int) (hm : m ≤ 140737488351232) (w : World) (hr : Rd w w.heap.size A m (zs.map iv)) :
    Calls Try.prog 54 #[.string s, .slice A m c] w fun e W' => e = .returned (.int .u64 (sumM s.data.toList zs)) ∧ Below w.heap.size w W' := by
  obtain ⟨c1, W1, hconv, hR1, hB1, hz1, hc1, hc2⟩ := conv_bytes (P := Try.prog) w 9 22 5 s (by unfold maxLen; omega) Try.underlying9 Try.underlying22 Try.underlying5
  have hR1' : Rd W1 W1.heap.size (some ⟨w.heap.size, 0, none⟩) s.size (s.data.toList.map bv) := hR1.mono (by omega)
  have hlenz : zs.length = m := by simpa using hr.1
  have HL := Lib.hid hlenz
  clear hlenz hR1 hz1
  go_enter Try.func54, Try.ntmps54
  go_wp2_with fail
  refine (rwords_any _ _ _ s.data.toList hs W1 hR1').mono ?_
  rintro e W2 ⟨v, rfl, hown, hB2⟩
  rw [show ((wl s.data.toList).map uv).length = nw s.size from by simp [wl_length]] at hown
  obtain ⟨Av, cv, rfl⟩ := own_form hown
  have hB12 : Below w.heap.size w W2 := hB1.trans (hB2.mono hB1.size)
  have hRv := Rd.of_own hown
  have hnw : nw s.size ≤ 140737488351232 := by unfold nw; omega
  have hr2 := hr.below hB12
  clear hown hB2 hconv hB1 hR1'
  go_wp2_with fail
  go_loop [5, 7] (fun v i => ∃ k : Nat, k ≤ nw s.size ∧ i = .int .i64 k ∧ v = .int .u64 (UI (fold 0#64 (wlUpto s.data.toList k)))) (fun _ i => nw s.size - (intOf i).toNat)
  case atStart => exact ⟨0, Nat.zero_le _, rfl, rfl⟩
  case round =>
    obtain ⟨k, hk, rfl, rfl⟩ := hrel
    by_cases hlt : k < nw s.size
    · obtain ⟨a, u, rfl, hab, hu, hc⟩ := hRv.at hlt
      have hu' : u = .int .u64 (wk s.data.toList k) := by
        have hlt' : k < nw s.data.toList.length := by simpa using hlt
        simp only [wl, List.map_map, List.getElem?_map, List.getElem?_range hlt', Option.map_some] at hu
        exact (Option.some.inj hu).symm
      subst hu'
      clear hu
      have HS := Lib.hid (show mixI (UI (fold 0#64 (wlUpto s.data.toList k))) (wk s.data.toList k) = UI (fold 0#64 (wlUpto s.data.toList (k + 1))) from by rw [mixI_UI, wlUpto_succ, fold_snoc])
      go_wp2_with (go_at_call 71; refine (rmix_any _ _ _).mono ?_; rintro e w' ⟨rfl, rfl⟩)
      go_round
      case rel => exact ⟨k + 1, by omega, by go_num, by rw [HS.out]⟩
      case measure => simp [intOf]; omega
    · obtain rfl : k = nw s.size := by omega
      have hwl : wlUpto s.data.toList (nw s.size) = wl s.data.toList := by unfold wlUpto wl; simp
      obtain ⟨st0, hst0⟩ : ∃ st0, st0 = mixB (mixB (fold 0#64 (wl s.data.toList)) (BI s.size)) (BI m) := ⟨_, rfl⟩
      have e0 : mixI (mixI (UI (fold 0#64 (wlUpto s.data.toList (nw s.size)))) s.size) m = UI st0 := by rw [mixI_UI, mixI_UI, hst0, hwl]
      have E0 := Lib.hid e0
      have HST := Lib.hid hst0
      clear e0 hst0 hwl
      go_wp2_with (go_at_call 71; refine (rmix_any _ _ _).mono ?_; rintro e w' ⟨rfl, rfl⟩)
      go_loop [5, 8] (fun v i => ∃ k : Nat, k ≤ m ∧ i = .int .i64 k ∧ v = .int .u64 (UI (fold st0 (zs.take k)))) (fun _ i => m - (intOf i).toNat)
      case atStart => exact ⟨0, Nat.zero_le _, rfl, by rw [E0.out]; rfl⟩
      case round =>
        obtain ⟨k, hk, rfl, rfl⟩ := hrel
        by_cases hlt : k < m
        · obtain ⟨a, u, rfl, hab, hu, hc⟩ := hr2.at hlt
          have hz : k < zs.length := by rw [HL.out]; exact hlt
          have hu' : u = .int .i64 zs[k] := by
            rw [List.getElem?_map, List.getElem?_eq_getElem hz] at hu
            exact (Option.some.inj hu).symm
          subst hu'
          clear hu
          have HS := Lib.hid (show mixI (UI (fold st0 (zs.take k))) (IntKind.u64.wrap zs[k]) = UI (fold st0 (zs.take (k + 1))) from by rw [mixI_UI, BI_wrapU, List.take_succ_eq_append_getElem hz, fold_snoc])
          go_wp2_with (go_at_call 71; refine (rmix_any _ _ _).mono ?_; rintro e w' ⟨rfl, rfl⟩)
          go_round
          case rel => exact ⟨k + 1, by omega, by go_num, by rw [HS.out]⟩
          case measure => simp [intOf]; omega
        · obtain rfl : k = m := by omega
          have hres : mixI (UI (fold st0 (zs.take k))) 0 = sumM s.data.toList zs := by
            unfold sumM sumB
            rw [mixI_UI, List.take_of_length_le (by rw [HL.out]; exact Nat.le_refl _), HST.out, Array.length_toList, HL.out]
            rfl
          have HR := Lib.hid hres
          clear hres
          go_wp2_with (go_at_call 71; refine (rmix_any _ _ _).mono ?_; rintro e w' ⟨rfl, rfl⟩)
          go_ret
          exact ⟨ret_u64 HR.out, hB12⟩

set_option maxRecDepth 100000 in
set_option maxHeartbeats 1000000 in
theorem rbytes_any (s : ByteArray) (hs : s.size ≤ 140737488351232) (A : Option Addr) (m c : Nat) (bs : List UInt8) (hm : m ≤ 140737488351232) (w : World) (hr : Rd w w.heap.size A m (bs.map bv)) :
    Calls Try.prog 50 #[.string s, .slice A m c] w fun e W' => e = .returned (.int .u64 (bytesM s.data.toList bs)) ∧ Below w.heap.size w W' := by
  obtain ⟨i0, hi, hz0, hz1, hz2⟩ := info_parts infoI
  have hlen : bs.length = m := by simpa using hr.1
  have HL := Lib.hid hlen
  clear hlen
  go_enter Try.func50, Try.ntmps50
  go_wp2_with fail
  refine (rwords_any _ _ _ bs hm w hr).mono ?_
  rintro e W1 ⟨v, rfl, hown, hB1⟩
  rw [show ((wl bs).map uv).length = nw m from by simp [wl_length, HL.out]] at hown
  obtain ⟨Av, cv, rfl⟩ := own_form hown
  have hRv := Rd.of_own hown
  have hnw : nw m * 8 ≤ m + 7 := by unfold nw; omega
  have hz : W1.heap.size ≤ W1.heap.size := Nat.le_refl _
  have hs1 := hB1.size
  clear hown
  go_wp2_with fail
  go_loopw [6, 7] (fun v i wr => ∃ k : Nat, k ≤ nw m ∧ i = .int .i64 k ∧ wr.ownsRow W1.heap.size 3 1 v k ((wlUpto bs k).map fun x => iv (wrap64 x)) ∧ Below W1.heap.size W1 wr) (fun _ i _ => nw m - (intOf i).toNat)
  case atStart => exact ⟨0, Nat.zero_le _, rfl, World.ownsRow_nil _ _ _ _, Below.refl _ _⟩
  case round =>
    obtain ⟨k, hk, rfl, hown, hB⟩ := hrel
    have hsz := hB.size
    by_cases hlt : k < nw m
    · obtain ⟨a, u, rfl, hab, hu, hc⟩ := (hRv.below hB).at hlt
      have hu' : u = .int .u64 (wk bs k) := by
        have hlt' : k < nw bs.length := by rw [HL.out]; exact hlt
        simp only [wl, List.map_map, List.getElem?_map, List.getElem?_range hlt', Option.map_some] at hu
        exact (Option.some.inj hu).symm
      subst hu'
      clear hu
      go_wp2_with (at_builtin; refine wpList_append_own _ rfl _ _ 37 rfl W1.heap.size 3 i0 (.int .i64 0) 1 8 Try.underlying37 hi hz0 hz1 hz2 rfl (by decide) _ k _ rfl (hown.alloc _) ⟨wr.heap.size, 0, none⟩ 1 1 [iv (wrap64 (wk bs k))] rfl rfl (cell_one_new _ _ _) (by simp [iv_one]) (by unfold maxLen; omega) (by omega) (by simp; omega) ?_; intro v' w1 hown' hgrow _)
      go_roundw
      case rel => exact ⟨k + 1, by omega, by go_num, own_cast hown' rfl (by rw [wlUpto_succ]; simp), own_grown (hB.alloc hsz _) (hown.alloc _) hgrow (by simp; omega)⟩
      case measure => simp [intOf]; omega
    · obtain rfl : k = nw m := by omega
      have hwl : wlUpto bs (nw m) = wl bs := by unfold wlUpto wl; rw [HL.out]
      rw [hwl] at hown
      clear hwl
      obtain ⟨Au, cu, rfl⟩ := own_form hown
      go_wp2_with (at_builtin; refine wpList_append_own _ rfl _ _ 37 rfl W1.heap.size 3 i0 (.int .i64 0) 1 8 Try.underlying37 hi hz0 hz1 hz2 rfl (by decide) (.slice Au (nw m) cu) (nw m) _ rfl (hown.alloc _) ⟨wr.heap.size, 0, none⟩ 1 1 [iv (m : Int)] rfl rfl (cell_one_new _ _ _) (by simp [iv_one]) (by unfold maxLen; omega) (by omega) (by simp; omega) ?_; intro v' w1 hown' hgrow _; obtain ⟨g', cap', rfl⟩ := ownsRow_succ hown')
      have hRd := (Rd.of_own hown').cast (ys := ((wl bs).map wrap64 ++ [(m : Int)]).map iv) rfl (by simp)
      have hB1' : Below W1.heap.size W1 w1 := own_grown (hB.alloc hsz _) (hown.alloc _) hgrow (by simp; omega)
      have hBw := hB1.trans (hB1'.mono hs1)
      refine (rsum_any s hs _ _ _ _ (by omega) _ hRd).mono ?_
      rintro e W2 ⟨rfl, hB2⟩
      have hres : sumM s.data.toList ((wl bs).map wrap64 ++ [(m : Int)]) = bytesM s.data.toList bs := by unfold bytesM; rw [HL.out]
      have HR := Lib.hid hres
      clear hres
      go_wp2_with fail
      go_ret
      exact ⟨ret_u64 HR.out, hBw.trans (hB2.mono hBw.size)⟩

theorem rpair_any (a b : Int) (w : World) :
    Calls Try.prog 55 #[.int .u64 a, .int .u64 b] w fun e W' => e = .returned (.int .u64 (pairM a b)) ∧ Below w.heap.size w W' := by
  go_enter Try.func55, Try.ntmps55
  go_wp2_with (go_at_call 54; refine (rsum_any _ (by decide) _ 2 _ [wrap64 a, wrap64 b] (by omega) _ ((boxed_rds w [iv (wrap64 a), iv (wrap64 b)] 3).mono (by simp))).mono ?_; rintro e W2 ⟨rfl, hB2⟩)
  go_ret
  exact ⟨rfl, ((Below.refl _ w).alloc (Nat.le_refl _) _).trans (hB2.mono (by simp))⟩
end Go.Proofs.Ytagjecbgbpjobaa
