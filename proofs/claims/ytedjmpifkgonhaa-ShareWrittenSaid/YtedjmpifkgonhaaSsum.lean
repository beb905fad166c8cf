/- sumOf; the reference's Sum and Same; lists as slices that read. -/
import Derived.Test.YtedjmpifkgonhaaSgf2
import Derived.Deep.QuietTactic
import Derived.BigQuiet
namespace Go.Proofs.Ytedjmpifkgonhaa
open Go.RowKit Hb Sm Sx

theorem Rd.int {w : World} {B n : Nat} {A : Option Addr} {xs : List Int} (h : Rd w B A n (xs.map iv)) (k : Nat) (hk : k < n) : ∃ a : Addr, A = some a ∧ a.block < B ∧ w.cell? (a.add k) = some (.int .i64 (xs.getD k 0)) := by
  have hl : xs.length = n := by simpa using h.1
  obtain ⟨a, e, hb, hc⟩ := h.2 (by omega)
  refine ⟨a, e, hb, hc k _ ?_⟩
  rw [List.getElem?_map, List.getD_eq_getElem?_getD, List.getElem?_eq_getElem (by omega)]
  rfl
theorem Rd.nat' {w : World} {B n : Nat} {A : Option Addr} {xs : List Nat} (h : Rd w B A n (xs.map nv)) (k : Nat) (hk : k < n) : ∃ a : Addr, A = some a ∧ w.cell? (a.add k) = some (.int .i64 (xs.getD k 0 : Nat)) := by
  obtain ⟨a, _, rfl, -, -, -⟩ := h.at hk
  exact ⟨a, rfl, Rd.nat h k hk⟩
theorem take_snoc {α : Type} (l : List α) (d : α) (k : Nat) (h : k < l.length) : l.take (k + 1) = l.take k ++ [l.getD k d] := by
  rw [List.take_succ_eq_append_getElem h, List.getD_eq_getElem?_getD, List.getElem?_eq_getElem h]; rfl
theorem sum_snoc (l : List Int) (x : Int) : (l ++ [x]).sum = l.sum + x := by simp
theorem all_snoc {α : Type} (p : α → Bool) (l : List α) (x : α) : (l ++ [x]).all p = (l.all p && p x) := by simp
theorem all_take {α : Type} (p : α → Bool) (l : List α) (d : α) (k : Nat) (h : k < l.length) (hx : p (l.getD k d) = false) : l.all p = false := by
  rw [List.all_eq_false]
  refine ⟨l.getD k d, ?_, by rw [hx]; simp⟩
  rw [List.getD_eq_getElem?_getD, List.getElem?_eq_getElem h]
  exact List.getElem_mem h
theorem map_iv_nv (ws : List Nat) : (ws.map (fun n : Nat => (n : Int))).map iv = ws.map nv := by rw [List.map_map]; rfl

def sumRes (l : List Int) : Ending := .returned (.tuple #[.int .i64 (if l.all isAm = true then l.sum else 0), .bool (l.all isAm)])
theorem sumRes_t {l : List Int} (h : l.all isAm = true) : sumRes l = .returned (.tuple #[.int .i64 l.sum, .bool true]) := by unfold sumRes; rw [h]; rfl
theorem sumRes_f {l : List Int} (h : l.all isAm = false) : sumRes l = .returned (.tuple #[.int .i64 0, .bool false]) := by unfold sumRes; rw [h]; rfl
set_option maxRecDepth 100000 in
set_option maxHeartbeats 1000000 in
theorem sum_of (l : List Int) (n c : Nat) (A : Option Addr) (hn : n ≤ 8) (B : Nat) (w : World) (hr : Rd w B A n (l.map iv)) :
    Calls Try.prog 38 #[.slice A n c] w fun e w' => e = sumRes l ∧ w = w' := by
  obtain ⟨p, hp⟩ : ∃ p, p = sumRes l := ⟨_, rfl⟩
  rw [← hp]
  have HP := Lib.hid hp
  clear hp
  have hl : l.length = n := by simpa using hr.1
  have HL := Lib.hid hl
  clear hl
  go_enter Try.func38, Try.ntmps38
  go_wp2
  go_loop [2, 5, 8] (fun sv _ ix => ∃ (k : Nat) (s : Int), k ≤ n ∧ sv = .int .i64 s ∧ ix = .int .i64 k ∧ 0 ≤ s ∧ s ≤ k * 1099511627776 ∧ Hid (s = (l.take k).sum ∧ (l.take k).all isAm = true)) (fun _ _ ix => n - (intOf ix).toNat)
  case atStart => exact ⟨0, 0, Nat.zero_le _, rfl, rfl, by omega, by omega, ⟨rfl, rfl⟩⟩
  case round =>
    obtain ⟨k, s, hk, rfl, rfl, hs0, hs1, H⟩ := hrel
    by_cases hlt : k < n
    · obtain ⟨a, rfl, hab, hc⟩ := Rd.int hr k hlt
      obtain ⟨x, hx⟩ : ∃ x, x = l.getD k 0 := ⟨_, rfl⟩
      rw [← hx] at hc
      have cc := samount x w
      obtain ⟨b, hb⟩ : ∃ b, b = isAm x := ⟨_, rfl⟩
      rw [← hb] at cc
      have hn' : k < l.length := by rw [HL.out]; exact hlt
      cases b with
      | false =>
        have HA := Lib.hid (all_take isAm l 0 k hn' (by rw [← hx]; exact hb.symm))
        clear hx hb
        go_wp2_with fail
        refine cc.mono ?_
        rintro e W ⟨rfl, rfl⟩
        go_wp2_with fail
        go_ret2
        exact ⟨by rw [HP.out, sumRes_f HA.out]; rfl, rfl⟩
      | true =>
        have hx2 := isAm_t hb.symm
        have H2 := Lib.hid (show s + x = (l.take (k + 1)).sum ∧ (l.take (k + 1)).all isAm = true from by
          rw [take_snoc l 0 k hn', ← hx, sum_snoc, all_snoc, ← hb, H.out.2, ← H.out.1]
          exact ⟨rfl, rfl⟩)
        have c2 := slarge (s + x) w
        have e2 : isLg (s + x) = true := decide_eq_true (by omega)
        rw [e2] at c2
        clear hx hb e2
        go_wp2_with fail
        refine cc.mono ?_
        rintro e W ⟨rfl, rfl⟩
        go_wp2_with fail
        refine c2.mono ?_
        rintro e W ⟨rfl, rfl⟩
        go_wp2_with fail
        go_round
        case rel => exact ⟨k + 1, s + x, by omega, rfl, by go_num, by omega, by omega, H2⟩
        case measure => simp [intOf]; omega
    · have H2 := Lib.hid (show l.all isAm = true ∧ s = l.sum from by
        have h1 := H.out
        rw [List.take_of_length_le (by rw [HL.out]; omega)] at h1
        exact ⟨h1.2, h1.1⟩)
      go_wp2
      go_ret2
      exact ⟨by rw [HP.out, sumRes_t H2.out.1, ← H2.out.2]; rfl, rfl⟩

theorem take_sum_le (l : List Nat) (k : Nat) : (l.take k).sum ≤ l.sum := by
  conv => rhs; rw [← List.take_append_drop k l]
  rw [List.sum_append]
  omega
theorem getD_sum_le (l : List Nat) (k : Nat) : l.getD k 0 ≤ l.sum := by
  induction l generalizing k with
  | nil => simp
  | cons x r ih =>
    cases k with
    | zero => simp
    | succ k => have := ih k; simp at this ⊢; omega
set_option maxHeartbeats 1000000 in
theorem rsum (ws : List Nat) (S : Nat) (hS : S = ws.sum) (n c : Nat) (A : Option Addr) (hn : n ≤ 1000) (hs : S ≤ 4611686018427387904) (B : Nat) (w : World) (hr : Rd w B A n (ws.map nv)) :
    Calls Try.prog 22 #[.slice A n c] w fun e w' => e = .returned (.int .i64 S) ∧ w = w' := by
  have HS := Lib.hid hS
  clear hS
  have hl : ws.length = n := by simpa using hr.1
  have HL := Lib.hid hl
  clear hl
  go_enter Try.func22, Try.ntmps22
  go_wp2
  go_loop [3, 4] (fun sv ix => ∃ (k s : Nat), k ≤ n ∧ sv = .int .i64 s ∧ ix = .int .i64 k ∧ s ≤ 4611686018427387904 ∧ Hid (s = (ws.take k).sum)) (fun _ ix => n - (intOf ix).toNat)
  case atStart => exact ⟨0, 0, Nat.zero_le _, rfl, rfl, by omega, rfl⟩
  case round =>
    obtain ⟨k, s, hk, rfl, rfl, hs0, H⟩ := hrel
    by_cases hlt : k < n
    · obtain ⟨a, _, rfl, -, -, -⟩ := hr.at hlt
      have hc := Rd.nat hr k hlt
      unfold nv at hc
      obtain ⟨x, hx⟩ : ∃ x, x = ws.getD k 0 := ⟨_, rfl⟩
      rw [← hx] at hc
      have hn' : k < ws.length := by rw [HL.out]; exact hlt
      have H2 := Lib.hid (show s + x = (ws.take (k + 1)).sum from by
        rw [take_snoc ws 0 k hn', ← hx, List.sum_append, ← H.out]; simp)
      have h3 : s + x ≤ 4611686018427387904 := by rw [H2.out]; exact Nat.le_trans (take_sum_le _ _) (by rw [← HS.out]; exact hs)
      clear hx
      go_wp2
      go_round
      case rel => exact ⟨k + 1, s + x, by omega, by go_num, by go_num, h3, H2⟩
      case measure => simp [intOf]; omega
    · have H2 := Lib.hid (show s = ws.sum from by
        have h1 := H.out
        rwa [List.take_of_length_le (by rw [HL.out]; omega)] at h1)
      go_wp2
      go_ret
      exact ⟨by rw [H2.out, ← HS.out]; rfl, rfl⟩

set_option maxHeartbeats 1000000 in
theorem same3 (A C : Option Addr) (n c m d : Nat) (xs ys : List Int) (B : Nat) (hn : n ≤ maxLen) (w : World) (hx : Rd w B A n (xs.map iv)) (hy : Rd w B C m (ys.map iv)) :
    Calls Try.prog 21 #[.slice A n c, .slice C m d] w fun e w' => e = .returned (.bool (decide (xs = ys))) ∧ Quiet w w' := by
  have hlx : xs.length = n := by simpa using hx.1
  have hly : ys.length = m := by simpa using hy.1
  unfold maxLen at hn
  have HX := Lib.hid hlx
  have HY := Lib.hid hly
  clear hlx hly
  by_cases hnm : n = m
  · subst hnm
    have hne : ((n : Int) != (n : Int)) = false := by simp
    go_enter Try.func21, Try.ntmps21
    go_wp2
    go_loopw [5] (fun i wr => ∃ k q : Nat, k ≤ n ∧ i = .int .i64 k ∧ wr = w.drewN q ∧ xs.take k = ys.take k) (fun i _ => n - (intOf i).toNat)
    case atStart => exact ⟨0, 0, Nat.zero_le _, rfl, rfl, by simp⟩
    case round =>
      obtain ⟨k, q, hk, rfl, rfl, htk⟩ := hrel
      have HT := Lib.hid htk
      clear htk
      by_cases hlt : k < n
      · obtain ⟨a, u, rfl, hab, hu, hc⟩ := hx.at hlt
        obtain ⟨b, v, rfl, hbb, hv, hd⟩ := hy.at hlt
        have hkx : k < xs.length := by rw [HX.out]; exact hlt
        have hky : k < ys.length := by rw [HY.out]; exact hlt
        have hu' : u = iv xs[k] := by
          rw [List.getElem?_map, List.getElem?_eq_getElem hkx] at hu
          exact (Option.some.inj hu).symm
        have hv' : v = iv ys[k] := by
          rw [List.getElem?_map, List.getElem?_eq_getElem hky] at hv
          exact (Option.some.inj hv).symm
        subst hu' hv'
        unfold iv at hc hd
        clear hu hv
        by_cases hxy : xs[k] = ys[k]
        · have hb : (xs[k] != ys[k]) = false := by rw [hxy]; simp
          have HXY := Lib.hid hxy
          clear hxy
          go_wp2_with fail
          go_quiet (fail)
          go_wp2
          go_roundw
          case rel =>
            refine ⟨k + 1, q + nq, by omega, by go_num, rfl, ?_⟩
            rw [List.take_succ_eq_append_getElem hkx, List.take_succ_eq_append_getElem hky, HT.out, HXY.out]
          case measure => simp [intOf]; omega
        · have hb : (xs[k] != ys[k]) = true := by rw [bne_iff_ne]; exact hxy
          have hd : decide (xs = ys) = false := decide_eq_false (fun e => hxy (by subst e; rfl))
          have HD := Lib.hid hd
          clear hxy hd
          go_wp2_with fail
          go_quiet (fail)
          go_wp2
          go_ret
          exact ⟨ret_bool HD.out.symm, q + nq, World.drewN_drewN ..⟩
      · have hd : decide (xs = ys) = true := decide_eq_true (by
          have := HT.out
          rwa [List.take_of_length_le (by rw [HX.out]; omega), List.take_of_length_le (by rw [HY.out]; omega)] at this)
        have HD := Lib.hid hd
        clear hd
        go_wp2
        go_ret
        exact ⟨ret_bool HD.out.symm, q, rfl⟩
  · have hne : ((n : Int) != (m : Int)) = true := by rw [bne_iff_ne]; omega
    have hd : decide (xs = ys) = false := decide_eq_false (fun e => hnm (by rw [← HX.out, ← HY.out, e]))
    have HD := Lib.hid hd
    clear hd
    go_enter Try.func21, Try.ntmps21
    go_wp2
    go_ret
    exact ⟨ret_bool HD.out.symm, 0, rfl⟩

theorem same3_nat (A C : Option Addr) (n c m d : Nat) (xs ys : List Nat) (B : Nat) (hn : n ≤ 1000) (w : World) (hx : Rd w B A n (xs.map nv)) (hy : Rd w B C m (ys.map nv)) (h : xs = ys) :
    Calls Try.prog 21 #[.slice A n c, .slice C m d] w fun e w' => e = .returned (.bool true) ∧ Quiet w w' := by
  rw [← map_iv_nv] at hx hy
  exact (same3 A C n c m d _ _ B (by unfold maxLen; omega) w hx hy).mono fun _ _ ⟨he, hq⟩ => ⟨he.trans (ret_bool (decide_eq_true (by rw [h]))), hq⟩
end Go.Proofs.Ytedjmpifkgonhaa
