/- The law ShareQuota, walked. -/
import Derived.Test.YtedjmpifkgonhaaSlaws1
namespace Go.Proofs.Ytedjmpifkgonhaa
open Go.RowKit Hb Sm Sx

theorem sum_bound (l : List Nat) (h : ∀ x ∈ l, x ≤ 1099511627776) : l.sum ≤ l.length * 1099511627776 := by
  induction l with
  | nil => simp
  | cons x r ih =>
    have h1 := h x (List.mem_cons_self ..)
    have h2 := ih fun y hy => h y (List.mem_cons_of_mem _ hy)
    simp only [List.sum_cons, List.length_cons]
    omega
theorem ceilQ_le (t x S : Nat) (hx : x ≤ S) (hS : 0 < S) : ceilQ t x S ≤ t := by
  have := rest_sum t (S - x) S (Nat.sub_le _ _) hS
  rw [Nat.sub_sub_self hx] at this
  generalize t * (S - x) / S = z at this
  omega

set_option maxRecDepth 100000 in
set_option maxHeartbeats 4000000 in
theorem ShareQuota_walk (w : World) (a0 : Int) (w0 : (Lit.int .i64 a0).wf = true) (A1 : Option Addr) (len1 cap1 : Nat) (l : List Int) (hr : Rd w w.heap.size A1 len1 (l.map iv)) (hz : ∀ y ∈ l, -9223372036854775808 ≤ y ∧ y ≤ 9223372036854775807) (_ : len1 ≤ cap1) (_ : cap1 ≤ maxLen) :
    Calls Try.prog 5 #[.int .i64 a0, .slice A1 len1 cap1] w fun e W' => e = .returned (.bool true) ∧ Below w.heap.size w W' := by
  have HZ := Lib.hid hz
  clear hz
  go_enter Try.func5, Try.ntmps5
  go_wp2_with fail
  refine (around3 a0 1099511627777 _ rfl (bounds_i64 w0) (by omega) w).mono ?_
  rintro e W ⟨⟨t, rfl, ht, -⟩, rfl⟩
  go_wp2_with fail
  refine (weights_any l len1 cap1 A1 HZ.out w hr).mono ?_
  rintro e W1 ⟨ws, n, A, c, rfl, hn7, hnc, hc, hws, hsum, R1, B1⟩
  have hl : ws.length = n := by simpa using R1.1
  obtain ⟨S, hS⟩ : ∃ S, S = ws.sum := ⟨_, rfl⟩
  have hS8 : S ≤ 7696581394432 := by
    have := sum_bound ws hws
    rw [hl, ← hS] at this
    omega
  have hS0 : 0 < S := by rw [hS]; exact hsum
  have s1 := B1.size
  have HL := Lib.hid hl
  have HS := Lib.hid hS
  have HW := Lib.hid hws
  clear hl hS hws hsum hr hnc hc
  go_wp2_with fail
  refine (rsum ws S HS.out n c A (by omega) (by omega) _ W1 R1).mono ?_
  rintro e W ⟨rfl, rfl⟩
  obtain ⟨xs, hxs⟩ : ∃ xs, xs = split t ws := ⟨_, rfl⟩
  have hxl : xs.length = n := by rw [hxs, split_len, HL.out]
  have hxt : t = xs.sum := by rw [hxs, split_sum t ws (by rw [← HS.out]; exact hS0)]
  have HX := Lib.hid hxs
  have HXL := Lib.hid hxl
  have HXT := Lib.hid hxt
  clear hxs hxl hxt
  go_wp2_with fail
  refine (split_t t _ rfl ws n c A (by omega) HW.out (by rw [← HS.out]; exact hS0) (by omega) W1 R1 xs HX.out).mono ?_
  rintro e W2 ⟨A', c', rfl, R2, -, hB⟩
  have R1' := R1.later hB hB.size
  have B2 := B1.trans (hB.mono s1)
  have s2 := B2.size
  have n1 : ((n : Int) != (n : Int)) = false := by simp
  have n2 : ((t : Int) != (t : Int)) = false := by simp
  clear hB R1 B1
  go_wp2_with fail
  refine (rsum xs t HXT.out n c' A' (by omega) (by omega) _ W2 R2).mono ?_
  rintro e W ⟨rfl, rfl⟩
  go_wp2_with fail
  go_loopw [10, 11, 12, 13, 14] (fun ix _ _ _ _ wx => ∃ k : Nat, k ≤ n ∧ ix = .int .i64 k ∧ Hid (Quiet W2 wx)) (fun ix _ _ _ _ _ => n - (intOf ix).toNat)
  case atStart => exact ⟨0, Nat.zero_le _, rfl, ⟨0, rfl⟩⟩
  case round =>
    obtain ⟨k, hk, rfl, HQ⟩ := hrel
    by_cases hlt : k < n
    · have RA := R1'.later (HQ.out.below W2.heap.size) (HQ.out.below W2.heap.size).size
      have RX := R2.later (HQ.out.below W2.heap.size) (HQ.out.below W2.heap.size).size
      obtain ⟨x, hx⟩ : ∃ x, x = ws.getD k 0 := ⟨_, rfl⟩
      obtain ⟨y, hy⟩ : ∃ y, y = xs.getD k 0 := ⟨_, rfl⟩
      obtain ⟨a, ha, ca⟩ := Rd.nat' RA k hlt
      obtain ⟨b, hb, cb⟩ := Rd.nat' RX k hlt
      rw [← hx] at ca
      rw [← hy] at cb
      subst ha hb
      have hxS : x ≤ S := by rw [hx, HS.out]; exact getD_sum_le ws k
      have hkl : k < ws.length := by rw [HL.out]; exact hlt
      have hq := split_quota t ws (by rw [← HS.out]; exact hS0) k hkl
      rw [← HX.out, ← HS.out, ← hx, ← hy] at hq
      obtain ⟨lo, hlo⟩ : ∃ lo, lo = t * x / S := ⟨_, rfl⟩
      obtain ⟨hi, hhi⟩ : ∃ hi, hi = ceilQ t x S := ⟨_, rfl⟩
      have hhit : hi ≤ t := by rw [hhi]; exact ceilQ_le t x S hxS hS0
      have hlohi : lo ≤ hi ∧ hi ≤ lo + 1 ∧ lo ≤ y ∧ y ≤ hi := by
        have e1 : hi = lo + (if 0 < t * x % S then 1 else 0) := by rw [hhi, hlo]; rfl
        rw [← hlo, ← e1] at hq
        refine ⟨?_, ?_, hq.1, hq.2⟩
        · rw [e1]; omega
        · rw [e1]; split <;> omega
      obtain ⟨g1, g2, g3, g4⟩ := hlohi
      have p1 : decide ((y : Int) < (lo : Int)) = false := decide_eq_false (by omega)
      have p2 : decide ((y : Int) > (hi : Int)) = false := decide_eq_false (by omega)
      have p3 : decide ((hi : Int) - (lo : Int) > 1) = false := decide_eq_false (by omega)
      have HLH := Lib.hid (And.intro hlo hhi)
      clear hlo hhi hq hx hy RA RX
      go_wp2_with fail
      refine (part_t (n := x) _ _ _ rfl rfl rfl (by omega) (by omega) hS0 (by omega) HLH.out.1 (by omega) wr).mono ?_
      rintro e W3 ⟨rfl, hq3⟩
      have ca3 := (hq3.below wr.heap.size).cell (cell_lt ca) |>.trans ca
      have cb3 := (hq3.below wr.heap.size).cell (cell_lt cb) |>.trans cb
      have HQ3 := Lib.hid (show Quiet W2 W3 from by obtain ⟨q, rfl⟩ := hq3; exact HQ.out.n q)
      clear hq3 ca cb
      go_wp2_with fail
      refine (ceil_t (n := x) _ _ _ rfl rfl rfl (by omega) (by omega) hS0 (by omega) HLH.out.2 (by omega) W3).mono ?_
      rintro e W4 ⟨rfl, hq4⟩
      have cb4 := (hq4.below W3.heap.size).cell (cell_lt cb3) |>.trans cb3
      have HQ4 := Lib.hid (show Quiet W2 W4 from by obtain ⟨q, rfl⟩ := hq4; exact HQ3.out.n q)
      clear hq4 ca3 cb3 HQ3
      go_wp2_with fail
      go_roundw
      case rel => exact ⟨k + 1, by omega, by go_num, HQ4⟩
      case measure => simp [intOf]; omega
    · have B3 := B2.trans (HQ.out.below w.heap.size)
      go_wp2_with fail
      refine (lives_from w wr B3).mono ?_
      rintro e W3 ⟨rfl, B4⟩
      go_wp2_with fail
      go_ret
      exact ⟨rfl, B4⟩
end Go.Proofs.Ytedjmpifkgonhaa
