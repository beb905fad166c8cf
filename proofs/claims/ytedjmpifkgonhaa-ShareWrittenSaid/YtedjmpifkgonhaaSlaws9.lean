/- The law ShareWritten, walked. -/
import Derived.Test.YtedjmpifkgonhaaSlaws1
import Derived.Test.YtedjmpifkgonhaaWrd4
import Derived.Test.YtedjmpifkgonhaaWmath2
import Derived.Test.YtedjmpifkgonhaaHsum
namespace Go.Proofs.Ytedjmpifkgonhaa
open Go.RowKit Hb Sm Sx Wm

def partsB : ByteArray := ⟨#[112, 97, 114, 116, 115]⟩
theorem sum_parts (s : ByteArray) (hs : s = partsB) (A : Option Addr) (m c : Nat) (xs : List Nat) (hm : m ≤ 1000) (H : Int) (hH : H = Hm.sumM partsB.data.toList (xs.map fun n : Nat => (n : Int))) (w : World) (hr : Rd w w.heap.size A m (xs.map nv)) :
    Calls Try.prog 31 #[.string s, .slice A m c] w fun e W' => e = .returned (.int .u64 H) ∧ Below w.heap.size w W' := by
  subst hs hH
  rw [← map_iv_nv] at hr
  exact sum_any partsB (by decide) A m c _ (by omega) w hr
theorem below_box {W W' : World} {q B : Nat} (h : W.grownBy W' (some q)) (hB : B ≤ W.heap.size) (hq : B ≤ q) : Below B W W' := below_of_grown h hB hq

set_option maxRecDepth 100000 in
set_option maxHeartbeats 4000000 in
theorem ShareWritten_walk (w : World) (a0 : Int) (w0 : (Lit.int .i64 a0).wf = true) (A1 : Option Addr) (len1 cap1 : Nat) (l : List Int) (hr : Rd w w.heap.size A1 len1 (l.map iv)) (hz : ∀ y ∈ l, -9223372036854775808 ≤ y ∧ y ≤ 9223372036854775807) (_ : len1 ≤ cap1) (_ : cap1 ≤ maxLen) :
    Calls Try.prog 11 #[.int .i64 a0, .slice A1 len1 cap1] w fun e W' => e = .returned (.bool true) ∧ Below w.heap.size w W' := by
  have HZ := Lib.hid hz
  clear hz
  go_enter Try.func11, Try.ntmps11
  go_wp2_with fail
  refine (around3 a0 1099511627777 _ rfl (bounds_i64 w0) (by omega) w).mono ?_
  rintro e W ⟨⟨t, rfl, ht, -⟩, rfl⟩
  go_wp2_with fail
  refine (weights_any l len1 cap1 A1 HZ.out w hr).mono ?_
  rintro e W1 ⟨ws, n, A, c, rfl, hn7, hnc, hc, hws, hsum, R1, B1⟩
  have hwl : ws.length = n := by simpa using R1.1
  have s1 := B1.size
  obtain ⟨xs, hxs⟩ : ∃ xs, xs = split t ws := ⟨_, rfl⟩
  have hxl : xs.length = n := by rw [hxs, split_len, hwl]
  have hxt : xs.sum = t := by rw [hxs, split_sum t ws hsum]
  have hx40 : ∀ x ∈ xs, x ≤ 1099511627776 := by
    intro x hx
    obtain ⟨i, hi, rfl⟩ := List.getElem_of_mem hx
    have h1 := getD_sum_le xs i
    rw [List.getD_eq_getElem?_getD, List.getElem?_eq_getElem hi, hxt] at h1
    simp only [Option.getD_some] at h1
    omega
  obtain ⟨ls, hls⟩ : ∃ ls, ls = xs.map (fun n : Nat => (n : Int)) := ⟨_, rfl⟩
  have hll : ls.length = n := by rw [hls, List.length_map, hxl]
  have hlb : ∀ y ∈ ls, -9223372036854775808 ≤ y ∧ y ≤ 9223372036854775807 := by
    intro y hy
    rw [hls] at hy
    obtain ⟨x, hx, rfl⟩ := List.mem_map.1 hy
    have := hx40 x hx
    omega
  have hlv : ls.map iv = xs.map nv := by rw [hls, map_iv_nv]
  obtain ⟨ys, hys⟩ : ∃ ys, ys = vu n ++ Wm.encI ls := ⟨_, rfl⟩
  have hyl : ys.length ≤ 100 := by
    have h1 := encI_len ls hlb
    have h2 := vu_len10 (n := n) (by omega)
    rw [hys, List.length_append]
    omega
  have hrl : rL (0, ys) = (ls, 0, []) := by
    have := rL_round ls (by omega) hlb []
    rwa [List.append_nil, hll, ← hys] at this
  have HW := Lib.hid (And.intro hws hsum)
  have HX := Lib.hid hxs
  have HXT := Lib.hid hxt
  have H40 := Lib.hid hx40
  have HLB := Lib.hid hlb
  have HLV := Lib.hid hlv
  have HYS := Lib.hid hys
  have HRL := Lib.hid hrl
  have HXL := Lib.hid hxl
  clear hwl hxs hxl hxt hx40 hls hll hlb hlv hys hrl hws hsum hr
  go_wp2_with fail
  refine (split_t t _ rfl ws n c A (by omega) HW.out.1 HW.out.2 (by omega) W1 R1 xs HX.out).mono ?_
  rintro e W2 ⟨A', c', rfl, R2, -, hB⟩
  have B2 := B1.trans (hB.mono s1)
  have s2 := B2.size
  clear hB R1 B1
  go_wp2_with fail
  have bA := (Below.refl W2.heap.size W2).alloc (Nat.le_refl _) (.cells #[.slice none 0 0] 42)
  have RA : Rd (W2.alloc (.cells #[.slice none 0 0] 42)) W2.heap.size A' n (ls.map iv) := by rw [HLV.out]; exact R2.below bA
  refine (w_ints W2.heap.size A' n c' ls [] (by omega) HLB.out (by decide) _ (Wr.new W2) RA).mono ?_
  rintro e W3 ⟨rfl, hWr, hB⟩
  rw [List.nil_append, ← HYS.out] at hWr
  have R3 := R2.below (bA.trans hB)
  have B3 := B2.trans ((bA.trans hB).mono s2)
  have p2 := (bA.trans hB).size
  have s3 := B3.size
  clear hB RA bA B2 R2
  go_wp2_with fail
  refine (w_done W2.heap.size ys (by omega) W3 hWr).mono ?_
  rintro e W4 ⟨A4, c4, rfl, ho4, -, hB⟩
  have R4 := R3.below (hB.mono p2)
  have B4 := B3.trans (hB.mono s3)
  have p4 := hB.size
  have s4 := B4.size
  have l4 := own_le ho4
  have rd4 := Rd.of_own ho4
  clear hB hWr R3 B3 ho4
  go_wp2_with fail
  refine (r_read A4 ys.length c4 ys (by omega) l4 W4 rd4).mono ?_
  rintro e W5 ⟨q, rfl, hq, hR5, hB⟩
  have R5 := R4.below (hB.mono (by omega))
  have B5 := B4.trans (hB.mono s4)
  have p5 := hB.size
  have s5 := B5.size
  clear hB R4 B4 rd4
  go_wp2_with fail
  have ci := r_ints q _ (0, ys) (by show ys.length ≤ _; omega) W5 hR5
  rw [HRL.out] at ci
  simp only at ci
  refine ci.mono ?_
  rintro e W6 ⟨v, rfl, ho6, hR6, hG⟩
  obtain ⟨A6, c6, rfl⟩ := own_form ho6
  have hB6 := below_box hG p5 hq
  have R6 := R5.below (hB6.mono (by omega))
  have B6 := B5.trans (hB6.mono s4)
  have s6 := B6.size
  have p6 := hG.size
  have hln : ls.length = n := by
    have := congrArg List.length HLV.out
    rw [List.length_map, List.length_map, HXL.out] at this
    exact this
  have Y6 : Rd W6 W6.heap.size A6 n (xs.map nv) := by
    have := Rd.of_own ho6
    rw [hln, HLV.out] at this
    exact this
  rw [hln]
  have X6 := R6.mono (show W2.heap.size ≤ W6.heap.size by omega)
  have ce := r_end q _ (0, []) W6 hR6
  have e0 : endOf (0, []) = 0 := rfl
  rw [e0] at ce
  clear hR6 hR5 hG hB6 R5 R6 B5 ho6 ci hln e0
  go_wp2_with fail
  refine ce.mono ?_
  rintro e W ⟨rfl, rfl⟩
  clear ce
  go_wp2_with fail
  refine (same3_nat A' A6 n c' n c6 xs xs W6.heap.size (by omega) W6 X6 Y6 rfl).mono ?_
  rintro e W7 ⟨rfl, hqq⟩
  have X7 := X6.later (hqq.below W6.heap.size) (hqq.below W6.heap.size).size
  have Y7 := Y6.later (hqq.below W6.heap.size) (hqq.below W6.heap.size).size
  have B7 := B6.trans (hqq.below _)
  have s7 := B7.size
  obtain ⟨H, hH⟩ : ∃ H, H = Hm.sumM partsB.data.toList (xs.map fun n : Nat => (n : Int)) := ⟨_, rfl⟩
  have HH := Lib.hid hH
  have n1 : (H != H) = false := by simp
  clear hqq X6 Y6 B6 hH
  go_wp2_with fail
  refine (sum_parts _ rfl A' n c' xs (by omega) H HH.out W7 X7).mono ?_
  rintro e W8 ⟨rfl, hB⟩
  have X8 := X7.later hB hB.size
  have Y8 := Y7.later hB hB.size
  have B8 := B7.trans (hB.mono s7)
  have s8 := B8.size
  clear hB X7 Y7 B7
  go_wp2_with fail
  refine (sum_parts _ rfl A6 n c6 xs (by omega) H HH.out W8 Y8).mono ?_
  rintro e W9 ⟨rfl, hB⟩
  have X9 := X8.later hB hB.size
  have Y9 := Y8.later hB hB.size
  have B9 := B8.trans (hB.mono s8)
  have s9 := B9.size
  clear hB X8 Y8 B8
  rcases Nat.eq_zero_or_pos t with ht0 | ht0
  · have d1 : ((t : Int) == 0) = true := by simp; omega
    clear ht0
    go_wp2_with fail
    refine (lives_from w W9 B9).mono ?_
    rintro e W10 ⟨rfl, B10⟩
    go_wp2_with fail
    go_ret
    exact ⟨rfl, B10⟩
  · have d1 : ((t : Int) == 0) = false := by simp; omega
    have HS := Lib.hid (split_self t xs ht0 HXT.out)
    go_wp2_with fail
    refine (split_t t _ rfl xs n c6 A6 (by omega) H40.out (by rw [HXT.out]; exact ht0) (by omega) W9 Y9 xs HS.out.symm).mono ?_
    rintro e W10 ⟨A10, c10, rfl, Z10, -, hB⟩
    have X10 := X9.later hB hB.size
    have B10 := B9.trans (hB.mono s9)
    clear hB X9 Y9 B9
    go_wp2_with fail
    refine (same3_nat A10 A' n c10 n c' xs xs W10.heap.size (by omega) W10 Z10 X10 rfl).mono ?_
    rintro e W11 ⟨rfl, hqq⟩
    have B11 := B10.trans (hqq.below _)
    clear hqq Z10 X10 B10
    go_wp2_with fail
    refine (lives_from w W11 B11).mono ?_
    rintro e W12 ⟨rfl, B12⟩
    go_wp2_with fail
    go_ret
    exact ⟨rfl, B12⟩
end Go.Proofs.Ytedjmpifkgonhaa
