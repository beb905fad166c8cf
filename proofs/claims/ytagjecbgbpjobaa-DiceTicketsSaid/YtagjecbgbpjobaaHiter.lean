/- The iterator over the words of a label or of bytes: what it hands to a loop's body, round by round. -/
import Derived.RangeFuncNested
import Derived.RangeFuncBound
import Derived.RangeFuncCalls
import Derived.RangeFuncLeaves
import Derived.RangeFuncBox
import Derived.Shelf.Abstract
import Derived.Shelf.RegionOpen
import Derived.WalkKit
import Derived.OwnWalkIn
import Derived.TacticsInMore
import Derived.LoopNIn
import Derived.LoopIn
import Derived.Lib.Strings
import Derived.Outline
import Derived.Test.YtagjecbgbpjobaaHwords
namespace Go.Proofs.Ytagjecbgbpjobaa
open Go.RowKit Go.Shelf Hm Hb
attribute [local go_sem] Oper.semAt_some

theorem lenU {l : List UInt8} {k : Nat} : (wlUpto l k).length = k := wlUpto_length l k

set_option maxRecDepth 100000 in
set_option maxHeartbeats 1000000 in
theorem iter_s1 (n : Nat) (hn : 2 ≤ n) (l Bn n₀ : Nat) (s : ByteArray) (hs : s.size ≤ 140737488351232) (J Jx : List Int → World → Prop)
    (hY : ∀ pre x W, J pre W → pre.length < nw s.data.toList.length → YieldAt Fence.wide (n - 1) Try.prog l #[.int .u64 x] W fun e W' =>
      (e = .returned (.bool true) ∧ J (pre ++ [x]) W' ∧ KeepBox n₀ Bn W W') ∨ (e = .returned (.bool false) ∧ Jx (pre ++ [x]) W'))
    (W : World) (hBn : Boxed W Bn 9 (.string s)) (h0 : J [] W) :
    CallsIn Fence.wide n Try.prog 76 #[.func (.yield l) #[] #[], .pointer (some ⟨Bn, 0, none⟩)] W fun e W' => (∃ v, e = .returned v) ∧
      ((∃ ys, ys = wl s.data.toList ∧ J ys W') ∨ (∃ pre, pre <+: wl s.data.toList ∧ Jx pre W')) := by
  have hlen : s.data.toList.length = s.size := by simp
  refine callsIn_of_wp Try.func76 rfl trivial ?_ rfl
  simp only [Try.ntmps76, List.size_toArray, List.length_cons, List.length_nil, Nat.reduceAdd, Nat.reduceSub, Array.replicate_succ, Array.replicate_zero, List.push_toArray, List.append_toArray, List.nil_append, List.cons_append]
  gi_wp2
  gi_loopw [3] (fun p wr => ∃ k : Nat, k ≤ nw s.size ∧ p = .int .i64 (8 * k : Nat) ∧ J (wlUpto s.data.toList k) wr ∧ Boxed wr Bn 9 (.string s))
    (fun p _ => s.size + 8 - (intOf p).toNat)
  case atStart => exact ⟨0, Nat.zero_le _, rfl, h0, hBn⟩
  case round =>
    obtain ⟨k, hk, rfl, hJ, hb⟩ := hrel
    have hbc := hb.cell
    by_cases hlt : 8 * k < s.size
    · obtain ⟨fn, tmps, assign, body, hy, hR⟩ := hY _ (wk s.data.toList k) wr hJ (by rw [lenU, hlen]; unfold nw; omega)
      have hg : ∀ j : Nat, j = min (8 * k + 8) s.size → (s.extract (8 * k) j).data.toList = grp s.data.toList k ∧ (s.extract (8 * k) j).size ≤ 8 := by
        intro j hj
        have hd : (s.extract (8 * k) j).data.toList = grp s.data.toList k := by
          rw [Lib.extract_data]
          unfold grp
          subst hj
          apply List.ext_getElem?
          intro q
          simp only [List.getElem?_take, List.getElem?_drop]
          split <;> split <;> first | rfl | (rw [List.getElem?_eq_none (by rw [hlen]; omega)]) | omega
        refine ⟨hd, ?_⟩
        have h2 := grp_len s.data.toList k
        rw [← hd, Array.length_toList] at h2
        exact h2
      by_cases h8 : 8 * (k : Int) + 8 ≤ s.size
      · have hrun := fun w => run_slice_string (P := Try.prog) (w := w) 9 s .i64 .i64 (8 * (k : Int)) (8 * (k : Int) + 8) Try.underlying9 (by omega) (by omega) h8
        obtain ⟨g1, g2⟩ := hg (8 * k + 8) (by omega)
        rw [show (8 * (k : Int)).toNat = 8 * k from by omega, show (8 * (k : Int) + 8).toNat = 8 * k + 8 from by omega] at hrun
        have G1 := Lib.hid g1
        clear g1 hg
        have h1 : 1 ≤ n := by omega
        gi_wp2_with (refine ⟨trivial, ?_⟩; gi_at_call 77; refine (callsIn_wide.2 (word_s _ _ g2)).mono ?_; rintro e w1 ⟨rfl, rfl⟩; rw [G1.out, show ((le (grp s.data.toList k) : Nat) : Int) = wk s.data.toList k from rfl])
        refine hR.mono ?_
        rintro e W3 (⟨rfl, hJ3, hk3⟩ | ⟨rfl, hJx3⟩)
        · gi_wp2
          go_roundw
          case rel => exact ⟨k + 1, by unfold nw at hk ⊢; omega, by go_num, by rw [wlUpto_succ]; exact hJ3, boxed_keep hb hk3⟩
          case measure => simp [intOf]; omega
        · gi_wp2
          refine bodyPost_ret (results_none rfl _ _ _) rfl ?_
          refine ⟨⟨_, rfl⟩, .inr ⟨_, ?_, hJx3⟩⟩
          rw [← wlUpto_succ]
          exact wlUpto_prefix _ _ (by rw [hlen]; unfold nw; omega)
      · have hrun := fun w => run_slice_string (P := Try.prog) (w := w) 9 s .i64 .i64 (8 * (k : Int)) (s.size : Int) Try.underlying9 (by omega) (by omega) (by omega)
        obtain ⟨g1, g2⟩ := hg s.size (by omega)
        rw [show (8 * (k : Int)).toNat = 8 * k from by omega, show ((s.size : Int)).toNat = s.size from by omega] at hrun
        have G1 := Lib.hid g1
        clear g1 hg
        have h1 : 1 ≤ n := by omega
        gi_wp2_with (refine ⟨trivial, ?_⟩; gi_at_call 77; refine (callsIn_wide.2 (word_s _ _ g2)).mono ?_; rintro e w1 ⟨rfl, rfl⟩; rw [G1.out, show ((le (grp s.data.toList k) : Nat) : Int) = wk s.data.toList k from rfl])
        refine hR.mono ?_
        rintro e W3 (⟨rfl, hJ3, hk3⟩ | ⟨rfl, hJx3⟩)
        · gi_wp2
          go_roundw
          case rel => exact ⟨k + 1, by unfold nw at hk ⊢; omega, by go_num, by rw [wlUpto_succ]; exact hJ3, boxed_keep hb hk3⟩
          case measure => simp [intOf]; omega
        · gi_wp2
          refine bodyPost_ret (results_none rfl _ _ _) rfl ?_
          refine ⟨⟨_, rfl⟩, .inr ⟨_, ?_, hJx3⟩⟩
          rw [← wlUpto_succ]
          exact wlUpto_prefix _ _ (by rw [hlen]; unfold nw; omega)
    · obtain rfl : k = nw s.size := by unfold nw at hk ⊢; omega
      gi_wp2
      go_end0
      refine ⟨⟨_, rfl⟩, .inl ⟨_, rfl, ?_⟩⟩
      unfold wl
      rw [hlen]
      exact hJ

set_option maxRecDepth 100000 in
set_option maxHeartbeats 1000000 in
theorem iter_b1 (n : Nat) (hn : 2 ≤ n) (l Bn n₀ : Nat) (A : Option Addr) (m c : Nat) (bs : List UInt8) (hm : m ≤ 140737488351232) (hmc : m ≤ c) (J Jx : List Int → World → Prop)
    (hY : ∀ pre x W, J pre W → pre.length < nw bs.length → YieldAt Fence.wide (n - 1) Try.prog l #[.int .u64 x] W fun e W' =>
      (e = .returned (.bool true) ∧ J (pre ++ [x]) W' ∧ KeepBox n₀ Bn W W') ∨ (e = .returned (.bool false) ∧ Jx (pre ++ [x]) W'))
    (W : World) (hBn : Boxed W Bn 22 (.slice A m c)) (hR0 : Rd W n₀ A m (bs.map bv)) (h0 : J [] W) :
    CallsIn Fence.wide n Try.prog 74 #[.func (.yield l) #[] #[], .pointer (some ⟨Bn, 0, none⟩)] W fun e W' => (∃ v, e = .returned v) ∧
      ((∃ ys, ys = wl bs ∧ J ys W') ∨ (∃ pre, pre <+: wl bs ∧ Jx pre W')) := by
  have hlen : bs.length = m := by simpa using hR0.1
  refine callsIn_of_wp Try.func74 rfl trivial ?_ rfl
  simp only [Try.ntmps74, List.size_toArray, List.length_cons, List.length_nil, Nat.reduceAdd, Nat.reduceSub, Array.replicate_succ, Array.replicate_zero, List.push_toArray, List.append_toArray, List.nil_append, List.cons_append]
  gi_wp2
  gi_loopw [3] (fun p wr => ∃ k : Nat, k ≤ nw m ∧ p = .int .i64 (8 * k : Nat) ∧ J (wlUpto bs k) wr ∧ Boxed wr Bn 22 (.slice A m c) ∧ Rd wr n₀ A m (bs.map bv))
    (fun p _ => m + 8 - (intOf p).toNat)
  case atStart => exact ⟨0, Nat.zero_le _, rfl, h0, hBn, hR0⟩
  case round =>
    obtain ⟨k, hk, rfl, hJ, hb, hRd⟩ := hrel
    have hbc := hb.cell
    by_cases hlt : 8 * k < m
    · obtain ⟨fn, tmps, assign, body, hy, hR⟩ := hY _ (wk bs k) wr hJ (by rw [lenU, hlen]; unfold nw; omega)
      have h1 : 1 ≤ n := by omega
      by_cases h8 : 8 * (k : Int) + 8 ≤ m
      · have hcut : Rd wr n₀ (Option.map (fun x => x.add (8 * k)) A) (8) ((grp bs k).map bv) := by
          refine (hRd.cut' (8 * k) (8 * k + 8) (by omega) (by omega)).cast (by omega) ?_
          unfold grp
          rw [List.map_take, List.map_drop]
          rw [show 8 * k + 8 - 8 * k = 8 from by omega]
        have hlenH := Lib.hid hlen
        clear hlen
        gi_wp2_with (refine ⟨trivial, ?_⟩; gi_at_call 75; refine (callsIn_wide.2 (word_b _ _ _ _ _ _ hcut (by omega))).mono ?_; rintro e w1 ⟨rfl, rfl⟩; rw [show ((le (grp bs k) : Nat) : Int) = wk bs k from rfl])
        refine hR.mono ?_
        rintro e W3 (⟨rfl, hJ3, hk3⟩ | ⟨rfl, hJx3⟩)
        · have hRd3 := hRd.below hk3.1
          gi_wp2
          go_roundw
          case rel => exact ⟨k + 1, by unfold nw at hk ⊢; omega, by go_num, by rw [wlUpto_succ]; exact hJ3, boxed_keep hb hk3, hRd3⟩
          case measure => simp [intOf]; omega
        · gi_wp2
          refine bodyPost_ret (results_none rfl _ _ _) rfl ?_
          refine ⟨⟨_, rfl⟩, .inr ⟨_, ?_, hJx3⟩⟩
          rw [← wlUpto_succ]
          exact wlUpto_prefix _ _ (by rw [hlenH.out]; unfold nw; omega)
      · have hcut : Rd wr n₀ (Option.map (fun x => x.add (8 * k)) A) (m - 8 * k) ((grp bs k).map bv) := by
          refine (hRd.cut' (8 * k) (m) (by omega) (by omega)).cast (by omega) ?_
          unfold grp
          rw [List.map_take, List.map_drop]
          rw [List.take_of_length_le (by simp; omega), List.take_of_length_le (by simp; omega)]
        have hlenH := Lib.hid hlen
        clear hlen
        gi_wp2_with (refine ⟨trivial, ?_⟩; gi_at_call 75; refine (callsIn_wide.2 (word_b _ _ _ _ _ _ hcut (by omega))).mono ?_; rintro e w1 ⟨rfl, rfl⟩; rw [show ((le (grp bs k) : Nat) : Int) = wk bs k from rfl])
        refine hR.mono ?_
        rintro e W3 (⟨rfl, hJ3, hk3⟩ | ⟨rfl, hJx3⟩)
        · have hRd3 := hRd.below hk3.1
          gi_wp2
          go_roundw
          case rel => exact ⟨k + 1, by unfold nw at hk ⊢; omega, by go_num, by rw [wlUpto_succ]; exact hJ3, boxed_keep hb hk3, hRd3⟩
          case measure => simp [intOf]; omega
        · gi_wp2
          refine bodyPost_ret (results_none rfl _ _ _) rfl ?_
          refine ⟨⟨_, rfl⟩, .inr ⟨_, ?_, hJx3⟩⟩
          rw [← wlUpto_succ]
          exact wlUpto_prefix _ _ (by rw [hlenH.out]; unfold nw; omega)
    · obtain rfl : k = nw m := by unfold nw at hk ⊢; omega
      gi_wp2
      go_end0
      refine ⟨⟨_, rfl⟩, .inl ⟨_, rfl, ?_⟩⟩
      unfold wl
      rw [hlen]
      exact hJ

set_option maxHeartbeats 1000000 in
theorem wordsOf_s (n : Nat) (s : ByteArray) (w : World) :
    CallsIn Fence.wide n Try.prog 69 #[.string s] w fun e w' => e = .returned (.func (.func 76) #[] #[.pointer (some ⟨w.heap.size, 0, none⟩)]) ∧ w' = w.alloc (.cells #[.string s] 9) := by
  refine callsIn_of_wp Try.func69 rfl trivial ?_ rfl
  simp only [Try.ntmps69, List.size_toArray, List.length_cons, List.length_nil, Nat.reduceAdd, Nat.reduceSub, Array.replicate_succ, Array.replicate_zero, List.push_toArray, List.append_toArray, List.nil_append, List.cons_append]
  gi_wp2
  go_ret
  exact ⟨rfl, rfl⟩
set_option maxHeartbeats 1000000 in
theorem wordsOf_b (n : Nat) (A : Option Addr) (m c : Nat) (w : World) :
    CallsIn Fence.wide n Try.prog 67 #[.slice A m c] w fun e w' => e = .returned (.func (.func 74) #[] #[.pointer (some ⟨w.heap.size, 0, none⟩)]) ∧ w' = w.alloc (.cells #[.slice A m c] 22) := by
  refine callsIn_of_wp Try.func67 rfl trivial ?_ rfl
  simp only [Try.ntmps67, List.size_toArray, List.length_cons, List.length_nil, Nat.reduceAdd, Nat.reduceSub, Array.replicate_succ, Array.replicate_zero, List.push_toArray, List.append_toArray, List.nil_append, List.cons_append]
  gi_wp2
  go_ret
  exact ⟨rfl, rfl⟩

theorem stops_s (n : Nat) (hn : 2 ≤ n) (Bn n₀ : Nat) (s : ByteArray) (hs : s.size ≤ 140737488351232) (w : World) (hBn : Bn < w.heap.size) (hb : Boxed w Bn 9 (.string s)) :
    SeqStopsK Fence.wide n Try.prog 76 #[.pointer (some ⟨Bn, 0, none⟩)] (fun x : Int => #[Value.int .u64 x]) (KeepBox n₀ Bn) (fun ys => ys = wl s.data.toList) (fun pre => pre <+: wl s.data.toList) (nw s.data.toList.length) w := fun l J Jx W hW _ _ hY h0 =>
  iter_s1 n hn l Bn n₀ s hs J Jx hY W ((hW.block Bn hBn).trans hb) h0
theorem stops_b (n : Nat) (hn : 2 ≤ n) (Bn n₀ : Nat) (A : Option Addr) (m c : Nat) (bs : List UInt8) (hm : m ≤ 140737488351232) (hmc : m ≤ c) (w : World) (hBn : Bn < w.heap.size) (hn₀ : n₀ ≤ w.heap.size) (hb : Boxed w Bn 22 (.slice A m c)) (hr : Rd w n₀ A m (bs.map bv)) :
    SeqStopsK Fence.wide n Try.prog 74 #[.pointer (some ⟨Bn, 0, none⟩)] (fun x : Int => #[Value.int .u64 x]) (KeepBox n₀ Bn) (fun ys => ys = wl bs) (fun pre => pre <+: wl bs) (nw bs.length) w := fun l J Jx W hW _ _ hY h0 =>
  iter_b1 n hn l Bn n₀ A m c bs hm hmc J Jx hY W ((hW.block Bn hBn).trans hb) (hr.below (hW.mono hn₀)) h0
end Go.Proofs.Ytagjecbgbpjobaa
