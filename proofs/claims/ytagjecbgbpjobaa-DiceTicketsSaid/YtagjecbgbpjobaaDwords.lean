/- The words that a roll may take: the iterator of a die. -/
import Derived.Test.YtagjecbgbpjobaaDstream
import Derived.Test.YtagjecbgbpjobaaDred
import Derived.Test.YtagjecbgbpjobaaHiter
import Derived.StillTailTactics
namespace Go.Proofs.Ytagjecbgbpjobaa
open Go.RowKit Go.Shelf Hm Hb Dm Ds
attribute [local go_sem] Oper.semAt_some

def keepDie (p b : Nat) (A B : World) : Prop := B.heap[p]? = A.heap[p]? ∧ B.heap[b]? = A.heap[b]?

set_option maxRecDepth 100000 in
set_option maxHeartbeats 1000000 in
theorem words_seq (n : Nat) (hn : 2 ≤ n) (p b : Nat) (h q : Int) :
    SeqOwn Fence.wide n Try.prog 57 #[.pointer (some ⟨p, 0, none⟩)] #[] (fun k => #[.int .u64 (wordI h (far q k))]) 128 p (keepDie p b) (fun k W => Die W p b h (far q k)) := by
  intro l J Jx W hJ hY h0 hs
  refine callsIn_of_wp Try.func57 rfl trivial ?_ rfl
  simp only [Try.ntmps57, List.size_toArray, List.length_cons, List.length_nil, Nat.reduceAdd, Nat.reduceSub, Array.replicate_succ, Array.replicate_zero, List.push_toArray, List.append_toArray, List.nil_append, List.cons_append]
  gi_wp2
  gi_loopw [5] (fun i wr => ∃ k : Nat, k ≤ 128 ∧ i = .int .i64 k ∧ J k wr ∧ Die wr p b h (far q k)) (fun i _ => 128 - (intOf i).toNat)
  case atStart => exact ⟨0, Nat.zero_le _, rfl, h0, hs⟩
  case round =>
    obtain ⟨k, hk, rfl, hj, d⟩ := hrel
    by_cases hlt : k < 128
    · have c0 := d.word
      have c1 := d.at
      have f1 := d.frozen 1
      unfold strm at c0
      have hmx : Try.prog.follows .mixedOrders = true := by kernel_rfl
      gi_wp2_with fail
      refine wpIn_wide.2 ?_
      refine wp_region_still_tail 8 hmx (by kernel_rfl) ?_
      simp only [List.take_succ_cons, List.take_zero, List.drop_succ_cons, List.drop_zero]
      repeat still_step
      try refine wpStill_nil ?_
      change wpList _ _ _ _ _ wr.drew
      obtain ⟨w1, hw1⟩ : ∃ w1, w1 = wr.drew := ⟨_, rfl⟩
      have B1 : Below wr.heap.size wr w1 := by rw [hw1]; exact (Below.refl _ _).drew
      rw [← hw1]
      clear hw1 c0 c1 f1
      have d1 := d.below B1 d.lt
      have hw := word_any h (far q k) b w1 d1.2.2
      have s1 := B1.size
      go_wp2_with fail
      refine hw.mono ?_
      rintro e W2 ⟨rfl, hB⟩
      clear hw
      have d2 := d1.below hB d1.lt
      have d3 := d2.seek (far q (k + 1))
      have B2 : But wr.heap.size p wr W2 := But.of_below (B1.trans (hB.mono s1)) (by have := d.lt; omega)
      have hj3 := hJ k wr _ hj (B2.trans (But.setCell wr.heap.size p 1 W2 (.int .i64 (far q (k + 1)))))
      obtain ⟨fn, tmps, assign, body, hy, hR⟩ := hY k _ hj3 d3 hlt
      have c1 := d2.at
      have f1 := d2.frozen 1
      rw [show far q (k + 1) = wrap64 (far q k + 1) from rfl] at hy hR
      have h1 : 1 ≤ n := by omega
      go_wp2_with fail
      gi_wp2_with fail
      refine hR.mono ?_
      rintro e W4 (⟨rfl, hj4, hk4⟩ | ⟨rfl, hx4⟩)
      · have d4 := d3.kept hk4.1 hk4.2
        gi_wp2
        go_roundw
        case rel => exact ⟨k + 1, by omega, by go_num, hj4, d4⟩
        case measure => simp [intOf]; omega
      · gi_wp2
        refine bodyPost_ret (results_none rfl _ _ _) rfl ?_
        exact ⟨⟨_, rfl⟩, .inr ⟨k, hlt, hx4⟩⟩
    · obtain rfl : k = 128 := by omega
      gi_wp2
      go_end0
      exact ⟨⟨_, rfl⟩, .inl ⟨hj, d⟩⟩
end Go.Proofs.Ytagjecbgbpjobaa
