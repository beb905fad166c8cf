/- What the reference model's Commit, Word, Sides and Roll answer. -/
import Derived.Test.YtagjecbgbpjobaaDlives
import Derived.Test.YtagjecbgbpjobaaHreft
import Derived.Test.YtagjecbgbpjobaaHrefsum
namespace Go.Proofs.Ytagjecbgbpjobaa
open Go.RowKit Go.Shelf Hm Hb Dm Ds

set_option maxRecDepth 100000 in
set_option maxHeartbeats 1000000 in
theorem rword_any (s : ByteArray) (hs : s.size ≤ 140737488351232) (A : Option Addr) (m c : Nat) (bs : List UInt8) (hm : m ≤ 140737488351232) (p : Int) (w : World) (hr : Rd w w.heap.size A m (bs.map bv)) :
    Calls Try.prog 21 #[.slice A m c, .string s, .int .i64 p] w fun e W' => e = .returned (.int .u64 (wordI (hashI s.data.toList bs) p)) ∧ Below w.heap.size w W' := by
  go_enter Try.func21, Try.ntmps21
  go_wp2_with fail
  refine (rbytes_any s hs A m c bs hm w hr).mono ?_
  rintro e W1 ⟨rfl, hB⟩
  have s1 := hB.size
  obtain ⟨v, hv⟩ : ∃ v, v = bytesM s.data.toList bs := ⟨_, rfl⟩
  have bx := (boxed_rds W1 [iv (wrap64 v), iv p] 3).mono (B' := (W1.alloc (.cells #[.int .i64 (wrap64 v), .int .i64 p] 3)).heap.size) (by simp)
  rw [← hv]
  have HV := Lib.hid hv
  clear hv
  go_wp2_with fail
  refine (rsum_any _ (by decide) _ 2 _ [wrap64 v, p] (by omega) _ bx).mono ?_
  rintro e W2 ⟨rfl, hB2⟩
  go_wp2_with fail
  go_ret
  exact ⟨ret_u64 (by rw [HV.out]; rfl), (hB.alloc s1 _).trans (hB2.mono (by simp; omega))⟩

theorem rcommit_any (A : Option Addr) (m c : Nat) (bs : List UInt8) (hm : m ≤ 140737488351232) (w : World) (hr : Rd w w.heap.size A m (bs.map bv)) :
    Calls Try.prog 12 #[.slice A m c] w fun e W' => e = .returned (.int .u64 (bytesM [115, 101, 101, 100] bs)) ∧ Below w.heap.size w W' := by
  go_enter Try.func12, Try.ntmps12
  go_wp2_with fail
  refine (rbytes_any _ (by decide) A m c bs hm w hr).mono ?_
  rintro e W1 ⟨rfl, hB⟩
  go_wp2_with fail
  go_ret
  exact ⟨rfl, hB⟩

set_option maxRecDepth 100000 in
set_option maxHeartbeats 2000000 in
/-- a number of results that is one: from 1 to less than 2^62 -/
theorem sides_t (n : Int) (hn : (Lit.int .i64 n).wf = true) (w : World) :
    Calls Try.prog 23 #[.int .i64 n] w fun e w' => (∃ k : Int, e = .returned (.int .i64 k) ∧ 1 ≤ k ∧ k ≤ 4611686018427387904) ∧ w = w' := by
  go_enter Try.func23, Try.ntmps23
  go_wp2_with fail
  refine (around_t n 400 _ rfl hn (by omega) w).mono ?_
  rintro e w' ⟨⟨k, rfl, hk⟩, rfl⟩
  by_cases h1 : k < 100
  · go_wp2_with fail
    go_ret
    exact ⟨⟨_, rfl, by omega, by omega⟩, rfl⟩
  · go_wp2_with fail
    go_loop [4, 5] (fun p i => ∃ j : Nat, (j : Int) ≤ (k : Int) % 61 + 1 ∧ i = .int .i64 j ∧ p = .int .i64 ((2 ^ j : Nat) : Int)) (fun _ i => ((k : Int) % 61 + 1 - intOf i).toNat)
    case atStart => exact ⟨0, by omega, rfl, rfl⟩
    case round =>
      obtain ⟨j, hj, rfl, rfl⟩ := hrel
      have hp : 2 ^ j ≤ 2305843009213693952 := Nat.le_trans (Nat.pow_le_pow_right (j := 61) (by omega) (by omega)) (by decide)
      have h0 : 1 ≤ 2 ^ j := Nat.one_le_two_pow
      by_cases hlt : (j : Int) < (k : Int) % 61 + 1
      · have hs : 2 ^ (j + 1) = 2 * 2 ^ j := by rw [Nat.pow_succ]; omega
        have hp2 : 2 ^ (j + 1) ≤ 2305843009213693952 := Nat.le_trans (Nat.pow_le_pow_right (j := 61) (by omega) (by omega)) (by decide)
        obtain ⟨P, hP⟩ : ∃ P, P = 2 ^ j := ⟨_, rfl⟩
        rw [← hP] at hp h0 hs ⊢
        rw [hs] at hp2
        have HS := Lib.hid hs
        clear hs hP
        go_wp2_with fail
        go_round
        case rel => exact ⟨j + 1, by omega, by go_num, by rw [HS.out]; go_num⟩
        case measure => simp [intOf]; omega
      · obtain ⟨P, hP⟩ : ∃ P, P = 2 ^ j := ⟨_, rfl⟩
        have h2 : 2 ≤ P := by
          rw [hP]
          have : 2 ^ 1 ≤ 2 ^ j := Nat.pow_le_pow_right (by omega) (by omega)
          omega
        rw [← hP] at hp h0 ⊢
        clear hP
        go_wp2_with fail
        all_goals
          go_ret
          exact ⟨⟨_, rfl, by omega, by omega⟩, rfl⟩

/-- a die of the reference model: its block, its seed and label, the number that they lead to, its position -/
def RDie (W : World) (p : Nat) (A : Option Addr) (m c : Nat) (s : ByteArray) (bs : List UInt8) (q : Int) : Prop :=
  W.heap[p]? = some (.cells #[.slice A m c, .string s, .int .i64 q] 46 (0, 0)) ∧ Rd W p A m (bs.map bv)
section
variable {W W' : World} {p m c : Nat} {A : Option Addr} {s : ByteArray} {bs : List UInt8} {q : Int}
theorem RDie.lt (d : RDie W p A m c s bs q) : p < W.heap.size := (Array.getElem?_eq_some_iff.1 d.1).1
theorem RDie.below {B : Nat} (d : RDie W p A m c s bs q) (k : Below B W W') (hB : p < B) : RDie W' p A m c s bs q := ⟨(k.block p hB).trans d.1, d.2.below (k.mono (by omega))⟩
theorem RDie.but {B r : Nat} (d : RDie W p A m c s bs q) (k : But B r W W') (hB : p < B) (hp : p < r) : RDie W' p A m c s bs q := ⟨(k.block hB (by omega)).trans d.1, d.2.below (k.low.mono (by omega))⟩
theorem RDie.seed (d : RDie W p A m c s bs q) : W.cell? ⟨p, 0, none⟩ = some (.slice A m c) := by simp [World.cell?, d.1]
theorem RDie.label (d : RDie W p A m c s bs q) : W.cell? ⟨p, 1, none⟩ = some (.string s) := by simp [World.cell?, d.1]
theorem RDie.at (d : RDie W p A m c s bs q) : W.cell? ⟨p, 2, none⟩ = some (.int .i64 q) := by simp [World.cell?, d.1]
theorem RDie.frozen (d : RDie W p A m c s bs q) (k : Nat) : W.frozen? ⟨p, k, none⟩ = false := by simp [World.frozen?, d.1]
theorem RDie.seek (d : RDie W p A m c s bs q) (q' : Int) : RDie (W.setCell ⟨p, 2, none⟩ (.int .i64 q')) p A m c s bs q' := by
  refine ⟨?_, d.2.below ((Below.refl p W).setCell (p := ⟨p, 2, none⟩) (Nat.le_refl _) _)⟩
  simp [World.setCell, Array.getElem?_modify, d.1]
end

set_option maxRecDepth 100000 in
set_option maxHeartbeats 2000000 in
theorem rroll_any (n : Int) (hn : -9223372036854775808 ≤ n ∧ n ≤ 9223372036854775807) (p : Nat) (A : Option Addr) (m c : Nat) (hm : m ≤ 140737488351232) (s : ByteArray) (hs : s.size ≤ 140737488351232) (bs : List UInt8) (h : Int) (hh : h = hashI s.data.toList bs) (q : Int) (w : World) (d : RDie w p A m c s bs q) :
    Calls Try.prog 28 #[.pointer (some ⟨p, 0, none⟩), .int .i64 n] w fun e W' => e = numErr (roll h n q).1 (roll h n q).2.1 ∧ RDie W' p A m c s bs (roll h n q).2.2 ∧ But w.heap.size p w W' := by
  have hp := d.lt
  have HH := Lib.hid hh
  clear hh
  have hmx : Try.prog.follows .mixedOrders = true := by kernel_rfl
  by_cases h1 : 1 ≤ n
  · go_enter Try.func28, Try.ntmps28
    go_wp2_with fail
    go_loopw [6] (fun i wr => ∃ k : Nat, k ≤ 128 ∧ i = .int .i64 k ∧ RDie wr p A m c s bs (far q k) ∧ But w.heap.size p w wr ∧ ∀ j, j < k → acc (wordI h (far q j)) n = false) (fun i _ => 128 - (intOf i).toNat)
    case atStart => exact ⟨0, by omega, rfl, d, But.refl _ _ _, fun j hj => absurd hj (by omega)⟩
    case round =>
      obtain ⟨k, hk, rfl, dk, hb, hno⟩ := hrel
      have HNO := Lib.hid hno
      clear hno
      by_cases hlt : k < 128
      · have c0 := dk.seed
        have c1 := dk.label
        have c2 := dk.at
        go_wp2_with fail
        refine wp_region_still_tail 12 hmx (by kernel_rfl) ?_
        simp only [List.take_succ_cons, List.take_zero, List.drop_succ_cons, List.drop_zero]
        repeat still_step
        try refine wpStill_nil ?_
        change wpList _ _ _ _ _ wr.drew
        obtain ⟨w1, hw1⟩ : ∃ w1, w1 = wr.drew := ⟨_, rfl⟩
        have B1 : Below wr.heap.size wr w1 := by rw [hw1]; exact (Below.refl _ _).drew
        rw [← hw1]
        clear hw1 c0 c1 c2
        have s1 := B1.size
        have lk := dk.lt
        have d1 := dk.below B1 lk
        go_wp2_with fail
        refine (rword_any s hs A m c bs hm (far q k) w1 (d1.2.mono (by omega))).mono ?_
        rintro e W2 ⟨rfl, hB⟩
        rw [← HH.out]
        have d2 := d1.below hB (by omega)
        have c2 := d2.at
        have f2 := d2.frozen 2
        have d3 := d2.seek (far q (k + 1))
        have b3 : But w.heap.size p w (W2.setCell ⟨p, 2, none⟩ (.int .i64 (far q (k + 1)))) := ((hb.trans ((But.of_below (B1.trans (hB.mono s1)) (by omega)).mono hb.size))).trans (But.setCell _ _ _ _ _)
        clear hB B1 d1 dk
        rw [show far q (k + 1) = wrap64 (far q k + 1) from rfl] at d3 b3
        have hw := wordI_range h (far q k)
        by_cases ha : acc (wordI h (far q k)) n = true
        · have hr := rreduce_any (wordI h (far q k)) n hw hn (W2.setCell ⟨p, 2, none⟩ (.int .i64 (wrap64 (far q k + 1))))
          rw [redR_in h1 ha] at hr
          have HA := Lib.hid (roll_hit h n q k h1 hlt HNO.out ha)
          clear ha
          go_wp2_with fail
          refine hr.mono ?_
          rintro e W4 ⟨rfl, rfl⟩
          clear hr
          go_wp2_with fail
          go_ret2
          rw [HA.out]
          exact ⟨rfl, d3, b3⟩
        · have ha' : acc (wordI h (far q k)) n = false := by simpa using ha
          have hr := rreduce_any (wordI h (far q k)) n hw hn (W2.setCell ⟨p, 2, none⟩ (.int .i64 (wrap64 (far q k + 1))))
          rw [redR_out ha'] at hr
          have HA := Lib.hid ha'
          clear ha ha'
          go_wp2_with fail
          refine hr.mono ?_
          rintro e W4 ⟨rfl, rfl⟩
          clear hr
          go_wp2_with fail
          go_roundw
          case rel =>
            refine ⟨k + 1, by omega, by go_num, d3, b3, fun j hj => ?_⟩
            by_cases hjk : j < k
            · exact HNO.out j hjk
            · obtain rfl : j = k := by omega
              exact HA.out
          case measure => simp [intOf]; omega
      · obtain rfl : k = 128 := by omega
        go_wp2_with fail
        go_ret2
        rw [roll_miss h n q h1 HNO.out]
        exact ⟨rfl, dk, hb⟩
  · rw [roll_arg h n q (by omega)]
    go_enter Try.func28, Try.ntmps28
    go_wp2_with fail
    go_ret2
    exact ⟨rfl, d, But.refl _ _ _⟩
end Go.Proofs.Ytagjecbgbpjobaa
