/- What Commit, Opens, Hit and Verify answer, in the project and in the reference model. -/
import Derived.Test.YtagjecbgbpjobaaDref
namespace Go.Proofs.Ytagjecbgbpjobaa
open Go.RowKit Go.Shelf Hm Hb Dm Ds

def commitI (bs : List UInt8) : Int := bytesM [115, 101, 101, 100] bs
theorem commit_any (A : Option Addr) (m c : Nat) (bs : List UInt8) (hm : m ≤ 140737488351232) (hmc : m ≤ c) (w : World) (hr : Rd w w.heap.size A m (bs.map bv)) :
    Calls Try.prog 13 #[.slice A m c] w fun e W' => e = .returned (.int .u64 (commitI bs)) ∧ Below w.heap.size w W' := by
  go_enter Try.func13, Try.ntmps13
  go_wp2_with fail
  refine (bytes_any _ (by decide) A m c bs hm hmc w hr).mono ?_
  rintro e W1 ⟨rfl, hB⟩
  go_wp2_with fail
  go_ret
  exact ⟨rfl, hB⟩
theorem opens_any (x : Int) (A : Option Addr) (m c : Nat) (bs : List UInt8) (hm : m ≤ 140737488351232) (hmc : m ≤ c) (w : World) (hr : Rd w w.heap.size A m (bs.map bv)) :
    Calls Try.prog 14 #[.int .u64 x, .slice A m c] w fun e W' => e = .returned (.bool (x == commitI bs)) ∧ Below w.heap.size w W' := by
  go_enter Try.func14, Try.ntmps14
  go_wp2_with fail
  refine (commit_any A m c bs hm hmc w hr).mono ?_
  rintro e W1 ⟨rfl, hB⟩
  go_wp2_with fail
  go_ret
  exact ⟨rfl, hB⟩

/-- two results: a bool and an error -/
def boolErr (b : Bool) (e : Int) : Ending := .returned (.tuple #[.bool b, .int .i64 e])
theorem hit_arg {h num den p : Int} (k : num < 0 ∨ den < 1 ∨ num > den) : hit h num den p = (false, 1, p) := by unfold hit; rw [if_pos k]
theorem hit_ok {h num den p : Int} (k : ¬ (num < 0 ∨ den < 1 ∨ num > den)) (k0 : (roll h den p).2.1 = 0) : hit h num den p = (decide ((roll h den p).1 < num), 0, (roll h den p).2.2) := by
  unfold hit
  rw [if_neg k, k0]
  simp
theorem hit_no {h num den p : Int} (k : ¬ (num < 0 ∨ den < 1 ∨ num > den)) (k0 : (roll h den p).2.1 = 4) : hit h num den p = (false, 4, (roll h den p).2.2) := by
  unfold hit
  rw [if_neg k, k0]
  simp

set_option maxRecDepth 100000 in
set_option maxHeartbeats 2000000 in
theorem hit_any (num den : Int) (h1 : -9223372036854775808 ≤ num ∧ num ≤ 9223372036854775807) (h2 : -9223372036854775808 ≤ den ∧ den ≤ 9223372036854775807) (p b : Nat) (h q : Int) (w : World) (d : Die w p b h q) :
    Calls Try.prog 29 #[.pointer (some ⟨p, 0, none⟩), .int .i64 num, .int .i64 den] w fun e W' => e = boolErr (hit h num den q).1 (hit h num den q).2.1 ∧ Die W' p b h (hit h num den q).2.2 ∧ But w.heap.size p w W' := by
  by_cases hb : num < 0 ∨ den < 1 ∨ num > den
  · rw [hit_arg hb]
    by_cases k1 : num < 0
    · go_enter Try.func29, Try.ntmps29
      go_wp2_with fail
      go_ret2
      exact ⟨rfl, d, But.refl _ _ _⟩
    · by_cases k2 : den < 1
      · go_enter Try.func29, Try.ntmps29
        go_wp2_with fail
        go_ret2
        exact ⟨rfl, d, But.refl _ _ _⟩
      · have k3 : num > den := by omega
        clear hb
        go_enter Try.func29, Try.ntmps29
        go_wp2_with fail
        go_ret2
        exact ⟨rfl, d, But.refl _ _ _⟩
  · have hr := roll_any den h2 p b h q w d
    have g1 : ¬ num < 0 := by omega
    have g2 : ¬ den < 1 := by omega
    have g3 : ¬ num > den := by omega
    rcases roll_is h den q (by omega) with ⟨k0, k1, k2⟩ | ⟨k0, k1⟩
    · rw [hit_ok hb k0]
      rw [k0] at hr
      generalize roll h den q = R at *
      obtain ⟨x, e, q'⟩ := R
      simp only at k0 k1 k2 hr ⊢
      clear k0 hb
      go_enter Try.func29, Try.ntmps29
      go_wp2_with fail
      refine hr.mono ?_
      rintro e W' ⟨rfl, d', hB⟩
      unfold numErr
      clear hr
      go_wp2_with fail
      go_ret2
      exact ⟨rfl, d', hB⟩
    · rw [hit_no hb k0]
      rw [k0, k1] at hr
      generalize roll h den q = R at *
      obtain ⟨x, e, q'⟩ := R
      simp only at k0 k1 hr ⊢
      clear k0 k1 hb
      go_enter Try.func29, Try.ntmps29
      go_wp2_with fail
      refine hr.mono ?_
      rintro e W' ⟨rfl, d', hB⟩
      unfold numErr
      clear hr
      go_wp2_with fail
      go_ret2
      exact ⟨rfl, d', hB⟩

def verB (x : Int) (bs : List UInt8) (h n q r : Int) : Bool := (x == commitI bs) && ((roll h n q).2.1 == 0) && ((roll h n q).1 == r)
set_option maxRecDepth 100000 in
set_option maxHeartbeats 2000000 in
theorem rhit_any (num den : Int) (h1 : -9223372036854775808 ≤ num ∧ num ≤ 9223372036854775807) (h2 : -9223372036854775808 ≤ den ∧ den ≤ 9223372036854775807) (p : Nat) (A : Option Addr) (m c : Nat) (hm : m ≤ 140737488351232) (s : ByteArray) (hs : s.size ≤ 140737488351232) (bs : List UInt8) (h : Int) (hh : h = hashI s.data.toList bs) (q : Int) (w : World) (d : RDie w p A m c s bs q) :
    Calls Try.prog 30 #[.pointer (some ⟨p, 0, none⟩), .int .i64 num, .int .i64 den] w fun e W' => e = boolErr (hit h num den q).1 (hit h num den q).2.1 ∧ RDie W' p A m c s bs (hit h num den q).2.2 ∧ But w.heap.size p w W' := by
  by_cases hb : num < 0 ∨ den < 1 ∨ num > den
  · rw [hit_arg hb]
    by_cases k1 : num < 0
    · go_enter Try.func30, Try.ntmps30
      go_wp2_with fail
      go_ret2
      exact ⟨rfl, d, But.refl _ _ _⟩
    · by_cases k2 : den < 1
      · go_enter Try.func30, Try.ntmps30
        go_wp2_with fail
        go_ret2
        exact ⟨rfl, d, But.refl _ _ _⟩
      · have k3 : num > den := by omega
        clear hb
        go_enter Try.func30, Try.ntmps30
        go_wp2_with fail
        go_ret2
        exact ⟨rfl, d, But.refl _ _ _⟩
  · have hr := rroll_any den h2 p A m c hm s hs bs h hh q w d
    clear hh
    have g1 : ¬ num < 0 := by omega
    have g2 : ¬ den < 1 := by omega
    have g3 : ¬ num > den := by omega
    rcases roll_is h den q (by omega) with ⟨k0, k1, k2⟩ | ⟨k0, k1⟩
    · rw [hit_ok hb k0]
      rw [k0] at hr
      generalize roll h den q = R at *
      obtain ⟨x, e, q'⟩ := R
      simp only at k0 k1 k2 hr ⊢
      clear k0 hb
      go_enter Try.func30, Try.ntmps30
      go_wp2_with fail
      refine hr.mono ?_
      rintro e W' ⟨rfl, d', hB⟩
      unfold numErr
      clear hr
      go_wp2_with fail
      go_ret2
      exact ⟨rfl, d', hB⟩
    · rw [hit_no hb k0]
      rw [k0, k1] at hr
      generalize roll h den q = R at *
      obtain ⟨x, e, q'⟩ := R
      simp only at k0 k1 hr ⊢
      clear k0 k1 hb
      go_enter Try.func30, Try.ntmps30
      go_wp2_with fail
      refine hr.mono ?_
      rintro e W' ⟨rfl, d', hB⟩
      unfold numErr
      clear hr
      go_wp2_with fail
      go_ret2
      exact ⟨rfl, d', hB⟩

set_option maxRecDepth 100000 in
set_option maxHeartbeats 2000000 in
theorem verify_any (x : Int) (s : ByteArray) (hs : s.size ≤ 140737488351232) (A : Option Addr) (m c : Nat) (bs : List UInt8) (hm : m ≤ 140737488351232) (hmc : m ≤ c) (q n r : Int) (hn : -9223372036854775808 ≤ n ∧ n ≤ 9223372036854775807) (w : World) (hr : Rd w w.heap.size A m (bs.map bv)) :
    Calls Try.prog 40 #[.int .u64 x, .slice A m c, .string s, .int .i64 q, .int .i64 n, .int .i64 r] w fun e W' => e = .returned (.bool (verB x bs (hashI s.data.toList bs) n q r)) ∧ Below w.heap.size w W' := by
  obtain ⟨R, hR⟩ : ∃ R, R = roll (hashI s.data.toList bs) n q := ⟨_, rfl⟩
  unfold verB
  rw [← hR]
  have HR := Lib.hid hR
  clear hR
  obtain ⟨y, z, q'⟩ := R
  simp only
  go_enter Try.func40, Try.ntmps40
  go_wp2_with fail
  refine (new_any s hs A m c bs hm hmc w hr).mono ?_
  rintro e W1 ⟨p, b, rfl, hb, hs1, d, hB⟩
  have s1 := hB.size
  have lt1 := d.lt
  have lb1 := d.1
  go_wp2_with fail
  refine (seek_any q W1 d).mono ?_
  rintro e W2 ⟨⟨v, rfl⟩, d2, hB2⟩
  have B2 : Below w.heap.size w W2 := hB.trans (hB2.low.mono (by omega))
  have s2 := B2.size
  clear hB hB2 d
  go_wp2_with fail
  have hr3 := roll_any n hn p b _ q W2 d2
  rw [← HR.out] at hr3
  simp only at hr3
  refine hr3.mono ?_
  rintro e W3 ⟨rfl, d3, hB3⟩
  have B3 : Below w.heap.size w W3 := B2.trans (hB3.low.mono (by omega))
  have s3 := B3.size
  unfold numErr
  clear hr3 hB3 d3 d2 B2
  go_wp2_with fail
  refine (opens_any x A m c bs hm hmc W3 (hr.later B3 s3)).mono ?_
  rintro e W4 ⟨rfl, hB4⟩
  have B4 := B3.trans (hB4.mono s3)
  by_cases k1 : x = commitI bs
  · have e1 : (x == commitI bs) = true := beq_iff_eq.2 k1
    rw [e1]
    by_cases k2 : z = 0
    · have e2 : (z == 0) = true := beq_iff_eq.2 k2
      clear k1 k2
      go_wp2_with fail
      go_ret
      exact ⟨ret_bool (by simp [e1, e2]), B4⟩
    · have e2 : (z == 0) = false := beq_eq_false_iff_ne.2 k2
      clear k1 k2
      go_wp2_with fail
      go_ret
      exact ⟨ret_bool (by simp [e1, e2]), B4⟩
  · have e1 : (x == commitI bs) = false := beq_eq_false_iff_ne.2 k1
    rw [e1]
    clear k1
    go_wp2_with fail
    go_ret
    exact ⟨ret_bool (by simp [e1]), B4⟩

set_option maxRecDepth 100000 in
set_option maxHeartbeats 2000000 in
theorem rverify_any (x : Int) (s : ByteArray) (hs : s.size ≤ 140737488351232) (A : Option Addr) (m c : Nat) (bs : List UInt8) (hm : m ≤ 140737488351232) (q n r : Int) (hn : -9223372036854775808 ≤ n ∧ n ≤ 9223372036854775807) (w : World) (hr : Rd w w.heap.size A m (bs.map bv)) :
    Calls Try.prog 41 #[.int .u64 x, .slice A m c, .string s, .int .i64 q, .int .i64 n, .int .i64 r] w fun e W' => e = .returned (.bool (verB x bs (hashI s.data.toList bs) n q r)) ∧ Below w.heap.size w W' := by
  have d : RDie (w.alloc (.cells #[.slice A m c, .string s, .int .i64 q] 46)) w.heap.size A m c s bs q := ⟨World.alloc_heap_new w _, hr.below ((Below.refl _ w).alloc (Nat.le_refl _) _)⟩
  have B1 : Below w.heap.size w (w.alloc (.cells #[.slice A m c, .string s, .int .i64 q] 46)) := (Below.refl _ w).alloc (Nat.le_refl _) _
  have s1 : (w.alloc (.cells #[.slice A m c, .string s, .int .i64 q] 46)).heap.size = w.heap.size + 1 := by simp
  have hr3 := rroll_any n hn w.heap.size A m c hm s hs bs _ rfl q _ d
  obtain ⟨R, hR⟩ : ∃ R, R = roll (hashI s.data.toList bs) n q := ⟨_, rfl⟩
  unfold verB
  rw [← hR]
  have HR := Lib.hid hR
  clear hR
  obtain ⟨y, z, q'⟩ := R
  simp only
  go_enter Try.func41, Try.ntmps41
  go_wp2_with fail
  rw [← HR.out] at hr3
  simp only at hr3
  refine hr3.mono ?_
  rintro e W3 ⟨rfl, d3, hB3⟩
  have B3 : Below w.heap.size w W3 := B1.trans (hB3.low.mono (by omega))
  have s3 := B3.size
  unfold numErr
  clear hr3 hB3 d3 d B1
  go_wp2_with fail
  refine (rcommit_any A m c bs hm W3 (hr.later B3 s3)).mono ?_
  rintro e W4 ⟨rfl, hB4⟩
  have B4 := B3.trans (hB4.mono s3)
  rw [show bytesM [115, 101, 101, 100] bs = commitI bs from rfl]
  by_cases k1 : commitI bs = x
  · have e1 : (commitI bs == x) = true := beq_iff_eq.2 k1
    have e1' : (x == commitI bs) = true := beq_iff_eq.2 k1.symm
    by_cases k2 : z = 0
    · have e2 : (z == 0) = true := beq_iff_eq.2 k2
      clear k1 k2
      go_wp2_with fail
      go_ret
      exact ⟨ret_bool (by simp [e1', e2]), B4⟩
    · have e2 : (z == 0) = false := beq_eq_false_iff_ne.2 k2
      clear k1 k2
      go_wp2_with fail
      go_ret
      exact ⟨ret_bool (by simp [e1', e2]), B4⟩
  · have e1 : (commitI bs == x) = false := beq_eq_false_iff_ne.2 k1
    have e1' : (x == commitI bs) = false := beq_eq_false_iff_ne.2 (fun e => k1 e.symm)
    clear k1
    go_wp2_with fail
    go_ret
    exact ⟨ret_bool (by simp [e1']), B4⟩
end Go.Proofs.Ytagjecbgbpjobaa
