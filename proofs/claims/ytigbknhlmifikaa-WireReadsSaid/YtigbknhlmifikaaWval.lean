/- A value of the reference model in memory, and writing it. -/
import Derived.Test.YtigbknhlmifikaaWlives
namespace Go.Proofs.Ytigbknhlmifikaa
open Go.RowKit Hb Wm

/-- the five cells of a value -/
structure RV where
  k : Int
  u : Int
  n : Int
  A : Option Addr
  m : Nat
  c : Nat
  A' : Option Addr
  m' : Nat
  c' : Nat
def RV.cells (r : RV) : List Value := [.int .i64 r.k, .int .u64 r.u, .int .i64 r.n, .slice r.A r.m r.c, .slice r.A' r.m' r.c']
/-- the cells of a value in memory below block B -/
structure RvOk (w : World) (B : Nat) (r : RV) (v : VV) : Prop where
  k : r.k = (v.k : Int)
  u : r.u = (v.u : Int)
  n : r.n = v.n
  b : Rd w B r.A r.m (v.b.map bv)
  l : Rd w B r.A' r.m' (v.l.map iv)
  mc : r.m ≤ r.c
  c : r.c ≤ maxLen
  mc' : r.m' ≤ r.c'
  c' : r.c' ≤ maxLen
theorem RvOk.below {w W : World} {B B' : Nat} {r : RV} {v : VV} (h : RvOk w B r v) (hb : Below B w W) (hB : B ≤ B') : RvOk W B' r v :=
  ⟨h.k, h.u, h.n, h.b.later hb hB, h.l.later hb hB, h.mc, h.c, h.mc', h.c'⟩
structure _root_.Go.Proofs.Ytigbknhlmifikaa.Wm.VV.ok (v : VV) : Prop where
  k : v.k ≤ 5
  u : v.u < 18446744073709551616
  n : -9223372036854775808 ≤ v.n ∧ v.n ≤ 9223372036854775807
  b : v.b.length ≤ 1000
  l : v.l.length ≤ 1000
  ll : ∀ y ∈ v.l, -9223372036854775808 ≤ y ∧ y ≤ 9223372036854775807

set_option maxRecDepth 100000 in
set_option maxHeartbeats 2000000 in
theorem write_any (p : Nat) (r : RV) (v : VV) (hv : v.ok) (xs : List UInt8) (hx : xs.length ≤ 700000) (w : World) (h : Wr w p xs) (hr : RvOk w p r v) :
    Calls Try.prog 14 #[.pointer (some ⟨p, 0, none⟩), .agg #[.int .i64 r.k, .int .u64 r.u, .int .i64 r.n, .slice r.A r.m r.c, .slice r.A' r.m' r.c']] w fun e W => e = .returned (.tuple #[]) ∧ Wr W p (xs ++ enc v) ∧ Below p w W := by
  obtain ⟨hk, hu, hn, hb, hl, h1, h2, h3, h4⟩ := hr
  obtain ⟨g1, g2, g3, g4, g5, g6⟩ := hv
  obtain ⟨rk, ru', rn, A, m, c, A', m', c'⟩ := r
  obtain ⟨k, u, n, bs, ls⟩ := v
  simp only at *
  subst hk hu hn
  have hbl : bs.length = m := by simpa using hb.1
  have hll : ls.length = m' := by simpa using hl.1
  have HB := Lib.hid hbl
  have HL := Lib.hid hll
  have HG6 := Lib.hid g6
  have hplt := h.lt
  have BA : ∀ o, Below p w (w.alloc o) := fun o => (Below.refl p w).alloc (Nat.le_of_lt hplt) o
  have HA := Lib.hid BA
  have hm1 : m ≤ 1000 := by omega
  have hm2 : m' ≤ 1000 := by omega
  clear g6 hbl hll BA g4 g5
  unfold maxLen at h2 h4
  have hW1 := fun o => h.below ((Below.refl w.heap.size w).alloc (Nat.le_refl _) o) (Nat.le_refl _)
  have HW := Lib.hid hW1
  clear hW1
  by_cases k0 : k = 0
  · subst k0
    go_enter Try.func14, Try.ntmps14
    go_wp2_with fail
    refine (w_uint p u _ rfl xs g2 (by omega) _ (HW.out _)).mono ?_
    rintro e W ⟨rfl, hW, hB⟩
    go_wp2_with fail
    go_end0
    exact ⟨rfl, hW, (HA.out _).trans hB⟩
  by_cases k1 : k = 1
  · subst k1
    go_enter Try.func14, Try.ntmps14
    go_wp2_with fail
    refine (w_int p rn xs g3.1 g3.2 (by omega) _ (HW.out _)).mono ?_
    rintro e W ⟨rfl, hW, hB⟩
    go_wp2_with fail
    go_end0
    exact ⟨rfl, hW, (HA.out _).trans hB⟩
  by_cases k2 : k = 2
  · subst k2
    go_enter Try.func14, Try.ntmps14
    go_wp2_with fail
    refine (w_bool p _ xs (by omega) _ (HW.out _)).mono ?_
    rintro e W ⟨rfl, hW, hB⟩
    go_wp2_with fail
    go_end0
    have e2 : enc ⟨2, u, rn, bs, ls⟩ = [if (rn == 1) = true then 1 else 0] := by simp [enc]
    rw [e2]
    exact ⟨rfl, hW, (HA.out _).trans hB⟩
  by_cases k3 : k = 3
  · subst k3
    go_enter Try.func14, Try.ntmps14
    have hconv := fun o => conv_rd (P := Try.prog) (w.alloc o) 24 5 Try.underlying24 Try.underlying5 9 Try.underlying9 A m c _ _ (hb.below (HA.out o))
    go_wp2_with fail
    refine (w_text p _ xs (by show bs.toArray.size ≤ _; simp [HB.out]; omega) (by omega) _ (HW.out _)).mono ?_
    rintro e W ⟨rfl, hW, hB⟩
    go_wp2_with fail
    go_end0
    have e2 : enc ⟨3, u, rn, bs, ls⟩ = vu (ByteArray.mk bs.toArray).size ++ (ByteArray.mk bs.toArray).data.toList := by simp [enc, ByteArray.size]
    rw [e2]
    exact ⟨rfl, hW, (HA.out _).trans hB⟩
  by_cases k4 : k = 4
  · subst k4
    go_enter Try.func14, Try.ntmps14
    go_wp2_with fail
    refine (w_raw p A m c bs xs (by omega) (by omega) _ (HW.out _) (hb.below (HA.out _))).mono ?_
    rintro e W ⟨rfl, hW, hB⟩
    go_wp2_with fail
    go_end0
    have e2 : enc ⟨4, u, rn, bs, ls⟩ = vu m ++ bs := by simp [enc, HB.out]
    rw [e2]
    exact ⟨rfl, hW, (HA.out _).trans hB⟩
  · obtain rfl : k = 5 := by omega
    go_enter Try.func14, Try.ntmps14
    go_wp2_with fail
    refine (w_ints p A' m' c' ls xs (by omega) HG6.out (by omega) _ (HW.out _) (hl.below (HA.out _))).mono ?_
    rintro e W ⟨rfl, hW, hB⟩
    go_wp2_with fail
    go_end0
    have e2 : enc ⟨5, u, rn, bs, ls⟩ = vu m' ++ encI ls := by simp [enc, HL.out]
    rw [e2]
    exact ⟨rfl, hW, (HA.out _).trans hB⟩
end Go.Proofs.Ytigbknhlmifikaa
