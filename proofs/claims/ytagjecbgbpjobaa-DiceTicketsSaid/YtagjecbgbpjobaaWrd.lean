/- What the methods of a Reader do: each reads one value, or records the error. -/
import Derived.Test.YtagjecbgbpjobaaWbits
import Derived.Test.YtagjecbgbpjobaaWbox
import Derived.Test.YtagjecbgbpjobaaHquiet
import Derived.Outline
namespace Go.Proofs.Ytagjecbgbpjobaa
open Go.RowKit Hb Wm

/-- the reader in block p: its error, and the bytes that are left, out of a block of which Q holds -/
def Rr (W : World) (p : Nat) (Q : Nat → Prop) (s : St) : Prop :=
  (∀ k, Q k → k < W.heap.size ∧ k ≠ p) ∧ (s.1 ≠ 0 → s.2 = []) ∧ ∃ A n c, Box2 W p 92 (.slice A n c) (.int .i64 (s.1 : Int)) ∧ Rq W Q A n (s.2.map bv) ∧ n ≤ c ∧ c ≤ maxLen
theorem Rr.lt {W : World} {p : Nat} {Q : Nat → Prop} {s : St} (h : Rr W p Q s) : p < W.heap.size := by
  obtain ⟨_, _, A, n, c, hb, _⟩ := h
  exact hb.lt
theorem Rr.grown {W W' : World} {p q : Nat} {Q : Nat → Prop} {s : St} (h : Rr W p Q s) (hg : W.grownBy W' (some q)) (hQ : ∀ k, Q k → k ≠ q) (hpq : p ≠ q) : Rr W' p Q s := by
  obtain ⟨h1, h2, A, n, c, hb, hr, h3⟩ := h
  exact ⟨fun k hk => ⟨Nat.lt_of_lt_of_le (h1 k hk).1 hg.size, (h1 k hk).2⟩, h2, A, n, c, hb.kept hg (by simpa using hpq), hr.grown hg fun k hk => ⟨(h1 k hk).1, hQ k hk⟩, h3⟩
theorem Rr.below {W W' : World} {p B : Nat} {Q : Nat → Prop} {s : St} (h : Rr W p Q s) (hg : Below B W W') (hB : W.heap.size ≤ B) : Rr W' p Q s := by
  obtain ⟨h1, h2, A, n, c, hb, hr, h3⟩ := h
  have hp := hb.lt
  exact ⟨fun k hk => ⟨Nat.lt_of_lt_of_le (h1 k hk).1 hg.size, (h1 k hk).2⟩, h2, A, n, c, hb.below hg (by omega), hr.below hg fun k hk => by have := (h1 k hk).1; omega, h3⟩

theorem r_fail (p : Nat) (Q : Nat → Prop) (bs : List UInt8) (e : Nat) (E : Int) (hE : E = (e : Int)) (w : World) (h : Rr w p Q (0, bs)) :
    Calls Try.prog 73 #[.pointer (some ⟨p, 0, none⟩), .int .i64 E] w fun x W => x = .returned (.tuple #[]) ∧ Rr W p Q (e, []) ∧ w.grownBy W (some p) := by
  subst hE
  obtain ⟨h1, h2, A, n, c, hb, hr, h3, h4⟩ := h
  have c0 := hb.cell0
  have c1 := hb.cell1
  have f1 := hb.fz1
  have f0 := hb.fz0
  have hlt := hb.lt
  clear h2
  go_enter Try.func73, Try.ntmps73
  go_wp2
  go_end0
  refine ⟨rfl, ?_, grown_trans (grown_set w p 1 _) (grown_set _ p 0 _)⟩
  exact ⟨fun k hk => ⟨by simpa [World.setCell] using (h1 k hk).1, (h1 k hk).2⟩, fun _ => rfl, none, 0, 0, (hb.set1 _).set0 _, Rq.nil _ _ _, Nat.le_refl _, Nat.zero_le _⟩
theorem r_fail_no (p : Nat) (Q : Nat → Prop) (s : St) (hs : s.1 ≠ 0) (E : Int) (w : World) (h : Rr w p Q s) :
    Calls Try.prog 73 #[.pointer (some ⟨p, 0, none⟩), .int .i64 E] w fun x W => x = .returned (.tuple #[]) ∧ w = W := by
  obtain ⟨h1, h2, A, n, c, hb, hr, h3, h4⟩ := h
  have c1 := hb.cell1
  have hlt := hb.lt
  have hd : (((s.1 : Nat) : Int) == 0) = false := by simp; omega
  go_enter Try.func73, Try.ntmps73
  go_wp2
  go_end0
  exact ⟨rfl, rfl⟩

set_option maxRecDepth 100000 in
set_option maxHeartbeats 1000000 in
theorem r_next_more (p : Nat) (Q : Nat → Prop) (w : World) (h : Rr w p Q (0, [])) :
    Calls Try.prog 65 #[.pointer (some ⟨p, 0, none⟩)] w fun x W => x = .returned (.int .u8 0) ∧ Rr W p Q (3, []) ∧ w.grownBy W (some p) := by
  have h' := h
  obtain ⟨h1, h2, A, n, c, hb, hr, h3, h4⟩ := h
  obtain rfl : n = 0 := by simpa using hr.1.symm
  have c0 := hb.cell0
  have hlt := hb.lt
  go_enter Try.func65, Try.ntmps65
  go_wp2_with fail
  refine (r_fail p Q [] 3 _ rfl w h').mono ?_
  rintro e W ⟨rfl, hR, hG⟩
  go_wp2_with fail
  go_ret
  exact ⟨rfl, hR, hG⟩
set_option maxRecDepth 100000 in
set_option maxHeartbeats 1000000 in
theorem r_next_no (p : Nat) (Q : Nat → Prop) (e : Nat) (he : e ≠ 0) (w : World) (h : Rr w p Q (e, [])) :
    Calls Try.prog 65 #[.pointer (some ⟨p, 0, none⟩)] w fun x W => x = .returned (.int .u8 0) ∧ w = W := by
  have h' := h
  obtain ⟨h1, h2, A, n, c, hb, hr, h3, h4⟩ := h
  obtain rfl : n = 0 := by simpa using hr.1.symm
  have c0 := hb.cell0
  have hlt := hb.lt
  go_enter Try.func65, Try.ntmps65
  go_wp2_with fail
  refine (r_fail_no p Q (e, []) he _ w h').mono ?_
  rintro e W ⟨rfl, rfl⟩
  go_wp2_with fail
  go_ret
  exact ⟨rfl, rfl⟩
set_option maxRecDepth 100000 in
set_option maxHeartbeats 1000000 in
theorem r_next (p : Nat) (Q : Nat → Prop) (b : UInt8) (bs : List UInt8) (w : World) (h : Rr w p Q (0, b :: bs)) :
    Calls Try.prog 65 #[.pointer (some ⟨p, 0, none⟩)] w fun x W => x = .returned (.int .u8 (b.toNat : Int)) ∧ Rr W p Q (0, bs) ∧ w.grownBy W (some p) := by
  obtain ⟨h1, h2, A, n, c, hb, hr, h3, h4⟩ := h
  obtain ⟨m, rfl⟩ : ∃ m, n = m + 1 := ⟨bs.length, by simpa using hr.1.symm⟩
  obtain ⟨a, rfl, ha⟩ := Rq.head (x := bv b) (xs := bs.map bv) hr
  have ht := fun A' hA => Rq.tail (x := bv b) (xs := bs.map bv) hr A' hA
  have c0 := hb.cell0
  have f0 := hb.fz0
  have hlt := hb.lt
  unfold bv at ha
  unfold maxLen at h4
  have h2' := h2
  clear h2 hr
  by_cases hc : c = 1
  · subst hc
    have hq : Rq w Q (some a) 0 (bs.map bv) := by
      have := ht (some a) (.inr (by omega))
      rwa [show m + 1 - 1 = 0 from by omega] at this
    go_enter Try.func65, Try.ntmps65
    go_wp2
    go_ret
    exact ⟨rfl, ⟨fun k hk => ⟨by simpa [World.setCell] using (h1 k hk).1, (h1 k hk).2⟩, fun _ => by simp at *, _, _, _, hb.set0 _, hq.grown (grown_set _ _ _ _) h1, by omega, by unfold maxLen; omega⟩, grown_set _ _ _ _⟩
  · go_enter Try.func65, Try.ntmps65
    go_wp2
    go_ret
    exact ⟨rfl, ⟨fun k hk => ⟨by simpa [World.setCell] using (h1 k hk).1, (h1 k hk).2⟩, fun _ => by simp at *, _, _, _, hb.set0 _, (ht _ (.inl rfl)).grown (grown_set _ _ _ _) h1, by omega, by unfold maxLen; omega⟩, grown_set _ _ _ _⟩

def Link (bs0 : List UInt8) (i acc : Nat) (bs : List UInt8) : Prop := ru 0 bs0 = if (ru i bs).1 = 0 then (0, acc + 128 ^ i * (ru i bs).2.1, (ru i bs).2.2) else ((ru i bs).1, 0, [])
theorem Link.start (bs : List UInt8) : Link bs 0 0 bs := by
  unfold Link
  by_cases h : (ru 0 bs).1 = 0
  · rw [if_pos h, Nat.pow_zero, Nat.one_mul, Nat.zero_add]; exact Prod.ext h rfl
  · rw [if_neg h]; exact ru_err bs 0 h
theorem Link.nil {bs0 : List UInt8} {i acc : Nat} (h : Link bs0 i acc []) : ru 0 bs0 = (3, 0, []) := h
theorem Link.bad {bs0 : List UInt8} {i acc : Nat} {c : UInt8} {cs : List UInt8} (h : Link bs0 i acc (c :: cs)) (hb : (i = 9 ∧ 1 < c.toNat) ∨ (0 < i ∧ c.toNat = 0)) : ru 0 bs0 = (2, 0, []) := by
  unfold Link at h; rw [ru_bad hb] at h; exact h
theorem Link.last {bs0 : List UInt8} {i acc : Nat} {c : UInt8} {cs : List UInt8} (h : Link bs0 i acc (c :: cs)) (hb : ¬ ((i = 9 ∧ 1 < c.toNat) ∨ (0 < i ∧ c.toNat = 0))) (hc : c.toNat < 128) : ru 0 bs0 = (0, acc + 128 ^ i * c.toNat, cs) := by
  unfold Link at h; rw [ru_last hb hc] at h; exact h
theorem Link.more {bs0 : List UInt8} {i acc : Nat} {c : UInt8} {cs : List UInt8} (h : Link bs0 i acc (c :: cs)) (hb : ¬ ((i = 9 ∧ 1 < c.toNat) ∨ (0 < i ∧ c.toNat = 0))) (hc : ¬ c.toNat < 128) : Link bs0 (i + 1) (acc + 128 ^ i * (c.toNat - 128)) cs := by
  unfold Link at h ⊢; rw [ru_more hb hc] at h
  rw [h]
  by_cases h0 : (ru (i + 1) cs).1 = 0
  · simp only [if_pos h0, if_pos]
    rw [Nat.pow_succ]
    simp only [Prod.mk.injEq, true_and, and_true]
    rw [Nat.mul_add, Nat.add_assoc, Nat.mul_assoc]
  · simp only [if_neg h0]

set_option maxRecDepth 100000 in
set_option maxHeartbeats 1000000 in
theorem r_uint_no (p : Nat) (Q : Nat → Prop) (e : Nat) (he : e ≠ 0) (w : World) (h : Rr w p Q (e, [])) :
    Calls Try.prog 66 #[.pointer (some ⟨p, 0, none⟩)] w fun x W => x = .returned (.int .u64 0) ∧ w = W := by
  have h' := h
  obtain ⟨h1, h2, A, n, c, hb, hr, h3, h4⟩ := h
  have c1 := hb.cell1
  have hlt := hb.lt
  have hd : (((e : Nat) : Int) != 0) = true := by simp; omega
  clear h2 hr hb
  go_enter Try.func66, Try.ntmps66
  go_wp2_with fail
  go_loopw [3, 4] (fun nv iv wr => nv = .int .u64 0 ∧ iv = .int .i64 0 ∧ wr = w) (fun _ _ _ => 0)
  case atStart => exact ⟨rfl, rfl, rfl⟩
  case round =>
    obtain ⟨rfl, rfl, rfl⟩ := hrel
    go_wp2_with fail
    refine (r_next_no p Q e he wr h').mono ?_
    rintro x W ⟨rfl, rfl⟩
    go_wp2_with fail
    go_ret
    exact ⟨rfl, rfl⟩

theorem or_acc (acc i : Nat) (c : UInt8) (hi : i ≤ 9) (ha : acc < 128 ^ i) (hc : i ≤ 8 ∨ c.toNat ≤ 1) : bits .or .u64 (acc : Int) (IntKind.u64.wrap ((c.toNat : Int) % 128 * 2 ^ (7 * i))) = ((acc + 128 ^ i * (c.toNat % 128) : Nat) : Int) := by
  have e : (128 : Nat) ^ i = 2 ^ (7 * i) := by rw [Nat.pow_mul]
  have hb : c.toNat % 128 * 2 ^ (7 * i) + acc < 18446744073709551616 := by
    rw [← e]
    rcases hc with h | h
    · have h1 : 128 ^ i ≤ 128 ^ 8 := Nat.pow_le_pow_right (by omega) h
      have h2 : c.toNat % 128 * 128 ^ i ≤ 127 * 128 ^ i := Nat.mul_le_mul_right _ (by omega)
      omega
    · have h1 : 128 ^ i ≤ 128 ^ 9 := Nat.pow_le_pow_right (by omega) hi
      have h2 : c.toNat % 128 * 128 ^ i ≤ 1 * 128 ^ i := Nat.mul_le_mul_right _ (by omega)
      omega
  have e2 : (c.toNat : Int) % 128 * 2 ^ (7 * i) = ((c.toNat % 128 * 2 ^ (7 * i) : Nat) : Int) := by simp
  rw [e2, Hm.wrapU, Hm.UI_BI, Int.emod_eq_of_lt (by omega) (by omega), or_add acc (c.toNat % 128) (7 * i) (by rw [← e]; exact ha) (by omega), e, Nat.mul_comm (2 ^ (7 * i))]
theorem or_acc0 (acc i : Nat) (c : UInt8) (hi : i ≤ 0) (ha : acc < 128 ^ i) : bits .or .u64 (acc : Int) ((c.toNat : Int) % 128) = ((acc + 128 ^ i * (c.toNat % 128) : Nat) : Int) := by
  obtain rfl : i = 0 := by omega
  rw [← or_acc acc 0 c (by omega) ha (by omega), Hm.wrapU, Hm.UI_BI]
  congr 1
  simp
  omega
theorem or_acc9 (acc i : Nat) (c : UInt8) (h9 : 9 ≤ i) (hi : i ≤ 9) (ha : acc < 128 ^ i) (hc : c.toNat ≤ 1) : bits .or .u64 (acc : Int) ((c.toNat : Int) % 128 * 9223372036854775808) = ((acc + 128 ^ i * (c.toNat % 128) : Nat) : Int) := by
  obtain rfl : i = 9 := by omega
  rw [← or_acc acc 9 c (by omega) ha (by omega), Hm.wrapU, Hm.UI_BI]
  congr 1
  rw [show (2 : Int) ^ (7 * 9) = 9223372036854775808 from by decide]
  omega

set_option maxRecDepth 100000 in
set_option maxHeartbeats 1000000 in
theorem r_uint_ok (p : Nat) (Q : Nat → Prop) (bs0 : List UInt8) (w : World) (h : Rr w p Q (0, bs0)) :
    Calls Try.prog 66 #[.pointer (some ⟨p, 0, none⟩)] w fun x W => x = .returned (.int .u64 ((ru 0 bs0).2.1 : Nat)) ∧ Rr W p Q ((ru 0 bs0).1, (ru 0 bs0).2.2) ∧ w.grownBy W (some p) := by
  obtain ⟨⟨E, V, R⟩, hR⟩ : ∃ r, r = ru 0 bs0 := ⟨_, rfl⟩
  rw [← hR]
  have HR := Lib.hid hR
  clear hR
  go_enter Try.func66, Try.ntmps66
  go_wp2_with fail
  go_loopw [3, 4] (fun nv iv wr => ∃ (i acc : Nat) (bs : List UInt8), nv = .int .u64 acc ∧ iv = .int .i64 (7 * i : Nat) ∧ i ≤ 9 ∧ acc < 128 ^ i ∧ Link bs0 i acc bs ∧ Rr wr p Q (0, bs) ∧ w.grownBy wr (some p)) (fun _ iv _ => (70 - intOf iv).toNat)
  case atStart => exact ⟨0, 0, bs0, rfl, rfl, by omega, by omega, Link.start bs0, h, grown_refl _ _⟩
  case round =>
    obtain ⟨i, acc, bs, rfl, rfl, hi, hacc, hL, hRr, hG⟩ := hrel
    cases bs with
    | nil =>
      have e3 := HR.out.trans hL.nil
      simp only [Prod.mk.injEq] at e3
      obtain ⟨rfl, rfl, rfl⟩ := e3
      clear hL
      go_wp2_with fail
      refine (r_next_more p Q wr hRr).mono ?_
      rintro x W ⟨rfl, hRr2, hG2⟩
      have c1 : W.cell? ⟨p, 1, none⟩ = some (.int .i64 3) := by obtain ⟨_, _, _, _, _, hb, _⟩ := hRr2; exact hb.cell1
      go_wp2_with fail
      go_ret
      exact ⟨rfl, hRr2, grown_trans hG hG2⟩
    | cons c cs =>
      have ha := andnot8 c
      have hc256 := c.toNat_lt
      by_cases h0 : i ≤ 0
      · have HO0 := Lib.hid (or_acc0 acc i c h0 hacc)
        by_cases hc : c.toNat < 128
        · have e3 := HR.out.trans (hL.last (by omega) (by omega))
          simp only [Prod.mk.injEq] at e3
          obtain ⟨rfl, rfl, rfl⟩ := e3
          have HO := Lib.hid (or_acc acc i c hi hacc (by omega))
          clear hL
          go_wp2_with fail
          refine (r_next p Q c _ wr hRr).mono ?_
          rintro x W ⟨rfl, hRr2, hG2⟩
          have c1 : W.cell? ⟨p, 1, none⟩ = some (.int .i64 0) := by obtain ⟨_, _, _, _, _, hb, _⟩ := hRr2; exact hb.cell1
          go_wp2_with fail
          go_ret
          exact ⟨ret_int (by (first | rw [HO.out] | rw [HO9.out]); rw [Nat.mod_eq_of_lt (by omega)]; try simp), hRr2, grown_trans hG hG2⟩
        · have HL := Lib.hid (hL.more (by omega) (by omega))
          have HO := Lib.hid (or_acc acc i c hi hacc (by omega))
          clear hL
          go_wp2_with fail
          refine (r_next p Q c _ wr hRr).mono ?_
          rintro x W ⟨rfl, hRr2, hG2⟩
          have c1 : W.cell? ⟨p, 1, none⟩ = some (.int .i64 0) := by obtain ⟨_, _, _, _, _, hb, _⟩ := hRr2; exact hb.cell1
          go_wp2_with fail
          go_roundw
          case rel =>
            have hm : c.toNat % 128 = c.toNat - 128 := by omega
            have hp : 128 ^ (i + 1) = 128 ^ i * 128 := Nat.pow_succ ..
            have hp1 : 128 ^ i * (c.toNat - 128) ≤ 128 ^ i * 127 := Nat.mul_le_mul_left _ (by omega)
            exact ⟨i + 1, acc + 128 ^ i * (c.toNat - 128), cs, by (first | rw [HO.out] | rw [HO0.out]); rw [hm], by go_num, by omega, by omega, HL.out, hRr2, grown_trans hG hG2⟩
          case measure => simp [intOf]; omega
      · by_cases h9 : 9 ≤ i
        · by_cases hc0 : 1 ≤ c.toNat ∧ c.toNat ≤ 1
          · have hz : ((c.toNat : Int) == 0) = false := by simp; omega
            have HO9 := Lib.hid (or_acc9 acc i c h9 hi hacc (by omega))
            have e3 := HR.out.trans (hL.last (by omega) (by omega))
            simp only [Prod.mk.injEq] at e3
            obtain ⟨rfl, rfl, rfl⟩ := e3
            have HO := Lib.hid (or_acc acc i c hi hacc (by omega))
            clear hL
            go_wp2_with fail
            refine (r_next p Q c _ wr hRr).mono ?_
            rintro x W ⟨rfl, hRr2, hG2⟩
            have c1 : W.cell? ⟨p, 1, none⟩ = some (.int .i64 0) := by obtain ⟨_, _, _, _, _, hb, _⟩ := hRr2; exact hb.cell1
            go_wp2_with fail
            go_ret
            exact ⟨ret_int (by (first | rw [HO.out] | rw [HO9.out]); rw [Nat.mod_eq_of_lt (by omega)]; try simp), hRr2, grown_trans hG hG2⟩
          · have hc00 : c.toNat ≤ 0 ∨ 1 < c.toNat := by omega
            rcases hc00 with hc1 | hc1
            · have hz : ((c.toNat : Int) == 0) = true := by simp; omega
              have e3 := HR.out.trans (hL.bad (by omega))
              simp only [Prod.mk.injEq] at e3
              obtain ⟨rfl, rfl, rfl⟩ := e3
              clear hL
              go_wp2_with fail
              refine (r_next p Q c _ wr hRr).mono ?_
              rintro x W ⟨rfl, hRr2, hG2⟩
              have c1 : W.cell? ⟨p, 1, none⟩ = some (.int .i64 0) := by obtain ⟨_, _, _, _, _, hb, _⟩ := hRr2; exact hb.cell1
              go_wp2_with fail
              refine (r_fail p Q _ 2 _ rfl W hRr2).mono ?_
              rintro x W2 ⟨rfl, hRr3, hG3⟩
              go_wp2_with fail
              go_ret
              exact ⟨rfl, hRr3, grown_trans hG (grown_trans hG2 hG3)⟩
            · have e3 := HR.out.trans (hL.bad (by omega))
              simp only [Prod.mk.injEq] at e3
              obtain ⟨rfl, rfl, rfl⟩ := e3
              clear hL
              go_wp2_with fail
              refine (r_next p Q c _ wr hRr).mono ?_
              rintro x W ⟨rfl, hRr2, hG2⟩
              have c1 : W.cell? ⟨p, 1, none⟩ = some (.int .i64 0) := by obtain ⟨_, _, _, _, _, hb, _⟩ := hRr2; exact hb.cell1
              go_wp2_with fail
              refine (r_fail p Q _ 2 _ rfl W hRr2).mono ?_
              rintro x W2 ⟨rfl, hRr3, hG3⟩
              go_wp2_with fail
              go_ret
              exact ⟨rfl, hRr3, grown_trans hG (grown_trans hG2 hG3)⟩
        · by_cases hc0 : 1 ≤ c.toNat
          · by_cases hc : c.toNat < 128
            · have e3 := HR.out.trans (hL.last (by omega) (by omega))
              simp only [Prod.mk.injEq] at e3
              obtain ⟨rfl, rfl, rfl⟩ := e3
              have HO := Lib.hid (or_acc acc i c hi hacc (by omega))
              clear hL
              go_wp2_with fail
              refine (r_next p Q c _ wr hRr).mono ?_
              rintro x W ⟨rfl, hRr2, hG2⟩
              have c1 : W.cell? ⟨p, 1, none⟩ = some (.int .i64 0) := by obtain ⟨_, _, _, _, _, hb, _⟩ := hRr2; exact hb.cell1
              go_wp2_with fail
              go_ret
              exact ⟨ret_int (by (first | rw [HO.out] | rw [HO9.out]); rw [Nat.mod_eq_of_lt (by omega)]; try simp), hRr2, grown_trans hG hG2⟩
            · have HL := Lib.hid (hL.more (by omega) (by omega))
              have HO := Lib.hid (or_acc acc i c hi hacc (by omega))
              clear hL
              go_wp2_with fail
              refine (r_next p Q c _ wr hRr).mono ?_
              rintro x W ⟨rfl, hRr2, hG2⟩
              have c1 : W.cell? ⟨p, 1, none⟩ = some (.int .i64 0) := by obtain ⟨_, _, _, _, _, hb, _⟩ := hRr2; exact hb.cell1
              go_wp2_with fail
              go_roundw
              case rel =>
                have hm : c.toNat % 128 = c.toNat - 128 := by omega
                have hp : 128 ^ (i + 1) = 128 ^ i * 128 := Nat.pow_succ ..
                have hp1 : 128 ^ i * (c.toNat - 128) ≤ 128 ^ i * 127 := Nat.mul_le_mul_left _ (by omega)
                exact ⟨i + 1, acc + 128 ^ i * (c.toNat - 128), cs, by (first | rw [HO.out] | rw [HO0.out]); rw [hm], by go_num, by omega, by omega, HL.out, hRr2, grown_trans hG hG2⟩
              case measure => simp [intOf]; omega
          · have e3 := HR.out.trans (hL.bad (by omega))
            simp only [Prod.mk.injEq] at e3
            obtain ⟨rfl, rfl, rfl⟩ := e3
            clear hL
            go_wp2_with fail
            refine (r_next p Q c _ wr hRr).mono ?_
            rintro x W ⟨rfl, hRr2, hG2⟩
            have c1 : W.cell? ⟨p, 1, none⟩ = some (.int .i64 0) := by obtain ⟨_, _, _, _, _, hb, _⟩ := hRr2; exact hb.cell1
            go_wp2_with fail
            refine (r_fail p Q _ 2 _ rfl W hRr2).mono ?_
            rintro x W2 ⟨rfl, hRr3, hG3⟩
            go_wp2_with fail
            go_ret
            exact ⟨rfl, hRr3, grown_trans hG (grown_trans hG2 hG3)⟩
end Go.Proofs.Ytagjecbgbpjobaa
