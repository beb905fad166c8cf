/- The plain mathematics of package wire: varints, zigzag numbers, the encodings of values, and what reading them gives. No program is named here. -/
import Derived.WalkKit
import Derived.ProofKit
namespace Go.Proofs.Ytagjecbgbpjobaa.Wm
open Go Go.RowKit

/-- the varint of a number -/
def vu (n : Nat) : List UInt8 := if n < 128 then [UInt8.ofNat n] else UInt8.ofNat (n % 128 + 128) :: vu (n / 128)
termination_by n
decreasing_by omega
theorem vu_small {n : Nat} (h : n < 128) : vu n = [UInt8.ofNat n] := by rw [vu, if_pos h]
theorem vu_big {n : Nat} (h : 128 ≤ n) : vu n = UInt8.ofNat (n % 128 + 128) :: vu (n / 128) := by rw [vu, if_neg (by omega)]
theorem vu_pos (n : Nat) : 0 < (vu n).length := by
  rw [vu]; split <;> simp
theorem vu_len (k : Nat) : ∀ n : Nat, n < 128 ^ (k + 1) → (vu n).length ≤ k + 1 := by
  induction k with
  | zero => intro n h; rw [vu_small (by omega)]; simp
  | succ k ih =>
    intro n h
    by_cases hn : n < 128
    · rw [vu_small hn]; simp
    · rw [vu_big (by omega)]
      have : n / 128 < 128 ^ (k + 1) := by
        rw [Nat.div_lt_iff_lt_mul (by omega)]
        rw [Nat.pow_succ] at h
        omega
      have := ih _ this
      simp; omega
theorem vu_len10 {n : Nat} (h : n < 18446744073709551616) : (vu n).length ≤ 10 := vu_len 9 n (by omega)

/-- zigzag -/
def zz (n : Int) : Nat := if n < 0 then (-(2 * n) - 1).toNat else (2 * n).toNat
def unzz (z : Nat) : Int := if z % 2 = 1 then -((z / 2 : Nat) : Int) - 1 else ((z / 2 : Nat) : Int)
theorem unzz_zz (n : Int) : unzz (zz n) = n := by
  unfold unzz zz
  by_cases h : n < 0
  · rw [if_pos h, if_pos (by omega)]; omega
  · rw [if_neg h, if_neg (by omega)]; omega
theorem zz_unzz (z : Nat) : zz (unzz z) = z := by
  unfold unzz zz
  by_cases h : z % 2 = 1
  · rw [if_pos h, if_pos (by omega)]; omega
  · rw [if_neg h, if_neg (by omega)]; omega
theorem zz_lt {n : Int} (h1 : -9223372036854775808 ≤ n) (h2 : n ≤ 9223372036854775807) : zz n < 18446744073709551616 := by
  unfold zz; split <;> omega
theorem unzz_range {z : Nat} (h : z < 18446744073709551616) : -9223372036854775808 ≤ unzz z ∧ unzz z ≤ 9223372036854775807 := by
  unfold unzz; split <;> omega

/-- reading a varint of which i bytes have been read: the error (0 none, 2 form, 3 more), the number, the rest -/
def ru : Nat → List UInt8 → Nat × Nat × List UInt8
  | _, [] => (3, 0, [])
  | i, c :: cs => if (i = 9 ∧ 1 < c.toNat) ∨ (0 < i ∧ c.toNat = 0) then (2, 0, []) else if c.toNat < 128 then (0, c.toNat, cs) else
      if (ru (i + 1) cs).1 = 0 then (0, c.toNat - 128 + 128 * (ru (i + 1) cs).2.1, (ru (i + 1) cs).2.2) else ((ru (i + 1) cs).1, 0, [])
theorem ru_nil (i : Nat) : ru i [] = (3, 0, []) := rfl
theorem ru_bad {i : Nat} {c : UInt8} {cs : List UInt8} (h : (i = 9 ∧ 1 < c.toNat) ∨ (0 < i ∧ c.toNat = 0)) : ru i (c :: cs) = (2, 0, []) := by rw [ru, if_pos h]
theorem ru_last {i : Nat} {c : UInt8} {cs : List UInt8} (h : ¬ ((i = 9 ∧ 1 < c.toNat) ∨ (0 < i ∧ c.toNat = 0))) (hc : c.toNat < 128) : ru i (c :: cs) = (0, c.toNat, cs) := by rw [ru, if_neg h, if_pos hc]
theorem ru_more {i : Nat} {c : UInt8} {cs : List UInt8} (h : ¬ ((i = 9 ∧ 1 < c.toNat) ∨ (0 < i ∧ c.toNat = 0))) (hc : ¬ c.toNat < 128) :
    ru i (c :: cs) = if (ru (i + 1) cs).1 = 0 then (0, c.toNat - 128 + 128 * (ru (i + 1) cs).2.1, (ru (i + 1) cs).2.2) else ((ru (i + 1) cs).1, 0, []) := by rw [ru, if_neg h, if_neg hc]
/-- an error leaves nothing -/
theorem ru_err : ∀ (cs : List UInt8) (i : Nat), (ru i cs).1 ≠ 0 → ru i cs = ((ru i cs).1, 0, []) := by
  intro cs i h
  cases cs with
  | nil => rfl
  | cons c cs =>
    by_cases h1 : (i = 9 ∧ 1 < c.toNat) ∨ (0 < i ∧ c.toNat = 0)
    · rw [ru_bad h1]
    · by_cases hc : c.toNat < 128
      · rw [ru_last h1 hc] at h; simp at h
      · rw [ru_more h1 hc] at h ⊢
        split at h
        · simp at h
        · rename_i h2; rw [if_neg h2]
theorem ru_errs : ∀ (cs : List UInt8) (i : Nat), (ru i cs).1 = 0 ∨ (ru i cs).1 = 2 ∨ (ru i cs).1 = 3
  | [], i => by rw [ru_nil]; simp
  | c :: cs, i => by
    by_cases h1 : (i = 9 ∧ 1 < c.toNat) ∨ (0 < i ∧ c.toNat = 0)
    · rw [ru_bad h1]; simp
    · by_cases hc : c.toNat < 128
      · rw [ru_last h1 hc]; simp
      · rw [ru_more h1 hc]
        have := ru_errs cs (i + 1)
        split <;> simp_all
theorem toNat_ofNat {n : Nat} (h : n < 256) : (UInt8.ofNat n).toNat = n := by simp; omega

theorem ru_vu : ∀ (k i n : Nat) (r : List UInt8), k + i = 9 → n < 2 * 128 ^ k → (0 < i → n ≠ 0) → ru i (vu n ++ r) = (0, n, r) := by
  intro k
  induction k with
  | zero =>
    intro i n r hi hn h0
    have hn2 : n < 2 := by simpa using hn
    rw [vu_small (by omega)]
    have hc : (UInt8.ofNat n).toNat = n := toNat_ofNat (by omega)
    rw [List.singleton_append, ru_last (by rw [hc]; omega) (by rw [hc]; omega), hc]
  | succ k ih =>
    intro i n r hi hn h0
    by_cases h : n < 128
    · rw [vu_small h]
      have hc : (UInt8.ofNat n).toNat = n := toNat_ofNat (by omega)
      rw [List.singleton_append, ru_last (by rw [hc]; omega) (by rw [hc]; omega), hc]
    · rw [vu_big (by omega), List.cons_append]
      have hc : (UInt8.ofNat (n % 128 + 128)).toNat = n % 128 + 128 := toNat_ofNat (by omega)
      have hih := ih (i + 1) (n / 128) r (by omega) (by rw [Nat.div_lt_iff_lt_mul (by omega)]; rw [Nat.pow_succ] at hn; omega) (by omega)
      rw [ru_more (by rw [hc]; omega) (by rw [hc]; omega), hih]
      simp only [if_pos, hc]
      rw [show n % 128 + 128 - 128 + 128 * (n / 128) = n from by omega]
theorem ru_vu0 (n : Nat) (hn : n < 18446744073709551616) (r : List UInt8) : ru 0 (vu n ++ r) = (0, n, r) := ru_vu 9 0 n r rfl (by omega) (by omega)

/-- what is read without an error is the varint of the number, and what is left -/
theorem ru_one : ∀ (cs : List UInt8) (i k : Nat), k + i = 9 → (ru i cs).1 = 0 → cs = vu (ru i cs).2.1 ++ (ru i cs).2.2 ∧ (0 < i → (ru i cs).2.1 ≠ 0) ∧ (ru i cs).2.1 < 2 * 128 ^ k
  | [], i, k, hi, h => by rw [ru_nil] at h; simp at h
  | c :: cs, i, k, hi, h => by
    by_cases h1 : (i = 9 ∧ 1 < c.toNat) ∨ (0 < i ∧ c.toNat = 0)
    · rw [ru_bad h1] at h; simp at h
    · by_cases hc : c.toNat < 128
      · rw [ru_last h1 hc]
        refine ⟨?_, fun hi0 => by simp only; omega, ?_⟩
        · simp only; rw [vu_small hc]; simp
        · simp only
          cases k with
          | zero => simp; omega
          | succ k =>
            have : 128 ^ 1 ≤ 128 ^ (k + 1) := Nat.pow_le_pow_right (by omega) (by omega)
            omega
      · rw [ru_more h1 hc] at h ⊢
        by_cases h2 : (ru (i + 1) cs).1 = 0
        · simp only [if_pos h2] at h ⊢
          obtain ⟨k', rfl⟩ : ∃ k', k = k' + 1 := ⟨k - 1, by omega⟩
          obtain ⟨e1, e2, e3⟩ := ru_one cs (i + 1) k' (by omega) h2
          have hb := c.toNat_lt
          have h0 := e2 (by omega)
          refine ⟨?_, fun _ => by omega, ?_⟩
          · rw [vu_big (by omega)]
            rw [show (c.toNat - 128 + 128 * (ru (i + 1) cs).2.1) / 128 = (ru (i + 1) cs).2.1 from by omega,
              show (c.toNat - 128 + 128 * (ru (i + 1) cs).2.1) % 128 + 128 = c.toNat from by omega, List.cons_append, ← e1]
            simp
          · rw [Nat.pow_succ]; omega
        · simp only [if_neg h2] at h; exact absurd h h2
theorem ru_one0 {cs : List UInt8} (h : (ru 0 cs).1 = 0) : cs = vu (ru 0 cs).2.1 ++ (ru 0 cs).2.2 ∧ (ru 0 cs).2.1 < 18446744073709551616 := by
  obtain ⟨a, _, b⟩ := ru_one cs 0 9 rfl h
  exact ⟨a, by omega⟩
theorem ru_len {cs : List UInt8} (h : (ru 0 cs).1 = 0) : (ru 0 cs).2.2.length < cs.length := by
  have e := congrArg List.length (ru_one0 h).1
  have := vu_pos (ru 0 cs).2.1
  rw [List.length_append] at e
  omega
/-- more bytes behind -/
theorem ru_ext (q : List UInt8) : ∀ (p : List UInt8) (i : Nat), ((ru i p).1 = 0 → ru i (p ++ q) = (0, (ru i p).2.1, (ru i p).2.2 ++ q)) ∧ ((ru i p).1 = 2 → ru i (p ++ q) = (2, 0, []))
  | [], i => by rw [ru_nil]; simp
  | c :: cs, i => by
    rw [List.cons_append]
    by_cases h1 : (i = 9 ∧ 1 < c.toNat) ∨ (0 < i ∧ c.toNat = 0)
    · rw [ru_bad h1, ru_bad h1]; simp
    · by_cases hc : c.toNat < 128
      · rw [ru_last h1 hc, ru_last h1 hc]; simp
      · rw [ru_more h1 hc, ru_more h1 hc]
        obtain ⟨a, b⟩ := ru_ext q cs (i + 1)
        by_cases h2 : (ru (i + 1) cs).1 = 0
        · rw [if_pos h2, a h2]; simp
        · rw [if_neg h2]
          refine ⟨fun h => absurd h h2, fun h => ?_⟩
          rw [b h]; simp

/-- the state of a reader: its error and what is left -/
abbrev St := Nat × List UInt8
def rU (s : St) : Nat × St := if s.1 = 0 then ((ru 0 s.2).2.1, (ru 0 s.2).1, (ru 0 s.2).2.2) else (0, s.1, [])
def rI (s : St) : Int × St := (unzz (rU s).1, (rU s).2)
def rB (s : St) : Bool × St := if s.1 = 0 then (match s.2 with | [] => (false, 3, []) | c :: cs => if 1 < c.toNat then (false, 2, []) else (decide (c.toNat = 1), 0, cs)) else (false, s.1, [])
def rLen (s : St) : Nat × St := if (rU s).2.1 = 0 then (if (rU s).2.2.length < (rU s).1 then (0, 3, []) else rU s) else (0, (rU s).2.1, [])
def rR (s : St) : List UInt8 × St := if (rLen s).2.1 = 0 then ((rLen s).2.2.take (rLen s).1, 0, (rLen s).2.2.drop (rLen s).1) else ([], (rLen s).2.1, [])
def rN : Nat → List UInt8 → List Int × St
  | 0, bs => ([], 0, bs)
  | k + 1, bs => if (ru 0 bs).1 = 0 then (if (rN k (ru 0 bs).2.2).2.1 = 0 then (unzz (ru 0 bs).2.1 :: (rN k (ru 0 bs).2.2).1, (rN k (ru 0 bs).2.2).2) else ([], (rN k (ru 0 bs).2.2).2.1, [])) else ([], (ru 0 bs).1, [])
def rL (s : St) : List Int × St := if (rLen s).2.1 = 0 then rN (rLen s).1 (rLen s).2.2 else ([], (rLen s).2.1, [])

/-- a value: its kind and its fields -/
structure VV where
  k : Nat
  u : Nat := 0
  n : Int := 0
  b : List UInt8 := []
  l : List Int := []
def encI (l : List Int) : List UInt8 := l.flatMap fun n => vu (zz n)
def enc (v : VV) : List UInt8 := if v.k = 0 then vu v.u else if v.k = 1 then vu (zz v.n) else if v.k = 2 then [if v.n = 1 then 1 else 0] else if v.k = 3 ∨ v.k = 4 then vu v.b.length ++ v.b else vu v.l.length ++ encI v.l
def encs (l : List VV) : List UInt8 := l.flatMap enc
def rV (s : St) (k : Nat) : VV × St :=
  if k = 0 then ({ k := k, u := (rU s).1 }, (rU s).2) else if k = 1 then ({ k := k, n := (rI s).1 }, (rI s).2) else if k = 2 then ({ k := k, n := if (rB s).1 then 1 else 0 }, (rB s).2)
  else if k = 3 ∨ k = 4 then ({ k := k, b := (rR s).1 }, (rR s).2) else ({ k := k, l := (rL s).1 }, (rL s).2)
def rVs : St → List Nat → List VV × St
  | s, [] => ([], s)
  | s, k :: ks => ((rV s k).1 :: (rVs (rV s k).2 ks).1, (rVs (rV s k).2 ks).2)
def endOf (s : St) : Nat := if s.1 = 0 ∧ 0 < s.2.length then 2 else s.1
end Go.Proofs.Ytagjecbgbpjobaa.Wm
