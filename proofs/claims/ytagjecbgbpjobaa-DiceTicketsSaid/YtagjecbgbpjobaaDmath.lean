/- A die in numbers alone: the word of a stream, what a word leads to, a roll, an index by weights, an order of numbers. No program is named here. -/
import Derived.Test.YtagjecbgbpjobaaHmath
namespace Go.Proofs.Ytagjecbgbpjobaa.Dm
open Hm Go.RowKit

/-- the word of a stream at a position -/
def wordI (h p : Int) : Int := sumM [119, 111, 114, 100] [h, p]
theorem wordI_range (h p : Int) : 0 ≤ wordI h p ∧ wordI h p < 18446744073709551616 := ⟨UI_nonneg _, UI_lt _⟩
/-- the word's block has room below 2^64 -/
def acc (w n : Int) : Bool := decide (w - w % n + n ≤ 18446744073709551616)
def red (w n : Int) : Int × Bool := if 1 ≤ n ∧ acc w n = true then (w % n, true) else (0, false)

theorem room (a q n r : Int) (hn : 0 < n) (hr : r < n) (hr0 : 0 ≤ r) : (a + 1) * n ≤ q * n + r ↔ a + 1 ≤ q := by
  constructor
  · intro h
    by_cases c : a + 1 ≤ q
    · exact c
    · have h1 : (q + 1) * n ≤ (a + 1) * n := Int.mul_le_mul_of_nonneg_right (by omega) (by omega)
      have h2 : (q + 1) * n = q * n + n := by rw [Int.add_mul, Int.one_mul]
      omega
  · intro h
    have h1 : (a + 1) * n ≤ q * n := Int.mul_le_mul_of_nonneg_right h (by omega)
    omega
theorem block_eq (w n : Int) : w - w % n = n * (w / n) := by rw [Int.emod_def]; omega
theorem acc_iff (w n M : Int) (hn : 1 ≤ n) : w - w % n + n ≤ M ↔ w ≤ M - 1 - M % n := by
  have h1 := block_eq w n
  have h2 := block_eq M n
  have h3 := Int.emod_nonneg M (b := n) (by omega)
  have h4 := Int.emod_lt_of_pos M (b := n) (by omega)
  have h5 := room (w / n) (M / n) n (M % n) (by omega) h4 h3
  have e1 : (w / n + 1) * n = w - w % n + n := by rw [h1, Int.add_mul, Int.one_mul, Int.mul_comm]
  have e2 : M / n * n + M % n = M := by rw [Int.mul_comm, ← h2]; omega
  rw [e1, e2] at h5
  rw [h5]
  have h6 : w / n < M / n ↔ w < M / n * n := Int.ediv_lt_iff_lt_mul (by omega)
  have e3 : M / n * n = M - M % n := by omega
  omega
/-- every word of an accepted word's block is accepted, and leads to its place in the block -/
theorem fair_in (w n i : Int) (hn : 1 ≤ n) (h : acc w n = true) (h0 : 0 ≤ i) (h1 : i < n) : red (w - w % n + i) n = (i, true) := by
  have e : (w - w % n + i) % n = i := by
    rw [block_eq, Int.add_comm, Int.add_mul_emod_self_left]
    exact Int.emod_eq_of_lt h0 h1
  unfold red
  have ha : acc (w - w % n + i) n = true := by
    unfold acc at h ⊢
    rw [e]
    simp only [decide_eq_true_eq] at h ⊢
    omega
  rw [if_pos ⟨hn, ha⟩, e]
theorem fair_out (w n : Int) (hn : 1 ≤ n) (h : acc w n = false) : 18446744073709551615 - w < n - 1 := by
  unfold acc at h
  have h3 := Int.emod_nonneg w (b := n) (by omega)
  simp only [decide_eq_false_iff_not] at h
  omega
theorem red_in (w n : Int) (h : 1 ≤ n) (ha : acc w n = true) : red w n = (w % n, true) := by unfold red; rw [if_pos ⟨h, ha⟩]
theorem red_out (w n : Int) (ha : acc w n = false) : red w n = (0, false) := by unfold red; rw [if_neg (by rw [ha]; simp)]
theorem red_none (w n : Int) (h : ¬ 1 ≤ n) : red w n = (0, false) := by unfold red; rw [if_neg (by omega)]

/-- at most k words from position p on: the result, the error, the position behind -/
def rollM (h n : Int) : Nat → Int → Int × Int × Int
  | 0, p => (0, 4, p)
  | k + 1, p => if acc (wordI h p) n = true then (wordI h p % n, 0, wrap64 (p + 1)) else rollM h n k (wrap64 (p + 1))
/-- a roll -/
def roll (h n p : Int) : Int × Int × Int := if n < 1 then (0, 1, p) else rollM h n 128 p
/-- the position behind k words -/
def far (p : Int) : Nat → Int
  | 0 => p
  | k + 1 => wrap64 (far p k + 1)
theorem rollM_no (h n : Int) : ∀ (k m : Nat) (p : Int), (∀ j, j < k → acc (wordI h (far p j)) n = false) → rollM h n (k + m) p = rollM h n m (far p k)
  | 0, m, p, _ => by simp [far]
  | k + 1, m, p, hj => by
    rw [show k + 1 + m = k + (m + 1) from by omega, rollM_no h n k (m + 1) p (fun j hjk => hj j (by omega))]
    have := hj k (by omega)
    simp only [rollM]
    rw [if_neg (by rw [this]; simp)]
    rfl
/-- the k-th word is the first that is accepted -/
theorem roll_hit (h n p : Int) (k : Nat) (hn : 1 ≤ n) (hk : k < 128) (hj : ∀ j, j < k → acc (wordI h (far p j)) n = false) (ha : acc (wordI h (far p k)) n = true) :
    roll h n p = (wordI h (far p k) % n, 0, far p (k + 1)) := by
  unfold roll
  rw [if_neg (by omega), show (128 : Nat) = k + ((127 - k) + 1) from by omega, rollM_no h n k _ p hj]
  simp only [rollM]
  rw [if_pos ha]
  rfl
theorem roll_miss (h n p : Int) (hn : 1 ≤ n) (hj : ∀ j, j < 128 → acc (wordI h (far p j)) n = false) : roll h n p = (0, 4, far p 128) := by
  unfold roll
  rw [if_neg (by omega), show (128 : Nat) = 128 + 0 from rfl, rollM_no h n 128 0 p hj]
  rfl
theorem roll_arg (h n p : Int) (hn : n < 1) : roll h n p = (0, 1, p) := by unfold roll; rw [if_pos hn]
/-- what a roll may be -/
theorem rollM_is (h n : Int) (hn : 1 ≤ n) : ∀ (k : Nat) (p : Int), (((rollM h n k p).2.1 = 0 ∧ 0 ≤ (rollM h n k p).1 ∧ (rollM h n k p).1 < n) ∨ ((rollM h n k p).2.1 = 4 ∧ (rollM h n k p).1 = 0))
  | 0, p => .inr ⟨rfl, rfl⟩
  | k + 1, p => by
    simp only [rollM]
    by_cases ha : acc (wordI h p) n = true
    · rw [if_pos ha]
      exact .inl ⟨rfl, Int.emod_nonneg _ (by omega), Int.emod_lt_of_pos _ (by omega)⟩
    · rw [if_neg ha]
      exact rollM_is h n hn k _
theorem roll_is (h n p : Int) (hn : 1 ≤ n) : (((roll h n p).2.1 = 0 ∧ 0 ≤ (roll h n p).1 ∧ (roll h n p).1 < n) ∨ ((roll h n p).2.1 = 4 ∧ (roll h n p).1 = 0)) := by
  unfold roll
  rw [if_neg (by omega)]
  exact rollM_is h n hn 128 p
theorem roll_one (h p : Int) : roll h 1 p = (0, 0, wrap64 (p + 1)) := by
  have ha : acc (wordI h p) 1 = true := by
    unfold acc
    have := wordI_range h p
    simp only [decide_eq_true_eq]
    omega
  have := roll_hit h 1 p 0 (by omega) (by omega) (by omega) ha
  rw [this]
  simp [far]
/-- Hit -/
def hit (h num den p : Int) : Bool × Int × Int :=
  if num < 0 ∨ den < 1 ∨ num > den then (false, 1, p) else (decide ((roll h den p).2.1 = 0 ∧ (roll h den p).1 < num), (roll h den p).2.1, (roll h den p).2.2)
/-- the sum of weights, or none -/
def sumUp : List Int → Int → Option Int
  | [], s => some s
  | x :: xs, s => if x < 0 ∨ x > 1152921504606846976 - s then none else sumUp xs (s + x)
theorem sumUp_snoc : ∀ (xs : List Int) (s : Int) (x : Int), sumUp (xs ++ [x]) s = (sumUp xs s).bind fun t => if x < 0 ∨ x > 1152921504606846976 - t then none else some (t + x)
  | [], s, x => by simp [sumUp]
  | y :: ys, s, x => by
    simp only [List.cons_append, sumUp]
    split
    · rfl
    · exact sumUp_snoc ys _ x
theorem sumUp_none (xs ys : List Int) (s : Int) (h : sumUp xs s = none) : sumUp (xs ++ ys) s = none := by
  induction xs generalizing s with
  | nil => simp [sumUp] at h
  | cons x xs ih =>
    simp only [List.cons_append, sumUp] at h ⊢
    split
    · rfl
    · rename_i hc
      rw [if_neg hc] at h
      exact ih _ h
theorem sumUp_range : ∀ (xs : List Int) (s t : Int), 0 ≤ s → s ≤ 1152921504606846976 → sumUp xs s = some t → s ≤ t ∧ t ≤ 1152921504606846976
  | [], s, t, h0, h1, h => by simp only [sumUp, Option.some.injEq] at h; omega
  | x :: xs, s, t, h0, h1, h => by
    simp only [sumUp] at h
    split at h
    · cases h
    · rename_i hc
      have := sumUp_range xs (s + x) t (by omega) (by omega) h
      omega
/-- the first index whose weights, added up, are more than r -/
def idx : List Int → Int → Nat
  | [], _ => 0
  | x :: xs, r => if r < x then 0 else 1 + idx xs (r - x)
/-- what is left of r behind k weights -/
def lessBy (xs : List Int) (r : Int) (k : Nat) : Int := r - (xs.take k).sum
theorem lessBy_succ (xs : List Int) (r : Int) (k : Nat) (h : k < xs.length) : lessBy xs r (k + 1) = lessBy xs r k - xs[k] := by
  unfold lessBy
  rw [List.take_succ_eq_append_getElem h, List.sum_append]
  simp
  omega
theorem idx_at : ∀ (xs : List Int) (r : Int) (k : Nat) (h : k < xs.length), (∀ j, j < k → ¬ lessBy xs r (j + 1) < 0) → lessBy xs r (k + 1) < 0 → idx xs r = k
  | [], _, _, h, _, _ => by simp at h
  | x :: xs, r, 0, h, _, hk => by
    rw [lessBy_succ _ _ _ h] at hk
    simp only [lessBy, List.take_zero, List.sum_nil, List.getElem_cons_zero] at hk
    simp only [idx]
    rw [if_pos (by omega)]
  | x :: xs, r, k + 1, h, hj, hk => by
    have h0 := hj 0 (by omega)
    rw [lessBy_succ _ _ _ (by simp)] at h0
    simp only [lessBy, List.take_zero, List.sum_nil, List.getElem_cons_zero] at h0
    have e : ∀ j, lessBy (x :: xs) r (j + 1) = lessBy xs (r - x) j := by intro j; unfold lessBy; simp only [List.take_succ_cons, List.sum_cons]; omega
    simp only [idx]
    rw [if_neg (by omega), idx_at xs (r - x) k (by simpa using h) (fun j hjk => by rw [← e]; exact hj (j + 1) (by omega)) (by rw [← e]; exact hk)]
    omega
theorem sumUp_sum : ∀ (xs : List Int) (s t : Int), sumUp xs s = some t → t = s + xs.sum ∧ ∀ x ∈ xs, 0 ≤ x
  | [], s, t, h => by simp only [sumUp, Option.some.injEq] at h; simp [h]
  | x :: xs, s, t, h => by
    simp only [sumUp] at h
    split at h
    · cases h
    · rename_i hc
      obtain ⟨h1, h2⟩ := sumUp_sum xs _ _ h
      refine ⟨by rw [h1, List.sum_cons]; omega, ?_⟩
      intro y hy
      rcases List.mem_cons.1 hy with rfl | hy
      · omega
      · exact h2 y hy
/-- an index within the weights, whose weight is not 0 -/
theorem idx_lt : ∀ (xs : List Int) (r : Int), 0 ≤ r → r < xs.sum → ∃ h : idx xs r < xs.length, xs[idx xs r] ≠ 0 ∧ lessBy xs r (idx xs r) ≥ 0 ∧ lessBy xs r (idx xs r + 1) < 0
  | [], r, h0, h1 => by simp at h1; omega
  | x :: xs, r, h0, h1 => by
    simp only [List.sum_cons] at h1
    by_cases c : r < x
    · have e : idx (x :: xs) r = 0 := by simp only [idx]; rw [if_pos c]
      simp only [e]
      refine ⟨by simp, by simp; omega, by simp [lessBy]; omega, by simp [lessBy]; omega⟩
    · obtain ⟨h2, h3, h4, h5⟩ := idx_lt xs (r - x) (by omega) (by omega)
      have e : idx (x :: xs) r = idx xs (r - x) + 1 := by simp only [idx]; rw [if_neg c]; omega
      have el : ∀ j, lessBy (x :: xs) r (j + 1) = lessBy xs (r - x) j := by intro j; unfold lessBy; simp only [List.take_succ_cons, List.sum_cons]; omega
      simp only [e, el]
      exact ⟨by simp; omega, by simpa using h3, h4, h5⟩
theorem sum_take_le (xs : List Int) (h : ∀ x ∈ xs, 0 ≤ x) (k : Nat) : 0 ≤ (xs.take k).sum ∧ (xs.take k).sum ≤ xs.sum := by
  induction xs generalizing k with
  | nil => simp
  | cons x xs ih =>
    have hx := h x (by simp)
    cases k with
    | zero =>
      have := ih (fun y hy => h y (by simp [hy])) xs.length
      simp only [List.take_length] at this
      simp only [List.take_zero, List.sum_nil, List.sum_cons]
      omega
    | succ k =>
      have := ih (fun y hy => h y (by simp [hy])) k
      simp only [List.take_succ_cons, List.sum_cons]
      omega
/-- Pick -/
def pick (h : Int) (ws : List Int) (p : Int) : Int × Int × Int :=
  match sumUp ws 0 with
  | none => (0, 1, p)
  | some s => if s = 0 then (0, 1, p) else if (roll h s p).2.1 = 0 then ((idx ws (roll h s p).1 : Int), 0, (roll h s p).2.2) else (0, (roll h s p).2.1, (roll h s p).2.2)
/-- two elements exchanged -/
def swap (l : List Int) (i j : Nat) : List Int := (l.set i (l.getD j 0)).set j (l.getD i 0)
theorem swap_length (l : List Int) (i j : Nat) : (swap l i j).length = l.length := by simp [swap]
theorem swap_perm (l : List Int) (i j : Nat) (hi : i < l.length) (hj : j < l.length) : (swap l i j).Perm l := by
  unfold swap
  rw [List.getD_eq_getElem?_getD, List.getD_eq_getElem?_getD, List.getElem?_eq_getElem hi, List.getElem?_eq_getElem hj]
  exact List.set_set_perm hi hj
/-- the exchanges from i down to 1: the list, or none; the position behind -/
def shuf (h : Int) : Nat → Int → List Int → Option (List Int) × Int
  | 0, p, l => (some l, p)
  | i + 1, p, l => if (roll h (i + 2 : Nat) p).2.1 = 0 then shuf h i (roll h (i + 2 : Nat) p).2.2 (swap l (i + 1) (roll h (i + 2 : Nat) p).1.toNat) else (none, (roll h (i + 2 : Nat) p).2.2)
def upto (n : Nat) : List Int := (List.range n).map fun (k : Nat) => (k : Int)
theorem upto_length (n : Nat) : (upto n).length = n := by simp [upto]
theorem upto_succ (n : Nat) : upto (n + 1) = upto n ++ [(n : Int)] := by simp [upto, List.range_succ]
def shuffle (h n p : Int) : Option (List Int) × Int × Int :=
  if n < 0 ∨ n > 4096 then (none, 1, p) else match shuf h (n.toNat - 1) p (upto n.toNat) with
    | (some l, q) => (some l, 0, q)
    | (none, q) => (none, 4, q)
theorem shuf_perm (h : Int) : ∀ (i : Nat) (p : Int) (l m : List Int) (q : Int), i < l.length ∨ i = 0 → shuf h i p l = (some m, q) → m.Perm l
  | 0, p, l, m, q, _, he => by simp only [shuf, Prod.mk.injEq, Option.some.injEq] at he; rw [he.1]
  | i + 1, p, l, m, q, hl, he => by
    simp only [shuf] at he
    split at he
    · rename_i h0
      have hr := roll_is h (i + 2 : Nat) p (by omega)
      have hl' : i + 1 < l.length := by omega
      have hsw := swap_perm l (i + 1) (roll h (i + 2 : Nat) p).1.toNat hl' (by omega)
      exact (shuf_perm h i _ _ m q (by rw [swap_length]; omega) he).trans hsw
    · simp at he
end Go.Proofs.Ytagjecbgbpjobaa.Dm
