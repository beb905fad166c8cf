/- Numbers as lists of digits to a base, the least digit first; the arithmetic of sums, differences, products and quotients by digits. No program is named here. -/
import Derived.WalkKit
import Derived.ProofKit
import Derived.Test.YtmpdoikdadjneaaDoorCA
import Derived.Laws.CopyOwn
import Derived.Laws.MakeOwn
import Derived.Deep.CutBlock
import Derived.Deep.CutRange
import Derived.Deep.RegionWith
import Derived.Deep.RegionHeld3
import Derived.RegionTactic
import Derived.BigRegion
import Derived.Outline
import Derived.IntWalk
import Derived.Shelf.Abstract
import Derived.OwnWalkIn
import Derived.TacticsInMore
import Derived.LoopNIn
import Derived.LoopIn
namespace Go.Proofs.YtmpdoikdadjneaaDoor.Vm
open Go Go.RowKit

def val (b : Nat) : List Nat → Nat
  | [] => 0
  | x :: xs => x + b * val b xs
def Dig (b : Nat) (xs : List Nat) : Prop := ∀ x ∈ xs, x < b
def digsF (b : Nat) : Nat → Nat → List Nat
  | 0, _ => []
  | f + 1, n => if n = 0 then [] else (n % b) :: digsF b f (n / b)
/-- the digits of a number, without zeros at the end -/
def digs (b n : Nat) : List Nat := digsF b n n

theorem digsF_fuel (b : Nat) (hb : 1 < b) : ∀ f g n, n ≤ f → n ≤ g → digsF b f n = digsF b g n := by
  intro f
  induction f with
  | zero => intro g n h1 _; obtain rfl : n = 0 := by omega
            cases g <;> simp [digsF]
  | succ f ih =>
    intro g n h1 h2
    by_cases hn : n = 0
    · subst hn; cases g <;> simp [digsF]
    · cases g with
      | zero => omega
      | succ g =>
        have : n / b < n := Nat.div_lt_self (by omega) hb
        simp only [digsF, if_neg hn]
        rw [ih g (n / b) (by omega) (by omega)]
theorem digs_zero (b : Nat) : digs b 0 = [] := rfl
theorem digs_pos (b : Nat) (hb : 1 < b) (n : Nat) (hn : 0 < n) : digs b n = n % b :: digs b (n / b) := by
  have : n / b < n := Nat.div_lt_self hn hb
  unfold digs
  cases n with
  | zero => omega
  | succ n =>
    simp only [digsF, if_neg (Nat.succ_ne_zero n)]
    rw [digsF_fuel b hb n ((n + 1) / b) _ (by omega) (Nat.le_refl _)]
theorem val_nil (b : Nat) : val b [] = 0 := rfl
theorem val_cons (b x : Nat) (xs : List Nat) : val b (x :: xs) = x + b * val b xs := rfl
theorem val_digs (b : Nat) (hb : 1 < b) (n : Nat) : val b (digs b n) = n := by
  induction n using Nat.strongRecOn with
  | ind n ih =>
    by_cases hn : n = 0
    · subst hn; rfl
    · rw [digs_pos b hb n (by omega), val_cons, ih _ (Nat.div_lt_self (by omega) hb)]
      exact Nat.mod_add_div n b
theorem dig_digs (b : Nat) (hb : 1 < b) (n : Nat) : Dig b (digs b n) := by
  induction n using Nat.strongRecOn with
  | ind n ih =>
    by_cases hn : n = 0
    · subst hn; intro x hx; cases hx
    · rw [digs_pos b hb n (by omega)]
      intro x hx
      rcases List.mem_cons.1 hx with rfl | hx
      · exact Nat.mod_lt _ (by omega)
      · exact ih _ (Nat.div_lt_self (by omega) hb) x hx
theorem Dig.tail {b x : Nat} {xs : List Nat} (h : Dig b (x :: xs)) : Dig b xs := fun y hy => h y (List.mem_cons_of_mem _ hy)
theorem Dig.nil (b : Nat) : Dig b [] := fun x hx => by cases hx
theorem Dig.append {b : Nat} {xs ys : List Nat} (h : Dig b xs) (k : Dig b ys) : Dig b (xs ++ ys) := fun y hy => (List.mem_append.1 hy).elim (h y) (k y)
theorem Dig.snoc {b x : Nat} {xs : List Nat} (h : Dig b xs) (k : x < b) : Dig b (xs ++ [x]) := h.append fun y hy => by rw [List.mem_singleton.1 hy]; exact k
theorem Dig.take {b : Nat} {xs : List Nat} (h : Dig b xs) (k : Nat) : Dig b (xs.take k) := fun y hy => h y (List.mem_of_mem_take hy)
theorem Dig.drop {b : Nat} {xs : List Nat} (h : Dig b xs) (k : Nat) : Dig b (xs.drop k) := fun y hy => h y (List.mem_of_mem_drop hy)
theorem Dig.get {b : Nat} (hb : 0 < b) {xs : List Nat} (h : Dig b xs) (k : Nat) : xs.getD k 0 < b := by
  rw [List.getD_eq_getElem?_getD]
  by_cases hk : k < xs.length
  · rw [List.getElem?_eq_getElem hk]; exact h _ (List.getElem_mem hk)
  · rw [List.getElem?_eq_none (by omega)]; exact hb
theorem Dig.set {b : Nat} {xs : List Nat} (h : Dig b xs) (k : Nat) {u : Nat} (hu : u < b) : Dig b (xs.set k u) := fun y hy => by
  rcases List.mem_or_eq_of_mem_set hy with h1 | h1
  · exact h y h1
  · rw [h1]; exact hu
theorem Dig.zeros {b : Nat} (hb : 0 < b) (n : Nat) : Dig b (List.replicate n 0) := fun y hy => by rw [(List.mem_replicate.1 hy).2]; exact hb
theorem val_lt {b : Nat} (_hb : 0 < b) {xs : List Nat} (h : Dig b xs) : val b xs < b ^ xs.length := by
  induction xs with
  | nil => simp [val]
  | cons x xs ih =>
    have h1 := ih h.tail
    have h2 := h x (List.mem_cons_self ..)
    rw [val_cons, List.length_cons, Nat.pow_succ]
    have h3 : b * (val b xs + 1) ≤ b * b ^ xs.length := Nat.mul_le_mul_left _ h1
    rw [Nat.mul_add] at h3
    rw [Nat.mul_comm (b ^ xs.length)]
    omega
theorem digs_of {b : Nat} (hb : 1 < b) : ∀ {xs : List Nat}, Dig b xs → (∀ h : xs ≠ [], xs.getLast h ≠ 0) → digs b (val b xs) = xs := by
  intro xs
  induction xs with
  | nil => intro _ _; rfl
  | cons x xs ih =>
    intro h hl
    have hx := h x (List.mem_cons_self ..)
    by_cases hn : xs = []
    · subst hn
      have h0 : x ≠ 0 := hl (by simp)
      rw [val_cons, val_nil, Nat.mul_zero, Nat.add_zero, digs_pos b hb x (by omega), Nat.mod_eq_of_lt hx, Nat.div_eq_of_lt hx]
      rfl
    · have h1 := ih h.tail (fun hh => by have := hl (by simp); rwa [List.getLast_cons hh] at this)
      have h0 : val b xs ≠ 0 := fun e => hn (by rw [e] at h1; exact h1.symm)
      have hpos : 0 < b * val b xs := Nat.mul_pos (by omega) (by omega)
      rw [val_cons, digs_pos b hb _ (by omega), Nat.add_mul_mod_self_left, Nat.mod_eq_of_lt hx, Nat.add_mul_div_left _ _ (by omega), Nat.div_eq_of_lt hx, Nat.zero_add, h1]
theorem digs_lt {b : Nat} (hb : 1 < b) (n : Nat) : n < b ^ (digs b n).length := by
  have := val_lt (by omega) (dig_digs b hb n)
  rwa [val_digs b hb] at this
theorem digs_len_le {b : Nat} (hb : 1 < b) : ∀ {k n : Nat}, n < b ^ k → (digs b n).length ≤ k := by
  intro k
  induction k with
  | zero => intro n h; obtain rfl : n = 0 := by simp at h; exact h
            simp [digs_zero]
  | succ k ih =>
    intro n h
    by_cases hn : n = 0
    · subst hn; simp [digs_zero]
    · rw [digs_pos b hb n (by omega), List.length_cons]
      have : n / b < b ^ k := by
        rw [Nat.div_lt_iff_lt_mul (by omega)]
        rwa [Nat.pow_succ] at h
      have := ih this
      omega
theorem digs_ge {b : Nat} (hb : 1 < b) {n k : Nat} (h : k < (digs b n).length) : b ^ k ≤ n := by
  rcases Nat.lt_or_ge n (b ^ k) with h1 | h1
  · have := digs_len_le hb h1; omega
  · exact h1
theorem digs_len_two {b : Nat} (hb : 1 < b) {k n : Nat} (h : n < 2 ^ k) : (digs b n).length ≤ k :=
  digs_len_le hb (Nat.lt_of_lt_of_le h (Nat.pow_le_pow_left hb k))
theorem digs_nil {b : Nat} (hb : 1 < b) {n : Nat} : (digs b n).length = 0 ↔ n = 0 := by
  constructor
  · intro h
    have := digs_lt hb n
    rw [h] at this
    simpa using this
  · rintro rfl; rfl
theorem digs_last {b : Nat} (hb : 1 < b) (n : Nat) : ∀ h : digs b n ≠ [], (digs b n).getLast h ≠ 0 := by
  induction n using Nat.strongRecOn with
  | ind n ih =>
    intro h
    by_cases hn : n = 0
    · subst hn; exact absurd rfl h
    · by_cases h2 : digs b (n / b) = []
      · have h3 : n / b = 0 := (digs_nil hb).1 (by rw [h2]; rfl)
        have h4 : n < b := by
          rcases Nat.lt_or_ge n b with h5 | h5
          · exact h5
          · have := Nat.div_pos h5 (by omega); omega
        have h5 : digs b n = [n] := by rw [digs_pos b hb n (by omega), h2, Nat.mod_eq_of_lt h4]
        simp only [h5, List.getLast_singleton]
        omega
      · have h5 := ih (n / b) (Nat.div_lt_self (by omega) hb) h2
        have h6 : digs b n = n % b :: digs b (n / b) := digs_pos b hb n (by omega)
        simp only [h6, List.getLast_cons h2]
        exact h5
theorem val_append (b : Nat) (xs ys : List Nat) : val b (xs ++ ys) = val b xs + b ^ xs.length * val b ys := by
  induction xs with
  | nil => simp [val]
  | cons x xs ih =>
    rw [List.cons_append, val_cons, val_cons, ih, List.length_cons, Nat.pow_succ, Nat.mul_add, Nat.mul_comm (b ^ xs.length) b, Nat.mul_assoc]
    omega
theorem val_snoc (b x : Nat) (xs : List Nat) : val b (xs ++ [x]) = val b xs + b ^ xs.length * x := by
  rw [val_append]; simp [val]
theorem val_zeros (b n : Nat) : val b (List.replicate n 0) = 0 := by
  induction n with
  | zero => rfl
  | succ n ih => rw [List.replicate_succ, val_cons, ih]; simp
theorem val_split (b : Nat) (xs : List Nat) (k : Nat) (hk : k ≤ xs.length) : val b xs = val b (xs.take k) + b ^ k * val b (xs.drop k) := by
  have h := val_append b (xs.take k) (xs.drop k)
  rw [List.take_append_drop, List.length_take, Nat.min_eq_left hk] at h
  exact h
theorem val_drop_step (b : Nat) (xs : List Nat) (k : Nat) (hk : k < xs.length) : val b (xs.drop k) = xs.getD k 0 + b * val b (xs.drop (k + 1)) := by
  rw [List.drop_eq_getElem_cons hk, val_cons, List.getD_eq_getElem?_getD, List.getElem?_eq_getElem hk]; rfl
theorem val_take_step (b : Nat) (xs : List Nat) (k : Nat) (hk : k < xs.length) : val b (xs.take (k + 1)) = val b (xs.take k) + b ^ k * xs.getD k 0 := by
  rw [List.take_succ_eq_append_getElem hk, val_snoc, List.length_take, Nat.min_eq_left (by omega), List.getD_eq_getElem?_getD, List.getElem?_eq_getElem hk]; rfl
theorem val_set (b : Nat) : ∀ (xs : List Nat) (k u : Nat), k < xs.length → val b (xs.set k u) + b ^ k * xs.getD k 0 = val b xs + b ^ k * u := by
  intro xs
  induction xs with
  | nil => intro k u h; simp at h
  | cons x xs ih =>
    intro k u h
    cases k with
    | zero => simp only [List.set_cons_zero, val_cons, Nat.pow_zero, List.getD_cons_zero]; omega
    | succ k =>
      have := ih k u (by simpa using h)
      simp only [List.set_cons_succ, val_cons, List.getD_cons_succ]
      have h2 : b * (val b (xs.set k u) + b ^ k * xs.getD k 0) = b * (val b xs + b ^ k * u) := by rw [this]
      rw [Nat.mul_add, Nat.mul_add, ← Nat.mul_assoc, ← Nat.mul_assoc, Nat.mul_comm b (b ^ k), ← Nat.pow_succ, Nat.succ_eq_add_one] at h2
      omega
/-- the value of a prefix; behind the end there are zeros -/
def vpre (b : Nat) (xs : List Nat) : Nat → Nat
  | 0 => 0
  | k + 1 => vpre b xs k + b ^ k * xs.getD k 0
theorem vpre_take (b : Nat) (xs : List Nat) : ∀ k, k ≤ xs.length → vpre b xs k = val b (xs.take k) := by
  intro k
  induction k with
  | zero => intro _; rfl
  | succ k ih => intro h; rw [vpre, ih (by omega), val_take_step b xs k (by omega)]
theorem vpre_full (b : Nat) (xs : List Nat) : ∀ k, xs.length ≤ k → vpre b xs k = val b xs := by
  intro k
  induction k with
  | zero => intro h; obtain rfl : xs = [] := List.eq_nil_of_length_eq_zero (by omega)
            rfl
  | succ k ih =>
    intro h
    by_cases hk : xs.length ≤ k
    · rw [vpre, ih hk, List.getD_eq_getElem?_getD, List.getElem?_eq_none hk]; simp
    · rw [vpre_take b xs (k + 1) (by omega), List.take_of_length_le (by omega)]
/-- a step of a digit and a carry -/
theorem carry_step (b p v v' s c : Nat) (d c' : Nat) (hd : d = (s + c) % b) (hc : c' = (s + c) / b) (h : v + p * c = v') : (v + p * d) + p * b * c' = v' + p * s := by
  have h1 : d + b * c' = s + c := by rw [hd, hc]; exact Nat.mod_add_div _ _
  have h2 : p * (d + b * c') = p * (s + c) := by rw [h1]
  rw [Nat.mul_add, Nat.mul_add, ← Nat.mul_assoc] at h2
  omega
/-- what trimming leaves -/
theorem trim_digs {b : Nat} (hb : 1 < b) (xs : List Nat) (k : Nat) (hk : k ≤ xs.length) (h0 : ∀ j, k ≤ j → xs.getD j 0 = 0) (h1 : k = 0 ∨ xs.getD (k - 1) 0 ≠ 0) (hd : Dig b xs) : xs.take k = digs b (val b xs) := by
  have hz : val b (xs.drop k) = 0 := by
    have : ∀ (ys : List Nat), (∀ j, ys.getD j 0 = 0) → val b ys = 0 := by
      intro ys
      induction ys with
      | nil => intro _; rfl
      | cons y ys ih =>
        intro h
        have hy := h 0
        rw [List.getD_cons_zero] at hy
        rw [val_cons, hy, ih (fun j => by have := h (j + 1); rwa [List.getD_cons_succ] at this)]
        simp
    refine this _ fun j => ?_
    have := h0 (k + j) (by omega)
    rw [List.getD_eq_getElem?_getD] at this ⊢
    rwa [List.getElem?_drop]
  have hv : val b xs = val b (xs.take k) := by rw [val_split b xs k hk, hz]; simp
  rw [hv]
  refine (digs_of hb (hd.take k) ?_).symm
  intro hne
  have hlt : (xs.take k).length = k := by rw [List.length_take, Nat.min_eq_left hk]
  have hk0 : 0 < k := by
    rcases Nat.eq_zero_or_pos k with h | h
    · subst h; exact absurd rfl hne
    · exact h
  rw [List.getLast_eq_getElem]
  rcases h1 with h1 | h1
  · omega
  · rw [List.getD_eq_getElem?_getD, List.getElem?_eq_getElem (by omega)] at h1
    simp only [hlt, List.getElem_take]
    exact h1
theorem val_cmp_at {b : Nat} (hb : 0 < b) (xs ys : List Nat) (hx : Dig b xs) (k : Nat) (h1 : k < xs.length) (h2 : k < ys.length) (hd : xs.drop (k + 1) = ys.drop (k + 1)) (hlt : xs.getD k 0 < ys.getD k 0) : val b xs < val b ys := by
  rw [val_split b xs k (by omega), val_split b ys k (by omega), val_drop_step b xs k h1, val_drop_step b ys k h2, hd]
  have h3 := val_lt hb (hx.take k)
  rw [List.length_take, Nat.min_eq_left (by omega)] at h3
  have h4 : b ^ k * (xs.getD k 0 + b * val b (ys.drop (k + 1)) + 1) ≤ b ^ k * (ys.getD k 0 + b * val b (ys.drop (k + 1))) := Nat.mul_le_mul_left _ (by omega)
  rw [Nat.mul_add _ _ 1] at h4
  omega
theorem digs_len_lt {b : Nat} (hb : 1 < b) {x y : Nat} (h : (digs b x).length < (digs b y).length) : x < y :=
  Nat.lt_of_lt_of_le (digs_lt hb x) (digs_ge hb h)
/-- -1, 0 or 1 -/
def cmpI (a b : Int) : Int := if a < b then -1 else if b < a then 1 else 0
theorem cmpI_lt {a b : Int} (h : a < b) : cmpI a b = -1 := if_pos h
theorem cmpI_gt {a b : Int} (h : b < a) : cmpI a b = 1 := by unfold cmpI; rw [if_neg (by omega), if_pos h]
theorem cmpI_eq {a b : Int} (h : a = b) : cmpI a b = 0 := by unfold cmpI; rw [if_neg (by omega), if_neg (by omega)]
theorem cmpI_range (a b : Int) : -1 ≤ cmpI a b ∧ cmpI a b ≤ 1 := by unfold cmpI; split <;> (try split) <;> omega
theorem cmpI_zero {a b : Int} : cmpI a b = 0 ↔ a = b := by unfold cmpI; split <;> (try split) <;> omega
theorem cmpI_neg {a b : Int} : cmpI a b < 0 ↔ a < b := by unfold cmpI; split <;> (try split) <;> omega

/-- a number whose absolute value has at most so many bits -/
def Sm (z : Int) (k : Nat) : Prop := z.natAbs < 2 ^ k
theorem Sm.mono {z : Int} {k l : Nat} (h : Sm z k) (hl : k ≤ l) : Sm z l := Nat.lt_of_lt_of_le h (Nat.pow_le_pow_right (by decide) hl)
theorem Sm.add {x y : Int} {k : Nat} (hx : Sm x k) (hy : Sm y k) : Sm (x + y) (k + 1) := by
  have := Int.natAbs_add_le x y
  unfold Sm at *
  rw [Nat.pow_succ]
  omega
theorem Sm.neg {x : Int} {k : Nat} (hx : Sm x k) : Sm (-x) k := by unfold Sm at *; rwa [Int.natAbs_neg]
theorem Sm.sub {x y : Int} {k : Nat} (hx : Sm x k) (hy : Sm y k) : Sm (x - y) (k + 1) := by rw [Int.sub_eq_add_neg]; exact hx.add hy.neg
theorem Sm.mul {x y : Int} {k l : Nat} (hx : Sm x k) (hy : Sm y l) : Sm (x * y) (k + l) := by
  unfold Sm at *
  rw [Int.natAbs_mul, Nat.pow_add]
  exact Nat.mul_lt_mul'' hx hy
theorem Sm.len {x : Int} {k b : Nat} (hb : 1 < b) (h : Sm x k) : (digs b x.natAbs).length ≤ k := digs_len_two hb h
theorem Sm.zero (k : Nat) : Sm 0 k := Nat.pow_pos (by decide)
/-! lengths, the exponents variables -/
theorem digs_mul_len {b : Nat} (hb : 1 < b) {x y k l : Nat} (hx : (digs b x).length ≤ k) (hy : (digs b y).length ≤ l) : (digs b (x * y)).length ≤ k + l := by
  have h1 := Nat.lt_of_lt_of_le (digs_lt hb x) (Nat.pow_le_pow_right (by omega) hx)
  have h2 := Nat.lt_of_lt_of_le (digs_lt hb y) (Nat.pow_le_pow_right (by omega) hy)
  exact digs_len_le hb (by rw [Nat.pow_add]; exact Nat.mul_lt_mul'' h1 h2)
theorem digs_add_len {b : Nat} (hb : 1 < b) {x y k : Nat} (hx : (digs b x).length ≤ k) (hy : (digs b y).length ≤ k) : (digs b (x + y)).length ≤ k + 1 := by
  have h1 := Nat.lt_of_lt_of_le (digs_lt hb x) (Nat.pow_le_pow_right (by omega) hx)
  have h2 := Nat.lt_of_lt_of_le (digs_lt hb y) (Nat.pow_le_pow_right (by omega) hy)
  have h3 : b ^ k * 2 ≤ b ^ k * b := Nat.mul_le_mul_left _ hb
  exact digs_len_le hb (by rw [Nat.pow_succ]; omega)
theorem words_two (k m n : Nat) (hm : m = 32 * k) : (digs 4294967296 n).length ≤ k ↔ n < 2 ^ m := by
  have e : (4294967296 : Nat) ^ k = 2 ^ m := by rw [hm, Nat.pow_mul]
  rw [← e]
  exact ⟨fun h => Nat.lt_of_lt_of_le (digs_lt (by decide) n) (Nat.pow_le_pow_right (by decide) h), fun h => digs_len_le (by decide) h⟩
theorem words_ten (k l m n : Nat) (hm : m = 32 * k) (h : (digs 4294967296 n).length ≤ l) (hl : l ≤ k) : (digs 10 n).length ≤ m :=
  digs_len_two (by decide) ((words_two k m n hm).1 (Nat.le_trans h hl))
theorem ten_words (k m n : Nat) (h : n < 10 ^ m) (hm : m ≤ 9 * k) : (digs 4294967296 n).length ≤ k := by
  refine digs_len_le (by decide) (Nat.lt_of_lt_of_le h (Nat.le_trans (Nat.pow_le_pow_right (by decide) hm) ?_))
  rw [Nat.pow_mul]
  exact Nat.pow_le_pow_left (by decide) k
theorem two_ten (k m n : Nat) (h : n < 2 ^ m) (hm : m ≤ 93 * k) : (digs 10 n).length ≤ 28 * k := by
  refine digs_len_le (by decide) (Nat.lt_of_lt_of_le h (Nat.le_trans (Nat.pow_le_pow_right (by decide) hm) ?_))
  rw [Nat.pow_mul, Nat.pow_mul]
  exact Nat.pow_le_pow_left (by decide) k
/-- a step of a digit and a borrow -/
theorem borrow_step (p b v v' x y c d c' : Nat) (h1 : d + y + c = x + b * c') (h : v' + p * c = v) : (v' + p * x) + p * b * c' = (v + p * d) + p * y := by
  have h2 : p * (d + y + c) = p * (x + b * c') := by rw [h1]
  rw [Nat.mul_add, Nat.mul_add, Nat.mul_add, ← Nat.mul_assoc] at h2
  omega
end Go.Proofs.YtmpdoikdadjneaaDoor.Vm

/- Lists of words in memory; trim and word. -/
namespace Go.Proofs.YtmpdoikdadjneaaDoor
open Go.RowKit Hb Vm Ds

theorem infoU32 : (Tryd.prog.info? 81).map (fun i => (i.zero, i.size, i.bytes)) = some (some (.int .u32 0), 1, 4) := by kernel_rfl
def uw (n : Nat) : Value := .int .u32 (n : Int)
theorem uw_one (n : Nat) : (uw n).oneCell' = true := rfl
/-- the words of a number -/
def ws (n : Nat) : List Nat := digs 4294967296 n
def wval (xs : List Nat) : Nat := val 4294967296 xs
theorem ws_val (n : Nat) : wval (ws n) = n := val_digs _ (by decide) n
theorem ws_dig (n : Nat) : Dig 4294967296 (ws n) := dig_digs _ (by decide) n
/-- a slice that reads the words of a number -/
def Wl (W : World) (B : Nat) (v : Value) (n : Nat) : Prop := ∃ A c, v = .slice A (ws n).length c ∧ Rd W B A (ws n).length ((ws n).map uw) ∧ (ws n).length ≤ c ∧ c ≤ maxLen
theorem Wl.later {W W' : World} {B B' : Nat} {v : Value} {n : Nat} (h : Wl W B v n) (hb : Below B W W') (hB : B ≤ B') : Wl W' B' v n :=
  let ⟨A, c, e, hr, h1, h2⟩ := h; ⟨A, c, e, hr.later hb hB, h1, h2⟩
theorem Wl.nil (W : World) (B : Nat) : Wl W B (.slice none 0 0) 0 := ⟨none, 0, rfl, Rd.nil _ _ _, Nat.le_refl _, Nat.zero_le _⟩
/-- the cell of an element -/
theorem Rd.word {W : World} {B n k : Nat} {A : Option Addr} {xs : List Nat} (h : Rd W B A n (xs.map uw)) (hk : k < n) : ∃ a, A = some a ∧ a.block < B ∧ W.cell? (a.add k) = some (.int .u32 (xs.getD k 0 : Nat)) := by
  obtain ⟨a, u, e, hb, hu, hc⟩ := h.at hk
  refine ⟨a, e, hb, ?_⟩
  rw [hc]
  have hl : k < xs.length := by have := h.1; simp at this; omega
  rw [List.getElem?_map, List.getElem?_eq_getElem hl] at hu
  rw [List.getD_eq_getElem?_getD, List.getElem?_eq_getElem hl]
  exact hu.symm

set_option maxHeartbeats 1000000 in
theorem word_any (A : Option Addr) (n c k B : Nat) (xs : List Nat) (_hn : n ≤ maxLen) (K : Int) (hK : K = (k : Int)) (_hk : k ≤ maxLen) (hd : Dig 4294967296 xs) (w : World) (hr : Rd w B A n (xs.map uw)) :
    Calls Tryd.prog 57 #[.slice A n c, .int .i64 K] w fun e w' => (∃ u : Nat, e = .returned (.int .u64 u) ∧ u = xs.getD k 0 ∧ u < 4294967296) ∧ w = w' := by
  subst hK
  have hlt := hd.get (by decide) k
  by_cases h : k < n
  · obtain ⟨a, rfl, hb, hc⟩ := Rd.word hr h
    obtain ⟨u, hu⟩ : ∃ u, u = xs.getD k 0 := ⟨_, rfl⟩
    rw [← hu] at hc hlt
    have HU := Lib.hid hu
    clear hu hr
    go_enter Tryd.func57, Tryd.ntmps57
    go_wp2
    go_ret
    exact ⟨⟨u, rfl, HU.out, hlt⟩, rfl⟩
  · have h0 : xs.getD k 0 = 0 := by
      have hl := hr.1
      simp at hl
      rw [List.getD_eq_getElem?_getD, List.getElem?_eq_none (by omega)]; rfl
    have H0 := Lib.hid h0
    clear h0 hr
    go_enter Tryd.func57, Tryd.ntmps57
    go_wp2
    go_ret
    exact ⟨⟨0, rfl, H0.out.symm, by decide⟩, rfl⟩

theorem trim_take {B n k c : Nat} {A : Option Addr} {xs : List Nat} {W : World} (hr : Rd W B A n (xs.map uw)) (hnc : n ≤ c) (hc : c ≤ maxLen) (hd : Dig 4294967296 xs) (hk : k ≤ n) (h0 : ∀ j, k ≤ j → xs.getD j 0 = 0) (h1 : k = 0 ∨ xs.getD (k - 1) 0 ≠ 0) :
    Wl W B (.slice A k c) (wval xs) := by
  have hl : xs.length = n := by simpa using hr.1
  have ht := trim_digs (by decide) xs k (by omega) h0 h1 hd
  have hlen : (ws (wval xs)).length = k := by
    unfold ws wval
    rw [← ht, List.length_take]; omega
  refine ⟨A, c, by rw [hlen], ?_, by omega, hc⟩
  rw [hlen]
  unfold ws wval
  rw [← ht, List.map_take]
  exact hr.take k hk

theorem trim_len {B n k : Nat} {A : Option Addr} {xs : List Nat} {W : World} (hr : Rd W B A n (xs.map uw)) (hd : Dig 4294967296 xs) (hk : k ≤ n) (h0 : ∀ j, k ≤ j → xs.getD j 0 = 0) (h1 : k = 0 ∨ xs.getD (k - 1) 0 ≠ 0) : (ws (wval xs)).length = k := by
  have hl : xs.length = n := by simpa using hr.1
  have ht := trim_digs (by decide) xs k (by omega) h0 h1 hd
  unfold ws wval
  rw [← ht, List.length_take]; omega
theorem trim_ex (xs : List Nat) : ∀ m, m ≤ xs.length → (∀ j, m ≤ j → xs.getD j 0 = 0) → ∃ k, k ≤ xs.length ∧ (∀ j, k ≤ j → xs.getD j 0 = 0) ∧ (k = 0 ∨ xs.getD (k - 1) 0 ≠ 0) := by
  intro m
  induction m with
  | zero => intro h1 h2; exact ⟨0, h1, h2, .inl rfl⟩
  | succ m ih =>
    intro h1 h2
    by_cases h : xs.getD m 0 = 0
    · refine ih (by omega) fun j hj => ?_
      by_cases hjm : j = m
      · rw [hjm]; exact h
      · exact h2 j (by omega)
    · exact ⟨m + 1, h1, h2, .inr (by rw [Nat.add_sub_cancel]; exact h)⟩
/-- the words of a number, in front of a row of words -/
theorem trim_wl {B n c : Nat} {A : Option Addr} {xs : List Nat} {W : World} (hr : Rd W B A n (xs.map uw)) (hnc : n ≤ c) (hc : c ≤ maxLen) (hd : Dig 4294967296 xs) : Wl W B (.slice A (ws (wval xs)).length c) (wval xs) := by
  have hl : xs.length = n := by simpa using hr.1
  obtain ⟨k, hk, h0, h1⟩ := trim_ex xs xs.length (Nat.le_refl _) fun j hj => by rw [List.getD_eq_getElem?_getD, List.getElem?_eq_none hj]; rfl
  rw [trim_len hr hd (by omega) h0 h1]
  exact trim_take hr hnc hc hd (by omega) h0 h1

set_option maxHeartbeats 1000000 in
theorem trim_at (A : Option Addr) (n c B : Nat) (xs : List Nat) (hnc : n ≤ c) (hc : c ≤ maxLen) (hd : Dig 4294967296 xs) (w : World) (hr : Rd w B A n (xs.map uw)) :
    Calls Tryd.prog 56 #[.slice A n c] w fun e w' => e = .returned (.slice A (ws (wval xs)).length c) ∧ w = w' := by
  have hc' := hc
  unfold maxLen at hc
  have hl : xs.length = n := by simpa using hr.1
  have HL := Lib.hid hl
  have HC := Lib.hid hc'
  clear hl hc'
  go_enter Tryd.func56, Tryd.ntmps56
  go_wp2
  go_loop [3] (fun v => ∃ k : Nat, k ≤ n ∧ v = .int .i64 k ∧ ∀ j, k ≤ j → xs.getD j 0 = 0) (fun v => (intOf v).toNat)
  case atStart => exact ⟨n, Nat.le_refl _, rfl, fun j hj => by rw [List.getD_eq_getElem?_getD, List.getElem?_eq_none (by rw [HL.out]; exact hj)]; rfl⟩
  case round =>
    obtain ⟨k, hk, rfl, h0⟩ := hrel
    have H0 := Lib.hid h0
    clear h0
    cases k with
    | zero =>
      go_wp2
      go_ret
      exact ⟨by rw [trim_len hr hd (by omega) H0.out (.inl rfl)]; rfl, rfl⟩
    | succ k =>
      obtain ⟨a, rfl, hb, hcell⟩ := Rd.word hr (show k < n by omega)
      obtain ⟨u, hu⟩ : ∃ u, u = xs.getD k 0 := ⟨_, rfl⟩
      rw [← hu] at hcell
      have HU := Lib.hid hu
      clear hu
      by_cases hz : u = 0
      · subst hz
        go_wp2
        go_round
        case rel =>
          refine ⟨k, by omega, by go_num, fun j hj => ?_⟩
          by_cases hjk : j = k
          · rw [hjk]; exact HU.out.symm
          · exact H0.out j (by omega)
        case measure => simp [intOf]
      · have hz' : ((u : Int) == 0) = false := by simp; omega
        have HZ := Lib.hid hz
        clear hz
        go_wp2
        go_ret
        exact ⟨by rw [trim_len (k := k + 1) hr hd (by omega) H0.out (.inr (by rw [Nat.add_sub_cancel, ← HU.out]; exact HZ.out))]; rfl, rfl⟩
theorem trim_any (A : Option Addr) (n c B : Nat) (xs : List Nat) (hnc : n ≤ c) (hc : c ≤ maxLen) (hd : Dig 4294967296 xs) (w : World) (hr : Rd w B A n (xs.map uw)) :
    Calls Tryd.prog 56 #[.slice A n c] w fun e w' => (∃ v, e = .returned v ∧ Wl w B v (wval xs)) ∧ w = w' :=
  (trim_at A n c B xs hnc hc hd w hr).mono fun _ _ ⟨he, hw⟩ => ⟨⟨_, he, trim_wl hr hnc hc hd⟩, hw⟩
end Go.Proofs.YtmpdoikdadjneaaDoor

/- Rows of the call's own, the functions that pass carries and borrows on, and Sub32. -/
namespace Go.Proofs.YtmpdoikdadjneaaDoor
open Go.RowKit Hb Vm Ds

/-- block g is a row of elements of one cell each -/
def Row (W : World) (g : Nat) (t : TypeId) (vs : List Value) : Prop := W.heap[g]? = some (.cells vs.toArray t (0, 0))
section
variable {W W' : World} {g g' : Nat} {t : TypeId} {vs : List Value}
theorem Row.lt (h : Row W g t vs) : g < W.heap.size := (Array.getElem?_eq_some_iff.1 h).1
theorem Row.kept (h : Row W g t vs) (hk : W'.heap[g]? = W.heap[g]?) : Row W' g t vs := hk.trans h
theorem Row.below {B : Nat} (h : Row W g t vs) (hb : Below B W W') (hg : g < B) : Row W' g t vs := h.kept (hb.block g hg)
theorem Row.but {B p : Nat} (h : Row W g t vs) (hb : But B p W W') (hg : g < B) (hp : g ≠ p) : Row W' g t vs := h.kept (hb.block hg hp)
theorem Row.cell (h : Row W g t vs) (k : Nat) (v : Value) (hk : vs[k]? = some v) : W.cell? ⟨g, k, none⟩ = some v := by
  have h' : W.heap[g]? = some (.cells vs.toArray t (0, 0)) := h
  simp [World.cell?, h', hk]
theorem Row.frozen (h : Row W g t vs) (k : Nat) : W.frozen? ⟨g, k, none⟩ = false := by
  have h' : W.heap[g]? = some (.cells vs.toArray t (0, 0)) := h
  simp [World.frozen?, h']
theorem Row.set (h : Row W g t vs) (k : Nat) (u : Value) : Row (W.setCell ⟨g, k, none⟩ u) g t (vs.set k u) := by
  obtain ⟨hlt, hk⟩ := Array.getElem?_eq_some_iff.1 h
  show (W.heap.modify g _)[g]? = _
  rw [Array.getElem?_eq_getElem (by rw [Array.size_modify]; exact hlt), Array.getElem_modify_self, hk]
  simp
theorem Row.cast {ws : List Value} (h : Row W g t vs) (e : vs = ws) : Row W g t ws := e ▸ h
theorem Row.other (h : Row W g t vs) {p : Nat} (o : Nat) (u : Value) (hp : g ≠ p) : Row (W.setCell ⟨p, o, none⟩ u) g t vs := h.kept (Below.heap_setCell _ _ _ _ hp)
theorem Row.rd (h : Row W g t vs) (n : Nat) (hn : n = vs.length) : Rd W (g + 1) (some ⟨g, 0, none⟩) n vs :=
  ⟨hn.symm, fun _ => ⟨_, rfl, by simp, fun j u hj => by rw [add_plain, Nat.zero_add]; exact h.cell j u hj⟩⟩
theorem Row.rdAt (h : Row W g t vs) (o n : Nat) (hn : o + n ≤ vs.length) : Rd W (g + 1) (some ⟨g, o, none⟩) n ((vs.drop o).take n) := by
  refine ⟨by simp; omega, fun _ => ⟨_, rfl, by simp, fun j u hj => ?_⟩⟩
  rw [add_plain]
  refine h.cell _ u ?_
  rw [List.getElem?_take] at hj
  split at hj
  · rwa [List.getElem?_drop] at hj
  · cases hj
theorem Row.alloc (h : Row W g t vs) (o : Obj) : Row (W.alloc o) g t vs := h.kept (Below.heap_alloc _ _ _ h.lt)
end
theorem zeros_map (n : Nat) (f : Nat → Value) : (madeCells #[f 0] n).toList = (List.replicate n 0).map f := by
  rw [toList_madeCells_one, List.map_replicate]
def mkW (n : Nat) : Obj := .cells ((List.replicate n 0).map uw).toArray 81
/-- make([]uint32, n) -/
theorem makeW (n : Nat) (hn : n ≤ 1000000) (W : World) : Sem.run Tryd.prog (Instr.makeSlice 31 (.int .i64 (n : Int)) (.int .i64 (n : Int))) W = .ok (.slice (some ⟨W.heap.size, 0, none⟩) n n) (W.alloc (mkW n)) := by
  obtain ⟨i0, hi, hz0, hz1, hz2⟩ := info_parts infoU32
  have h := run_make (P := Tryd.prog) W 31 81 i0 _ Tryd.underlying31 hi hz0 .i64 .i64 n n (by omega) (Int.le_refl _) (by rw [hz2]; omega) (by omega)
  rw [hz1] at h
  have e : madeCells #[Value.int .u32 0] n = ((List.replicate n 0).map uw).toArray := by rw [← zeros_map n uw]; rfl
  simp only [Int.toNat_natCast, Nat.mul_one, Value.cells] at h
  rw [e] at h
  exact h
theorem mkW_row (n : Nat) (W : World) : Row (W.alloc (mkW n)) W.heap.size 81 ((List.replicate n 0).map uw) := World.alloc_heap_new W _
theorem mkW_below (n : Nat) (W : World) : Below W.heap.size W (W.alloc (mkW n)) := (Below.refl _ W).alloc (Nat.le_refl _) _

/-! ### the closures -/
def passV (b : Nat) : Value := .func (.func 89) #[] #[.pointer (some ⟨b, 0, none⟩)]
def takeV (b : Nat) : Value := .func (.func 92) #[] #[.pointer (some ⟨b, 0, none⟩)]
def U64 (W : World) (b c : Nat) : Prop := Boxed W b 75 (.int .u64 (c : Int))
def U32 (W : World) (b c : Nat) : Prop := Boxed W b 81 (.int .u32 (c : Int))
theorem U64.lt {W : World} {b c : Nat} (h : U64 W b c) : b < W.heap.size := Boxed.lt h
theorem U32.lt {W : World} {b c : Nat} (h : U32 W b c) : b < W.heap.size := Boxed.lt h
theorem U64.kept {W W' : World} {b c : Nat} (h : U64 W b c) (hk : W'.heap[b]? = W.heap[b]?) : U64 W' b c := hk.trans h
theorem U32.kept {W W' : World} {b c : Nat} (h : U32 W b c) (hk : W'.heap[b]? = W.heap[b]?) : U32 W' b c := hk.trans h

set_option maxHeartbeats 1000000 in
theorem carrier_any (C : Int) (w : World) : Calls Tryd.prog 73 #[.int .u64 C] w fun e W' => e = .returned (passV w.heap.size) ∧ W' = w.alloc (.cells #[.int .u64 C] 75) := by
  go_enter Tryd.func73, Tryd.ntmps73
  go_wp2
  go_ret
  exact ⟨rfl, rfl⟩
/-- the box of a new carrier -/
theorem carrier_box (c : Nat) (w : World) : U64 (w.alloc (.cells #[.int .u64 (c : Int)] 75)) w.heap.size c := Boxed.new w _ _
set_option maxHeartbeats 1000000 in
theorem borrower_any (w : World) : Calls Tryd.prog 77 #[] w fun e W' => e = .returned (takeV w.heap.size) ∧ W' = w.alloc (.cells #[.int .u32 0] 81) := by
  go_enter Tryd.func77, Tryd.ntmps77
  go_wp2
  go_ret
  exact ⟨rfl, rfl⟩
theorem borrower_box (w : World) : U32 (w.alloc (.cells #[.int .u32 0] 81)) w.heap.size 0 := Boxed.new w _ _

theorem shr32 (v : Nat) (_h : v < 18446744073709551616) : (v : Int) / 4294967296 = ((v / 4294967296 : Nat) : Int) := by omega
set_option maxHeartbeats 1000000 in
theorem pass_any (S : Int) (s c b : Nat) (hS : S = (s : Int)) (h : s + c < 18446744073709551616) (w : World) (hb : U64 w b c) :
    Calls Tryd.prog 89 #[.int .u64 S, .pointer (some ⟨b, 0, none⟩)] w fun e W' => (∃ d c' : Nat, e = .returned (.int .u32 d) ∧ d = (s + c) % 4294967296 ∧ c' = (s + c) / 4294967296 ∧ U64 W' b c') ∧ But w.heap.size b w W' ∧ W'.heap.size = w.heap.size := by
  subst hS
  have c0 := Boxed.cell hb
  have f0 := Boxed.frozen hb
  have hb2 : ∀ v, Boxed (w.setCell ⟨b, 0, none⟩ v) b 75 v := fun v => Boxed.set v hb
  have HB2 := Lib.hid hb2
  obtain ⟨t, ht⟩ : ∃ t, t = s + c := ⟨_, rfl⟩
  have e1 : (s : Int) + (c : Int) = (t : Int) := by omega
  have htl : t < 18446744073709551616 := by omega
  obtain ⟨q, hq⟩ : ∃ q, q = t / 4294967296 := ⟨_, rfl⟩
  have e2 : (t : Int) / 4294967296 = (q : Int) := by rw [hq]; omega
  have HQ := Lib.hid hq
  have HT := Lib.hid ht
  clear hb hb2 hq ht h
  go_enter Tryd.func89, Tryd.ntmps89
  go_wp2
  go_ret
  refine ⟨⟨t % 4294967296, q, ?_, by rw [HT.out], by rw [HQ.out, HT.out], HB2.out _⟩, But.setCell _ _ _ _ _, by simp⟩
  show Ending.returned (.int .u32 ((t : Int) % 4294967296)) = _
  exact ret_int (by omega)

theorem w32 (n : Nat) (h : n < 4294967296) : IntKind.u32.wrap (n : Int) = (n : Int) := by rw [IntKind.wrap_u32]; omega
theorem of32 (a : Nat) (ha : a < 4294967296) : (BitVec.ofInt 32 (a : Int)).toNat = a := by rw [BitVec.ofInt_natCast, BitVec.toNat_ofNat]; exact Nat.mod_eq_of_lt (by omega)
theorem and32 (a b : Nat) (ha : a < 4294967296) (hb : b < 4294967296) : bits .and .u32 (a : Int) (b : Int) = ((a &&& b : Nat) : Int) := by
  have hx : a &&& b < 2 ^ 32 := Nat.and_lt_two_pow _ (by omega)
  show IntKind.u32.wrap ((BitVec.ofInt 32 (a : Int) &&& BitVec.ofInt 32 (b : Int)).toNat : Int) = _
  rw [BitVec.toNat_and, of32 a ha, of32 b hb, w32 _ (by omega)]
theorem or32 (a b : Nat) (ha : a < 4294967296) (hb : b < 4294967296) : bits .or .u32 (a : Int) (b : Int) = ((a ||| b : Nat) : Int) := by
  have hx : a ||| b < 2 ^ 32 := Nat.or_lt_two_pow (by omega) (by omega)
  show IntKind.u32.wrap ((BitVec.ofInt 32 (a : Int) ||| BitVec.ofInt 32 (b : Int)).toNat : Int) = _
  rw [BitVec.toNat_or, of32 a ha, of32 b hb, w32 _ (by omega)]
theorem xor32 (a b : Nat) (ha : a < 4294967296) (hb : b < 4294967296) : bits .xor .u32 (a : Int) (b : Int) = ((a ^^^ b : Nat) : Int) := by
  have hx : a ^^^ b < 2 ^ 32 := Nat.xor_lt_two_pow (by omega) (by omega)
  show IntKind.u32.wrap ((BitVec.ofInt 32 (a : Int) ^^^ BitVec.ofInt 32 (b : Int)).toNat : Int) = _
  rw [BitVec.toNat_xor, of32 a ha, of32 b hb, w32 _ (by omega)]
theorem top32 (a : Nat) (ha : a < 4294967296) : a.testBit 31 = decide (2147483648 ≤ a) := by
  rw [Nat.testBit_eq_decide_div_mod_eq]
  by_cases h : 2147483648 ≤ a
  · rw [decide_eq_true h, decide_eq_true]; omega
  · rw [decide_eq_false h, decide_eq_false]; omega
theorem top_div (a : Nat) (ha : a < 4294967296) : a / 2147483648 = if a.testBit 31 then 1 else 0 := by
  rw [top32 a ha]
  by_cases h : 2147483648 ≤ a
  · rw [decide_eq_true h]; simp; omega
  · rw [decide_eq_false h]; simp; omega
/-- what Sub32 answers as the borrow -/
theorem borrow32 (x y c d : Nat) (hx : x < 4294967296) (hy : y < 4294967296) (hc : c ≤ 1) (hd : d = (x + 8589934592 - y - c) % 4294967296) :
    bits .or .u32 (bits .and .u32 (bits .xor .u32 IntKind.u32.max (x : Int)) (y : Int)) (bits .and .u32 (bits .xor .u32 IntKind.u32.max (bits .xor .u32 (x : Int) (y : Int))) (d : Int)) / 2147483648 = if x < y + c then 1 else 0 := by
  have hd' : d < 4294967296 := by omega
  have hm : IntKind.u32.max = ((4294967295 : Nat) : Int) := rfl
  have hp : (2 : Nat) ^ 32 = 4294967296 := rfl
  have b1 : 4294967295 ^^^ x < 2 ^ 32 := Nat.xor_lt_two_pow (by omega) (by omega)
  have b2 : x ^^^ y < 2 ^ 32 := Nat.xor_lt_two_pow (by omega) (by omega)
  have b3 : 4294967295 ^^^ (x ^^^ y) < 2 ^ 32 := Nat.xor_lt_two_pow (by omega) b2
  have b4 : (4294967295 ^^^ x) &&& y < 2 ^ 32 := Nat.and_lt_two_pow _ (by omega)
  have b5 : (4294967295 ^^^ (x ^^^ y)) &&& d < 2 ^ 32 := Nat.and_lt_two_pow _ (by omega)
  have b6 : ((4294967295 ^^^ x) &&& y) ||| ((4294967295 ^^^ (x ^^^ y)) &&& d) < 2 ^ 32 := Nat.or_lt_two_pow b4 b5
  rw [hm, xor32 _ x (by decide) hx, xor32 x y hx hy, xor32 _ _ (by decide) (by omega), and32 _ y (by omega) hy, and32 _ d (by omega) hd', or32 _ _ (by omega) (by omega)]
  have h1 := top_div _ (show ((4294967295 ^^^ x) &&& y) ||| ((4294967295 ^^^ (x ^^^ y)) &&& d) < 4294967296 by omega)
  rw [show (((((4294967295 ^^^ x) &&& y) ||| ((4294967295 ^^^ (x ^^^ y)) &&& d) : Nat) : Int)) / 2147483648 = (((((4294967295 ^^^ x) &&& y) ||| ((4294967295 ^^^ (x ^^^ y)) &&& d)) / 2147483648 : Nat) : Int) from by omega, h1]
  simp only [Nat.testBit_or, Nat.testBit_and, Nat.testBit_xor, top32 x hx, top32 y hy, top32 d hd', show Nat.testBit 4294967295 31 = true from by decide]
  by_cases p1 : 2147483648 ≤ x <;> by_cases p2 : 2147483648 ≤ y <;> by_cases p3 : 2147483648 ≤ d <;> simp only [p1, p2, p3, decide_true, decide_false] <;> by_cases p4 : x < y + c <;> simp [p4] <;> omega

set_option maxHeartbeats 1000000 in
theorem sub32_any (x y c : Nat) (hx : x < 4294967296) (hy : y < 4294967296) (hc : c ≤ 1) (w : World) :
    Calls Tryd.prog 93 #[.int .u32 (x : Int), .int .u32 (y : Int), .int .u32 (c : Int)] w fun e W' => (∃ d c' : Nat, e = .returned (.tuple #[.int .u32 d, .int .u32 c']) ∧ d + y + c = x + 4294967296 * c' ∧ d < 4294967296 ∧ c' ≤ 1) ∧ w = W' := by
  go_enter Tryd.func93, Tryd.ntmps93
  go_wp2
  go_ret2
  obtain ⟨d, hd⟩ : ∃ d, d = (x + 8589934592 - y - c) % 4294967296 := ⟨_, rfl⟩
  have e1 : ((x : Int) - y - c) % 4294967296 = (d : Int) := by omega
  have hb := borrow32 x y c d hx hy hc hd
  rw [e1]
  refine ⟨⟨d, if x < y + c then 1 else 0, ?_, ?_, by omega, by split <;> omega⟩, rfl⟩
  · show Ending.returned (.tuple #[.int .u32 d, .int .u32 _]) = _
    rw [hb]
    split <;> rfl
  · split <;> omega

set_option maxHeartbeats 1000000 in
theorem take_any (X Y : Int) (x y c b : Nat) (hX : X = (x : Int)) (hY : Y = (y : Int)) (hx : x < 4294967296) (hy : y < 4294967296) (hc : c ≤ 1) (w : World) (hb : U32 w b c) :
    Calls Tryd.prog 92 #[.int .u32 X, .int .u32 Y, .pointer (some ⟨b, 0, none⟩)] w fun e W' => (∃ d c' : Nat, e = .returned (.int .u32 d) ∧ d + y + c = x + 4294967296 * c' ∧ d < 4294967296 ∧ c' ≤ 1 ∧ U32 W' b c') ∧ But w.heap.size b w W' ∧ W'.heap.size = w.heap.size := by
  subst hX hY
  have c0 := Boxed.cell hb
  have f0 := Boxed.frozen hb
  have hb2 : ∀ v, Boxed (w.setCell ⟨b, 0, none⟩ v) b 81 v := fun v => Boxed.set v hb
  have HB2 := Lib.hid hb2
  clear hb hb2
  go_enter Tryd.func92, Tryd.ntmps92
  go_wp2_with fail
  refine (sub32_any x y c hx hy hc w).mono ?_
  rintro e W ⟨⟨d, c', rfl, h1, h2, h3⟩, rfl⟩
  have H1 := Lib.hid h1
  clear h1
  go_wp2_with fail
  go_ret
  exact ⟨⟨d, c', rfl, H1.out, h2, h3, HB2.out _⟩, But.setCell _ _ _ _ _, by simp⟩
end Go.Proofs.YtmpdoikdadjneaaDoor

/- Sums of words: what sum answers. -/
namespace Go.Proofs.YtmpdoikdadjneaaDoor
open Go.RowKit Hb Vm Ds

theorem size1W : (Tryd.prog.info? 81).map (·.size) = some 1 := by kernel_rfl
theorem map_getD (f : Nat → Value) (xs : List Nat) (k : Nat) (h : k < xs.length) : (xs.map f)[k]? = some (f (xs.getD k 0)) := by
  rw [List.getElem?_map, List.getD_eq_getElem?_getD, List.getElem?_eq_getElem h]; rfl
theorem getD_app_zeros (xs : List Nat) (m k : Nat) : (xs ++ List.replicate m 0).getD k 0 = xs.getD k 0 := by
  simp only [List.getD_eq_getElem?_getD]
  by_cases h : k < xs.length
  · rw [List.getElem?_append_left h]
  · rw [List.getElem?_append_right (by omega), List.getElem?_eq_none (l := xs) (by omega), List.getElem?_replicate]
    split <;> rfl
/-- a row of which k elements have been written -/
theorem mix_get (os bs : List Nat) (k : Nat) (ho : os.length = k) (hk : k < bs.length) : (os ++ bs.drop k)[k]? = some (bs.getD k 0) := by
  rw [List.getElem?_append_right (by omega), ho, Nat.sub_self, List.getElem?_drop, List.getD_eq_getElem?_getD, Nat.add_zero, List.getElem?_eq_getElem hk]; rfl
theorem mix_set (os bs : List Nat) (k u : Nat) (ho : os.length = k) (hk : k < bs.length) : (os ++ bs.drop k).set k u = (os ++ [u]) ++ bs.drop (k + 1) := by
  rw [List.set_append_right _ _ (by omega), ho, Nat.sub_self, List.drop_eq_getElem_cons hk, List.set_cons_zero, List.append_assoc]; rfl
theorem copied (xs : List Nat) (n N : Nat) (hn : xs.length = n) (_hN : n ≤ N) : splice ((List.replicate N 0).map uw) 0 (xs.map uw) = (xs ++ List.replicate (N - n) 0).map uw := by
  unfold splice
  rw [List.take_zero, List.nil_append, List.map_append, Nat.zero_add, List.length_map, hn, List.map_replicate, List.map_replicate, List.drop_replicate]
theorem Row.write {W : World} {g : Nat} {t : TypeId} {os bs : List Nat} {k : Nat} (f : Nat → Value) (h : Row W g t ((os ++ bs.drop k).map f)) (ho : os.length = k) (hk : k < bs.length) (u : Nat) : Row (W.setCell ⟨g, k, none⟩ (f u)) g t (((os ++ [u]) ++ bs.drop (k + 1)).map f) :=
  (h.set k (f u)).cast (by rw [← List.map_set, mix_set os bs k u ho hk])
theorem Row.next {W : World} {g : Nat} {t : TypeId} {os bs : List Nat} {k : Nat} (f : Nat → Value) (h : Row W g t ((os ++ bs.drop k).map f)) (ho : os.length = k) (hk : k < bs.length) : W.cell? ⟨g, k, none⟩ = some (f (bs.getD k 0)) :=
  h.cell k _ (by rw [List.getElem?_map, mix_get os bs k ho hk]; rfl)
/-- a finished row, as a slice that reads -/
theorem Row.done {W : World} {g n : Nat} {os bs : List Nat} {f : Nat → Value} {t : TypeId} (h : Row W g t ((os ++ bs.drop n).map f)) (hb : bs.length = n) (ho : os.length = n) (B : Nat) (hB : g < B) : Rd W B (some ⟨g, 0, none⟩) n (os.map f) := by
  have h2 : Row W g t (os.map f) := h.cast (by rw [List.drop_of_length_le (by omega), List.append_nil])
  exact (h2.rd n (by rw [List.length_map, ho])).mono hB
theorem Rd.src {W : World} {B n g : Nat} {A : Option Addr} {vs : List Value} (h : Rd W B A n vs) : 0 < vs.length → some (⟨g, 0, none⟩ : Addr) = some ⟨g, 0, none⟩ ∧ ∃ ad, A = some ad ∧ ∀ j v, vs[j]? = some v → W.cell? (ad.add j) = some v := fun h0 =>
  let ⟨a, e, _, hc⟩ := h.2 (by rw [h.1] at h0; exact h0); ⟨rfl, a, e, hc⟩
theorem sum_endB (b : Nat) (hb : 1 < b) (N c : Nat) (xs ys os : List Nat) (hx : Dig b xs) (hy : Dig b ys) (h1 : xs.length ≤ N) (h2 : ys.length ≤ N) (h : val b os + b ^ (N + 1) * c = vpre b xs (N + 1) + vpre b ys (N + 1)) : val b os = val b xs + val b ys := by
  rw [vpre_full _ _ _ (by omega), vpre_full _ _ _ (by omega)] at h
  have a1 := val_lt (by omega) hx
  have a2 := val_lt (by omega) hy
  have a3 := Nat.pow_le_pow_right (show 0 < b by omega) h1
  have a4 := Nat.pow_le_pow_right (show 0 < b by omega) h2
  rw [Nat.pow_succ] at h
  cases c with
  | zero => omega
  | succ c =>
    have h5 : b ^ N * b * (c + 1) = b ^ N * b * c + b ^ N * b := by rw [Nat.mul_add, Nat.mul_one]
    have h6 : b ^ N * 2 ≤ b ^ N * b := Nat.mul_le_mul_left _ hb
    omega

set_option maxRecDepth 100000 in
set_option maxHeartbeats 4000000 in
theorem sumL_any (A C : Option Addr) (n c m d : Nat) (xs ys : List Nat) (hn : n ≤ 200000) (hm : m ≤ 200000) (hx : Dig 4294967296 xs) (hy : Dig 4294967296 ys) (w : World)
    (hrx : Rd w w.heap.size A n (xs.map uw)) (hry : Rd w w.heap.size C m (ys.map uw)) :
    Calls Tryd.prog 58 #[.slice A n c, .slice C m d] w fun e W' => (∃ v, e = .returned v ∧ Wl W' W'.heap.size v (wval xs + wval ys)) ∧ Below w.heap.size w W' := by
  have hlx : xs.length = n := by simpa using hrx.1
  have hly : ys.length = m := by simpa using hry.1
  have hmk : ∀ (k : Nat) W, k ≤ 200000 → Sem.run Tryd.prog (Instr.makeSlice 31 (.int .i64 ((k : Int) + 1)) (.int .i64 ((k : Int) + 1))) W = .ok (.slice (some ⟨W.heap.size, 0, none⟩) (k + 1) (k + 1)) (W.alloc (mkW (k + 1))) := fun k W h => makeW (k + 1) (by omega) W
  have HX := Lib.hid hlx
  have HY := Lib.hid hly
  have mkn := hmk n w hn
  have mkm := hmk m w hm
  clear hmk hlx hly
  go_enter Tryd.func58, Tryd.ntmps58
  go_upto_region 1 with (fail)
  go_cut [5] from 9 to 15 (fun v wx => ∃ N : Nat, n ≤ N ∧ m ≤ N ∧ N ≤ 200000 ∧ v = .slice (some ⟨w.heap.size, 0, none⟩) (N + 1) (N + 1) ∧ wx = w.alloc (mkW (N + 1)))
  case first =>
    go_wp2_with fail
    all_goals go_meet
    all_goals (case rel => first | exact ⟨m, by omega, Nat.le_refl _, hm, rfl, rfl⟩ | exact ⟨n, Nat.le_refl _, by omega, hn, rfl, rfl⟩)
  case rest =>
    obtain ⟨N, hnN, hmN, hN, rfl, rfl⟩ := hcut
    clear mkn mkm
    have r1 := mkW_row (N + 1) w
    have b1 := mkW_below (N + 1) w
    have HC := Lib.hid (copied xs n (N + 1) HX.out (by omega))
    have hl1 : (xs.map uw).length = Nat.min n (N + 1) := by rw [List.length_map, HX.out]; exact (Nat.min_eq_left (by omega)).symm
    have HL1 := Lib.hid hl1
    clear hl1
    have hp := Rd.src (g := w.heap.size) (hrx.below b1)
    have HP := Lib.hid hp
    clear hp
    have hf : 0 + (xs.map uw).length ≤ ((List.replicate (N + 1) 0).map uw).length := by simp [HX.out]; omega
    have HF := Lib.hid hf
    clear hf
    have R1 := Lib.hid r1
    clear r1
    go_wp2_with (refine wpList_copy_splice (o := ⟨some 18, _, _, _, _, _⟩) rfl _ _ 31 31 rfl 81 Tryd.underlying31 size1W (some ⟨w.heap.size, 0, none⟩) A (N + 1) (N + 1) n c rfl rfl w.heap.size 0 ((List.replicate (N + 1) 0).map uw) 81 R1.out (xs.map uw) HL1.out HP.out HF.out (map_one uw uw_one xs) w.heap.size w b1 (Nat.le_refl _) ?_; intro w2 HG2 hB2)
    obtain ⟨bs, hbs⟩ : ∃ bs, bs = xs ++ List.replicate (N + 1 - n) 0 := ⟨_, rfl⟩
    have r2 : Row w2 w.heap.size 81 (bs.map uw) := HG2.out.trans (by rw [HC.out, hbs])
    have hbl : bs.length = N + 1 := by rw [hbs, List.length_append, List.length_replicate, HX.out]; omega
    have hbg : ∀ k, bs.getD k 0 = xs.getD k 0 := fun k => by rw [hbs, getD_app_zeros]
    have HBL := Lib.hid hbl
    have HBG := Lib.hid hbg
    have s2 := hB2.size
    have lt2 := r2.lt
    clear HG2 HL1 HP HF R1 HC hbs hbl hbg
    refine (carrier_any 0 w2).mono ?_
    rintro e W3 ⟨rfl, rfl⟩
    have bx := carrier_box 0 w2
    have r3 := r2.alloc (.cells #[.int .u64 0] 75)
    have b3 := hB2.alloc s2 (.cells #[.int .u64 0] 75)
    obtain ⟨P, hP⟩ : ∃ P, P = w2.heap.size := ⟨_, rfl⟩
    rw [← hP] at bx lt2
    obtain ⟨W3, hW3⟩ : ∃ W3, W3 = w2.alloc (.cells #[.int .u64 0] 75) := ⟨_, rfl⟩
    rw [← hP]
    change U64 (w2.alloc (.cells #[.int .u64 0] 75)) P 0 at bx
    rw [← hW3] at bx r3 b3 ⊢
    clear r2 hB2 s2 b1 hW3 hP
    unfold passV
    go_wp2_with fail
    go_loopw [22] (fun i wr => ∃ (k c : Nat) (os : List Nat), k ≤ N + 1 ∧ i = .int .i64 k ∧ Hid (os.length = k) ∧ c ≤ 1 ∧ Row wr w.heap.size 81 ((os ++ bs.drop k).map uw) ∧ U64 wr P c ∧ Below w.heap.size w wr ∧ Dig 4294967296 os ∧ Hid (val 4294967296 os + 4294967296 ^ k * c = vpre 4294967296 xs k + vpre 4294967296 ys k)) (fun i _ => N + 1 - (intOf i).toNat)
    case atStart => exact ⟨0, 0, [], Nat.zero_le _, rfl, rfl, Nat.zero_le _, r3.cast rfl, bx, b3, Dig.nil _, by show _ = _; simp [val, vpre]⟩
    case round =>
      clear r3 bx b3
      obtain ⟨k, cy, os, hk, rfl, HO, hcy, hrow, hU, hB, hdo, HV⟩ := hrel
      by_cases hlt : k < N + 1
      · have hc := hrow.next uw HO.out (by rw [HBL.out]; exact hlt)
        rw [HBG.out] at hc
        obtain ⟨x, hxk⟩ : ∃ x, x = xs.getD k 0 := ⟨_, rfl⟩
        have hxl : x < 4294967296 := by rw [hxk]; exact hx.get (by decide) k
        rw [← hxk] at hc
        unfold uw at hc
        have HXK := Lib.hid hxk
        clear hxk
        go_wp2_with fail
        refine (word_any C m d k w.heap.size ys (by unfold maxLen; omega) _ rfl (by unfold maxLen; omega) hy wr (hry.below hB)).mono ?_
        rintro e W4 ⟨⟨y, rfl, hyk, hyl⟩, rfl⟩
        have HYK := Lib.hid hyk
        clear hyk
        go_wp2_with fail
        refine (pass_any _ (x + y) cy P (by omega) (by omega) wr hU).mono ?_
        rintro e W4 ⟨⟨dg, c2, rfl, hdg, hc2, hU4⟩, hBut, hsz⟩
        have hc2l : c2 ≤ 1 := by omega
        have hdl : dg < 4294967296 := by omega
        have r4 := hrow.but hBut hrow.lt (by omega)
        have f4 := r4.frozen k
        have c4 := r4.next uw HO.out (by rw [HBL.out]; exact hlt)
        have r5 := r4.write uw HO.out (by rw [HBL.out]; exact hlt) dg
        have u5 : U64 (W4.setCell ⟨w.heap.size, k, none⟩ (uw dg)) P c2 := hU4.kept (Below.heap_setCell _ _ _ _ (by show P ≠ w.heap.size; omega))
        have b5 := (hB.trans (hBut.low.mono (by omega))).setCell (p := ⟨w.heap.size, k, none⟩) (Nat.le_refl _) (uw dg)
        have HN := Lib.hid (carry_step 4294967296 (4294967296 ^ k) _ _ (x + y) cy dg c2 hdg hc2 HV.out)
        unfold uw at r5 u5 b5 c4
        clear hdg hc2 hU hrow r4 hBut hsz hB
        go_wp2_with fail
        go_roundw
        case rel =>
          refine ⟨k + 1, c2, os ++ [dg], by omega, by go_num, Lib.hid (by rw [List.length_append, HO.out]; rfl), hc2l, r5, u5, b5, hdo.snoc hdl, ?_⟩
          show _ = _
          rw [val_snoc, HO.out, Nat.pow_succ, HN.out, vpre, vpre, HXK.out, HYK.out, Nat.mul_add]
          omega
        case measure => simp [intOf]; omega
      · obtain rfl : k = N + 1 := by omega
        have hrd := hrow.done HBL.out HO.out wr.heap.size hrow.lt
        have hE := sum_endB 4294967296 (by decide) N cy xs ys os hx hy (by rw [HX.out]; exact hnN) (by rw [HY.out]; exact hmN) HV.out
        have HE := Lib.hid hE
        clear hE
        go_wp2_with fail
        refine (trim_any _ (N + 1) (N + 1) wr.heap.size os (Nat.le_refl _) (by unfold maxLen; omega) hdo wr hrd).mono ?_
        rintro e W5 ⟨⟨v, rfl, hv⟩, rfl⟩
        go_wp2_with fail
        go_ret
        exact ⟨⟨v, rfl, by unfold wval; rw [← HE.out]; exact hv⟩, hB⟩
end Go.Proofs.YtmpdoikdadjneaaDoor

/- Differences of words: what difference answers. -/
namespace Go.Proofs.YtmpdoikdadjneaaDoor
open Go.RowKit Hb Vm Ds

theorem dif_end (b : Nat) (hb : 1 < b) (n c : Nat) (xs ys os : List Nat) (ho : Dig b os) (hl : os.length = n) (h1 : xs.length = n) (h2 : ys.length ≤ n) (hle : val b ys ≤ val b xs) (h : vpre b xs n + b ^ n * c = val b os + vpre b ys n) : val b os = val b xs - val b ys := by
  rw [vpre_full _ _ _ (by omega), vpre_full _ _ _ (by omega)] at h
  have a1 := val_lt (by omega) ho
  rw [hl] at a1
  cases c with
  | zero => omega
  | succ c =>
    have h5 : b ^ n * (c + 1) = b ^ n * c + b ^ n := by rw [Nat.mul_add, Nat.mul_one]
    omega

set_option maxRecDepth 100000 in
set_option maxHeartbeats 4000000 in
theorem difL_any (A C : Option Addr) (n c m d : Nat) (xs ys : List Nat) (hn : n ≤ 200000) (hmn : m ≤ n) (hx : Dig 4294967296 xs) (hy : Dig 4294967296 ys) (hle : val 4294967296 ys ≤ val 4294967296 xs) (w : World)
    (hrx : Rd w w.heap.size A n (xs.map uw)) (hry : Rd w w.heap.size C m (ys.map uw)) :
    Calls Tryd.prog 60 #[.slice A n c, .slice C m d] w fun e W' => (∃ v, e = .returned v ∧ Wl W' W'.heap.size v (wval xs - wval ys)) ∧ Below w.heap.size w W' := by
  have hlx : xs.length = n := by simpa using hrx.1
  have hly : ys.length = m := by simpa using hry.1
  have mkn := makeW n (by omega) w
  have HX := Lib.hid hlx
  have HY := Lib.hid hly
  have HLE := Lib.hid hle
  have r1 := mkW_row n w
  have b1 := mkW_below n w
  have HC := Lib.hid (copied xs n n hlx (Nat.le_refl _))
  have hl1 : (xs.map uw).length = Nat.min n n := by rw [List.length_map, hlx]; exact (Nat.min_self n).symm
  have HL1 := Lib.hid hl1
  have hp := Rd.src (g := w.heap.size) (hrx.below b1)
  have HP := Lib.hid hp
  have hf : 0 + (xs.map uw).length ≤ ((List.replicate n 0).map uw).length := by simp [hlx]
  have HF := Lib.hid hf
  have R1 := Lib.hid r1
  clear r1 hf hp hl1 hlx hly hle
  go_enter Tryd.func60, Tryd.ntmps60
  go_wp2_with (refine wpList_copy_splice (o := ⟨some 14, _, _, _, _, _⟩) rfl _ _ 31 31 rfl 81 Tryd.underlying31 size1W (some ⟨w.heap.size, 0, none⟩) A n n n c rfl rfl w.heap.size 0 ((List.replicate n 0).map uw) 81 R1.out (xs.map uw) HL1.out HP.out HF.out (map_one uw uw_one xs) w.heap.size w b1 (Nat.le_refl _) ?_; intro w2 HG2 hB2)
  have r2 : Row w2 w.heap.size 81 (xs.map uw) := HG2.out.trans (by rw [HC.out]; simp)
  have s2 := hB2.size
  have lt2 := r2.lt
  clear HG2 HL1 HP HF R1 HC mkn
  refine (borrower_any w2).mono ?_
  rintro e W3 ⟨rfl, rfl⟩
  have bx := borrower_box w2
  have r3 := r2.alloc (.cells #[.int .u32 0] 81)
  have b3 := hB2.alloc s2 (.cells #[.int .u32 0] 81)
  obtain ⟨P, hP⟩ : ∃ P, P = w2.heap.size := ⟨_, rfl⟩
  rw [← hP] at bx lt2
  obtain ⟨W3, hW3⟩ : ∃ W3, W3 = w2.alloc (.cells #[.int .u32 0] 81) := ⟨_, rfl⟩
  rw [← hP]
  change U32 (w2.alloc (.cells #[.int .u32 0] 81)) P 0 at bx
  rw [← hW3] at bx r3 b3 ⊢
  clear r2 hB2 s2 b1 hW3 hP
  unfold takeV
  go_wp2_with fail
  go_loopw [18] (fun i wr => ∃ (k c : Nat) (os : List Nat), k ≤ n ∧ i = .int .i64 k ∧ Hid (os.length = k) ∧ c ≤ 1 ∧ Row wr w.heap.size 81 ((os ++ xs.drop k).map uw) ∧ U32 wr P c ∧ Below w.heap.size w wr ∧ Dig 4294967296 os ∧ Hid (vpre 4294967296 xs k + 4294967296 ^ k * c = val 4294967296 os + vpre 4294967296 ys k)) (fun i _ => n - (intOf i).toNat)
  case atStart => exact ⟨0, 0, [], Nat.zero_le _, rfl, rfl, Nat.zero_le _, r3.cast rfl, bx, b3, Dig.nil _, by show _ = _; simp [val, vpre]⟩
  case round =>
    clear r3 bx b3
    obtain ⟨k, cy, os, hk, rfl, HO, hcy, hrow, hU, hB, hdo, HV⟩ := hrel
    by_cases hlt : k < n
    · have hc := hrow.next uw HO.out (by rw [HX.out]; exact hlt)
      obtain ⟨x, hxk⟩ : ∃ x, x = xs.getD k 0 := ⟨_, rfl⟩
      have hxl : x < 4294967296 := by rw [hxk]; exact hx.get (by decide) k
      rw [← hxk] at hc
      unfold uw at hc
      have HXK := Lib.hid hxk
      clear hxk
      go_wp2_with fail
      refine (word_any C m d k w.heap.size ys (by unfold maxLen; omega) _ rfl (by unfold maxLen; omega) hy wr (hry.below hB)).mono ?_
      rintro e W4 ⟨⟨y, rfl, hyk, hyl⟩, rfl⟩
      have HYK := Lib.hid hyk
      clear hyk
      go_wp2_with fail
      refine (take_any _ _ x y cy P rfl (by omega) hxl hyl hcy wr hU).mono ?_
      rintro e W4 ⟨⟨dg, c2, rfl, hdg, hdl, hc2l, hU4⟩, hBut, hsz⟩
      have r4 := hrow.but hBut hrow.lt (by omega)
      have f4 := r4.frozen k
      have c4 := r4.next uw HO.out (by rw [HX.out]; exact hlt)
      have r5 := r4.write uw HO.out (by rw [HX.out]; exact hlt) dg
      have u5 : U32 (W4.setCell ⟨w.heap.size, k, none⟩ (uw dg)) P c2 := hU4.kept (Below.heap_setCell _ _ _ _ (by show P ≠ w.heap.size; omega))
      have b5 := (hB.trans (hBut.low.mono (by omega))).setCell (p := ⟨w.heap.size, k, none⟩) (Nat.le_refl _) (uw dg)
      have HN := Lib.hid (borrow_step (4294967296 ^ k) 4294967296 _ _ x y cy dg c2 hdg HV.out)
      unfold uw at r5 u5 b5 c4
      clear hdg hU hrow r4 hBut hsz hB
      go_wp2_with fail
      go_roundw
      case rel =>
        refine ⟨k + 1, c2, os ++ [dg], by omega, by go_num, Lib.hid (by rw [List.length_append, HO.out]; rfl), hc2l, r5, u5, b5, hdo.snoc hdl, ?_⟩
        show _ = _
        have := HN.out
        rw [val_snoc, HO.out, Nat.pow_succ, vpre, vpre, ← HXK.out, ← HYK.out]
        omega
      case measure => simp [intOf]; omega
    · obtain rfl : k = n := by omega
      have hrd := hrow.done HX.out HO.out wr.heap.size hrow.lt
      have hE := dif_end 4294967296 (by decide) k cy xs ys os hdo HO.out HX.out (by rw [HY.out]; exact hmn) HLE.out HV.out
      have HE := Lib.hid hE
      clear hE
      go_wp2_with fail
      refine (trim_any _ k k wr.heap.size os (Nat.le_refl _) (by unfold maxLen; omega) hdo wr hrd).mono ?_
      rintro e W5 ⟨⟨v, rfl, hv⟩, rfl⟩
      go_wp2_with fail
      go_ret
      exact ⟨⟨v, rfl, by unfold wval; rw [← HE.out]; exact hv⟩, hB⟩
end Go.Proofs.YtmpdoikdadjneaaDoor

/- What takeTimes leaves: a part less a multiple of the divisor, and whether that is not negative. -/
namespace Go.Proofs.YtmpdoikdadjneaaDoor
open Go.RowKit Hb Vm Ds

/-- a slice that lies apart from the block that turns -/
theorem rd_but {w w' : World} {B p n : Nat} {A : Option Addr} {xs : List Value} (h : Rd w B A n xs) (hp : ∀ a, A = some a → a.block ≠ p) (hb : But B p w w') : Rd w' B A n xs :=
  ⟨h.1, fun hn => let ⟨a, e, hl, hc⟩ := h.2 hn; ⟨a, e, hl, fun j u hu => (World.cell?_of_block (w := w) (hb.block (by rw [add_block]; exact hl) (by rw [add_block]; exact hp a e))).trans (hc j u hu)⟩⟩
theorem take_step (p b vx vo vy tm c r x y pd d c' r' : Nat) (h1 : pd + b * c' = y * tm + c) (h2 : d + pd + r = x + b * r') (h : vx + p * r + p * c = vo + vy * tm) : (vx + p * x) + p * b * r' + p * b * c' = (vo + p * d) + (vy + p * y) * tm := by
  have e1 : p * (pd + b * c') = p * (y * tm + c) := by rw [h1]
  have e2 : p * (d + pd + r) = p * (x + b * r') := by rw [h2]
  rw [Nat.mul_add, Nat.mul_add, ← Nat.mul_assoc, ← Nat.mul_assoc] at e1
  rw [Nat.mul_add, Nat.mul_add, Nat.mul_add, ← Nat.mul_assoc] at e2
  rw [Nat.add_mul]
  omega
theorem take_end (b : Nat) (hb : 1 < b) (L r m tm : Nat) (xs ys os : List Nat) (hx : xs.length = L) (hy : ys.length = m) (hm : m + 1 ≤ L) (_hdy : Dig b ys) (_htm : tm < b) (ho : Dig b os) (hl : os.length = L) (hr : r ≤ 1) (h : vpre b xs L + b ^ L * r = val b os + vpre b ys L * tm) :
    (r = 0 ↔ val b ys * tm ≤ val b xs) ∧ (val b ys * tm ≤ val b xs → val b os = val b xs - val b ys * tm) := by
  rw [vpre_full _ _ _ (by omega), vpre_full _ _ _ (by omega)] at h
  have a1 := val_lt (by omega) ho
  rw [hl] at a1
  rcases Nat.eq_zero_or_pos r with h0 | h0
  · subst h0
    rw [Nat.mul_zero, Nat.add_zero] at h
    exact ⟨⟨fun _ => by omega, fun _ => rfl⟩, fun _ => by omega⟩
  · obtain rfl : r = 1 := by omega
    rw [Nat.mul_one] at h
    exact ⟨⟨fun e => by omega, fun e => by omega⟩, fun e => by omega⟩

set_option maxRecDepth 100000 in
set_option maxHeartbeats 4000000 in
theorem takeTimes_any (gl L c m d tm : Nat) (A C : Option Addr) (ls xs ys : List Nat) (hL : L ≤ 300000) (hmL : m + 1 ≤ L) (hx : Dig 4294967296 xs) (hy : Dig 4294967296 ys) (htm : tm < 4294967296) (w : World)
    (hrow : Row w gl 81 (ls.map uw)) (hll : ls.length = L) (hrx : Rd w w.heap.size A L (xs.map uw)) (hax : ∀ a, A = some a → a.block ≠ gl) (hry : Rd w w.heap.size C m (ys.map uw)) (hay : ∀ a, C = some a → a.block ≠ gl) :
    Calls Tryd.prog 96 #[.slice (some ⟨gl, 0, none⟩) L L, .slice A L c, .slice C m d, .int .u32 (tm : Int)] w fun e W' => (∃ os : List Nat, e = .returned (.bool (decide (wval ys * tm ≤ wval xs))) ∧ Row W' gl 81 (os.map uw) ∧ os.length = L ∧ Dig 4294967296 os ∧ (wval ys * tm ≤ wval xs → wval os = wval xs - wval ys * tm)) ∧ But w.heap.size gl w W' := by
  have hlx : xs.length = L := by simpa using hrx.1
  have hly : ys.length = m := by simpa using hry.1
  have HX := Lib.hid hlx
  have HY := Lib.hid hly
  have HLS := Lib.hid hll
  have HAX := Lib.hid hax
  have HAY := Lib.hid hay
  have hgl := hrow.lt
  clear hlx hly hll hax hay
  go_enter Tryd.func96, Tryd.ntmps96
  go_wp2_with fail
  refine (carrier_any 0 w).mono ?_
  rintro e W1 ⟨rfl, rfl⟩
  have bx := carrier_box 0 w
  obtain ⟨W1, hW1⟩ : ∃ W1, W1 = w.alloc (.cells #[.int .u64 0] 75) := ⟨_, rfl⟩
  have b1 : Below w.heap.size w W1 := by rw [hW1]; exact (Below.refl _ w).alloc (Nat.le_refl _) _
  have z1 : W1.heap.size = w.heap.size + 1 := by rw [hW1]; simp
  change U64 (w.alloc (.cells #[.int .u64 0] 75)) w.heap.size 0 at bx
  rw [← hW1] at bx ⊢
  clear hW1
  have Z1 := Lib.hid z1
  clear z1
  unfold passV
  go_wp2_with fail
  refine (borrower_any W1).mono ?_
  rintro e W2 ⟨rfl, rfl⟩
  have by2 := borrower_box W1
  have bx2 : U64 (W1.alloc (.cells #[.int .u32 0] 81)) w.heap.size 0 := Boxed.alloc bx _
  obtain ⟨P2, hP2⟩ : ∃ P2, P2 = W1.heap.size := ⟨_, rfl⟩
  have hP1 : w.heap.size < P2 := by rw [hP2, Z1.out]; omega
  obtain ⟨W2, hW2⟩ : ∃ W2, W2 = W1.alloc (.cells #[.int .u32 0] 81) := ⟨_, rfl⟩
  have b2 : Below w.heap.size w W2 := by rw [hW2]; exact b1.alloc (by rw [Z1.out]; omega) _
  rw [← hP2]
  change U32 (W1.alloc (.cells #[.int .u32 0] 81)) W1.heap.size 0 at by2
  rw [← hP2, ← hW2] at by2
  rw [← hW2] at bx2 ⊢
  clear hW2 hP2 bx b1 Z1
  unfold takeV
  go_wp2_with fail
  go_loopw [17] (fun i wr => ∃ (k cy r : Nat) (os : List Nat), k ≤ L ∧ i = .int .i64 k ∧ Hid (os.length = k) ∧ cy < 4294967296 ∧ r ≤ 1 ∧ Hid (m < k → cy = 0) ∧ Row wr gl 81 ((os ++ ls.drop k).map uw) ∧ U64 wr w.heap.size cy ∧ U32 wr P2 r ∧ But w.heap.size gl w wr ∧ Dig 4294967296 os ∧ Hid (vpre 4294967296 xs k + 4294967296 ^ k * r + 4294967296 ^ k * cy = val 4294967296 os + vpre 4294967296 ys k * tm)) (fun i _ => L - (intOf i).toNat)
  case atStart => exact ⟨0, 0, 0, [], Nat.zero_le _, rfl, rfl, by decide, Nat.zero_le _, Lib.hid (fun h => rfl), (hrow.below b2 hgl).cast rfl, bx2, by2, But.of_below b2 (by omega), Dig.nil _, by show _ = _; simp [val, vpre]⟩
  case round =>
    clear bx2 by2 b2 hrow
    obtain ⟨k, cy, r, os, hk, rfl, HO, hcy, hr1, HM, hrow, hU, hV, hB, hdo, HI⟩ := hrel
    have hlu := hU.lt
    have hlv := hV.lt
    by_cases hlt : k < L
    · have hrx' := rd_but hrx HAX.out hB
      obtain ⟨ax, rfl, hbx, hcx⟩ := Rd.word hrx' hlt
      obtain ⟨x, hxk⟩ : ∃ x, x = xs.getD k 0 := ⟨_, rfl⟩
      have hxl : x < 4294967296 := by rw [hxk]; exact hx.get (by decide) k
      rw [← hxk] at hcx
      have HXK := Lib.hid hxk
      clear hxk hrx'
      go_wp2_with fail
      refine (word_any C m d k w.heap.size ys (by unfold maxLen; omega) _ rfl (by unfold maxLen; omega) hy wr (rd_but hry HAY.out hB)).mono ?_
      rintro e W4 ⟨⟨y, rfl, hyk, hyl⟩, rfl⟩
      obtain ⟨p, hp⟩ : ∃ p, p = y * tm := ⟨_, rfl⟩
      have hpe : (y : Int) * (tm : Int) = (p : Int) := by rw [hp, Int.natCast_mul]
      have hpl : p ≤ 4294967295 * 4294967295 := by rw [hp]; exact Nat.mul_le_mul (by omega) (by omega)
      have hp0 : m < k + 1 → p = 0 := fun h => by
        rw [hp, hyk, List.getD_eq_getElem?_getD, List.getElem?_eq_none (by rw [HY.out]; omega)]; simp
      have HP := Lib.hid hp
      have HP0 := Lib.hid hp0
      have HYK := Lib.hid hyk
      clear hyk hp hp0
      go_wp2_with fail
      refine (pass_any _ p cy w.heap.size rfl (by omega) wr hU).mono ?_
      rintro e W4 ⟨⟨pd, c2, rfl, hpd, hc2, hU4⟩, hBut, hsz⟩
      have hc2l : c2 < 4294967296 := by omega
      have hpdl : pd < 4294967296 := by omega
      have hc20 : m < k + 1 → c2 = 0 := fun h => by rw [hc2, HP0.out h]; omega
      have hpc : pd + 4294967296 * c2 = p + cy := by omega
      have HC20 := Lib.hid hc20
      have HPC := Lib.hid hpc
      have r4 := hrow.but hBut hrow.lt (by omega)
      have v4 : U32 W4 P2 r := hV.kept (hBut.block hlv (by omega))
      have b4 : But w.heap.size gl w W4 := hB.later hBut.low (Nat.le_refl _) (by omega)
      clear hpd hc2 hU hV hrow hBut hB hpe hc20 hpc
      go_wp2_with fail
      refine (take_any _ _ x pd r P2 rfl rfl hxl hpdl hr1 W4 v4).mono ?_
      rintro e W5 ⟨⟨dg, r2, rfl, hdg, hdl, hr2l, hV5⟩, hBut, hsz5⟩
      have HDG := Lib.hid hdg
      have r5 := r4.but hBut r4.lt (by omega)
      have u5 : U64 W5 w.heap.size c2 := hU4.kept (hBut.block hU4.lt (by omega))
      have b5 : But w.heap.size gl w W5 := b4.later hBut.low (by omega) (by omega)
      have f5 := r5.frozen k
      have c5 := r5.next uw HO.out (by rw [HLS.out]; exact hlt)
      have r6 := r5.write uw HO.out (by rw [HLS.out]; exact hlt) dg
      have u6 : U64 (W5.setCell ⟨gl, k, none⟩ (uw dg)) w.heap.size c2 := u5.kept (Below.heap_setCell _ _ _ _ (by show w.heap.size ≠ gl; omega))
      have v6 : U32 (W5.setCell ⟨gl, k, none⟩ (uw dg)) P2 r2 := hV5.kept (Below.heap_setCell _ _ _ _ (by show P2 ≠ gl; omega))
      have b6 : But w.heap.size gl w (W5.setCell ⟨gl, k, none⟩ (uw dg)) := b5.trans (But.setCell _ _ _ _ _)
      unfold uw at r6 u6 v6 b6 c5
      clear hdg r4 v4 b4 hBut hsz hsz5 r5 u5 b5 hU4 hV5
      go_wp2_with fail
      go_roundw
      case rel =>
        refine ⟨k + 1, c2, r2, os ++ [dg], by omega, by go_num, Lib.hid (by rw [List.length_append, HO.out]; rfl), hc2l, hr2l, HC20, r6, u6, v6, b6, hdo.snoc hdl, ?_⟩
        show _ = _
        rw [val_snoc, HO.out, Nat.pow_succ, vpre, vpre]
        exact take_step _ _ _ _ _ tm cy r _ _ pd dg c2 r2 (by rw [HPC.out, HP.out, HYK.out]) (by rw [HDG.out, HXK.out]) HI.out
      case measure => simp [intOf]; omega
    · obtain rfl : k = L := by omega
      have hcy0 : cy = 0 := HM.out (by omega)
      subst hcy0
      have hE := take_end 4294967296 (by decide) k r m tm xs ys os HX.out HY.out hmL hy htm hdo HO.out hr1 (by have := HI.out; rw [Nat.mul_zero, Nat.add_zero] at this; exact this)
      have HE := Lib.hid hE
      clear hE
      have hrow' : Row wr gl 81 (os.map uw) := hrow.cast (by rw [List.drop_of_length_le (by rw [HLS.out]; exact Nat.le_refl _), List.append_nil])
      go_wp2_with fail
      refine (take_any 0 0 0 0 r P2 rfl rfl (by decide) (by decide) hr1 wr hV).mono ?_
      rintro e W5 ⟨⟨dg, r2, rfl, hdg, hdl, hr2l, hV5⟩, hBut, hsz5⟩
      have r5 := hrow'.but hBut hrow'.lt (by omega)
      have b5 : But w.heap.size gl w W5 := hB.later hBut.low (by omega) (by omega)
      have hdz : ((dg : Int) == 0) = decide (wval ys * tm ≤ wval xs) := by
        have h1 := HE.out.1
        by_cases h : wval ys * tm ≤ wval xs
        · rw [decide_eq_true h]
          have : r = 0 := h1.2 h
          have : dg = 0 := by omega
          subst this
          rfl
        · rw [decide_eq_false h]
          have : r ≠ 0 := fun e => h (h1.1 e)
          have : dg ≠ 0 := by omega
          exact beq_eq_false_iff_ne.2 (by omega)
      have HD := Lib.hid hdz
      clear hdz hdg
      go_wp2_with fail
      go_ret
      exact ⟨⟨os, ret_bool HD.out, r5, HO.out, hdo, HE.out.2⟩, b5⟩
end Go.Proofs.YtmpdoikdadjneaaDoor

/- Products of words: what product answers. -/
namespace Go.Proofs.YtmpdoikdadjneaaDoor
open Go.RowKit Hb Vm Ds

theorem row_step (b p q vq vr fy r cy dg c2 t vq' : Nat) (h1 : dg + b * c2 = fy + r + cy) (h2 : vq' + p * r = vq + p * dg) (h : vq + p * cy = vr + t) (hq : q = p * fy) : vq' + p * b * c2 = vr + (t + q) := by
  have e1 : p * (dg + b * c2) = p * (fy + r + cy) := by rw [h1]
  rw [Nat.mul_add, Nat.mul_add, Nat.mul_add, ← Nat.mul_assoc] at e1
  omega
theorem getD_set_ne (xs : List Nat) (k j u : Nat) (h : k ≠ j) : (xs.set k u).getD j 0 = xs.getD j 0 := by
  simp only [List.getD_eq_getElem?_getD, List.getElem?_set_ne h]
theorem Row.read {W : World} {g : Nat} {t : TypeId} {xs : List Nat} {k : Nat} (f : Nat → Value) (h : Row W g t (xs.map f)) (hk : k < xs.length) : W.cell? ⟨g, k, none⟩ = some (f (xs.getD k 0)) := h.cell k _ (map_getD f xs k hk)
theorem Row.put {W : World} {g : Nat} {t : TypeId} {xs : List Nat} {k : Nat} (f : Nat → Value) (h : Row W g t (xs.map f)) (u : Nat) : Row (W.setCell ⟨g, k, none⟩ (f u)) g t ((xs.set k u).map f) := (h.set k (f u)).cast List.map_set.symm

set_option maxRecDepth 100000 in
set_option maxHeartbeats 4000000 in
theorem prodL_any (A C : Option Addr) (n c m d : Nat) (xs ys : List Nat) (hn : n ≤ 200000) (hm : m ≤ 200000) (hx : Dig 4294967296 xs) (hy : Dig 4294967296 ys) (w : World)
    (hrx : Rd w w.heap.size A n (xs.map uw)) (hry : Rd w w.heap.size C m (ys.map uw)) :
    Calls Tryd.prog 64 #[.slice A n c, .slice C m d] w fun e W' => (∃ v, e = .returned v ∧ Wl W' W'.heap.size v (wval xs * wval ys)) ∧ Below w.heap.size w W' := by
  have hlx : xs.length = n := by simpa using hrx.1
  have hly : ys.length = m := by simpa using hry.1
  have HX := Lib.hid hlx
  have HY := Lib.hid hly
  have mkn : Sem.run Tryd.prog (Instr.makeSlice 31 (.int .i64 ((n : Int) + m)) (.int .i64 ((n : Int) + m))) w = .ok (.slice (some ⟨w.heap.size, 0, none⟩) (n + m) (n + m)) (w.alloc (mkW (n + m))) := makeW (n + m) (by omega) w
  have r1 := mkW_row (n + m) w
  have b1 := mkW_below (n + m) w
  obtain ⟨w2, hw2⟩ : ∃ w2, w2 = w.alloc (mkW (n + m)) := ⟨_, rfl⟩
  rw [← hw2] at mkn r1 b1
  clear hlx hly hw2
  go_enter Tryd.func64, Tryd.ntmps64
  go_wp2_with fail
  go_loopw [20] (fun iv wr => ∃ (i : Nat) (rs : List Nat), i ≤ n ∧ iv = .int .i64 i ∧ Hid (rs.length = n + m) ∧ Hid (∀ j, i + m ≤ j → rs.getD j 0 = 0) ∧ Row wr w.heap.size 81 (rs.map uw) ∧ Below w.heap.size w wr ∧ Dig 4294967296 rs ∧ Hid (val 4294967296 rs = vpre 4294967296 xs i * val 4294967296 ys)) (fun i _ => n - (intOf i).toNat)
  case atStart => exact ⟨0, List.replicate (n + m) 0, Nat.zero_le _, rfl, Lib.hid (List.length_replicate ..), Lib.hid (fun j _ => by rw [List.getD_eq_getElem?_getD, List.getElem?_replicate]; split <;> rfl), r1, b1, Dig.zeros (by decide) _, by show _ = _; rw [val_zeros]; simp [vpre]⟩
  case round =>
    clear r1 b1 mkn
    obtain ⟨i, rs, hi, rfl, HRL, HRZ, hrow, hB, hdr, HV⟩ := hrel
    have hgl := hrow.lt
    by_cases hlt : i < n
    · obtain ⟨ax, rfl, hbx, hcx⟩ := Rd.word (hrx.below hB) hlt
      obtain ⟨f, hf⟩ : ∃ f, f = xs.getD i 0 := ⟨_, rfl⟩
      have hfl : f < 4294967296 := by rw [hf]; exact hx.get (by decide) i
      rw [← hf] at hcx
      have HF := Lib.hid hf
      clear hf
      go_upto_region 5 with (fail)
      go_cut [8, 9] from 25 to 33 (fun pv rv wx => ∃ P, pv = .func (.func 89) #[] #[.pointer (some ⟨P, 0, none⟩)] ∧ rv = .slice (some ⟨w.heap.size, i, none⟩) (m + 1) (n + m - i) ∧ w.heap.size < P ∧ U64 wx P 0 ∧ Row wx w.heap.size 81 (rs.map uw) ∧ Below w.heap.size w wx)
      case first =>
        have s1 : IntKind.i64.wrap ((i : Int) + m) = (i : Int) + m := IntWalk.i64_in _ (by omega)
        have s2 : IntKind.i64.wrap ((i : Int) + m + 1) = (i : Int) + m + 1 := IntWalk.i64_in _ (by omega)
        have s3 : (0 : Int) ≤ (i : Int) + m + 1 := by omega
        have s4 : ((i : Int) + m + 1).toNat = i + m + 1 := by omega
        have s5 : (i : Int) ≤ (i : Int) + m + 1 := by omega
        have s6 : (i : Int) + m + 1 ≤ (n : Int) + m := by omega
        go_region_with (first | (go_at_call 73; refine (carrier_any 0 _).mono ?_; rintro e w4 ⟨rfl, rfl⟩))
        all_goals (go_wp2_with fail; go_meet)
        all_goals (case rel =>
          exact ⟨wr.heap.size, rfl, by rw [show i + m + 1 - i = m + 1 from by omega], hgl, carrier_box 0 wr, hrow.alloc _, (hB.alloc hB.size _).drew⟩)
      case rest =>
        clear hrow hB hgl
        obtain ⟨P, rfl, rfl, hGP, hU, hrow, hB⟩ := hcut
        have hgl := hrow.lt
        go_wp2_with fail
        rename_i wx _
        go_loopw [36] (fun jv V => ∃ (j cy : Nat) (qs : List Nat), j ≤ m ∧ jv = .int .i64 j ∧ Hid (qs.length = n + m) ∧ cy < 4294967296 ∧ Hid (∀ t, i + j ≤ t → qs.getD t 0 = rs.getD t 0) ∧ Row V w.heap.size 81 (qs.map uw) ∧ U64 V P cy ∧ Below w.heap.size w V ∧ Dig 4294967296 qs ∧ Hid (val 4294967296 qs + 4294967296 ^ (i + j) * cy = val 4294967296 rs + 4294967296 ^ i * (f * vpre 4294967296 ys j))) (fun j _ => m - (intOf j).toNat)
        case atStart => exact ⟨0, 0, rs, Nat.zero_le _, rfl, HRL, by decide, Lib.hid (fun t _ => rfl), hrow, hU, hB, hdr, by show _ = _; simp [vpre]⟩
        case round =>
          clear hrow hB hU hgl
          obtain ⟨j, cy, qs, hj, rfl, HQL, hcy, HQ, hrow, hU, hB, hdq, HI⟩ := hrel
          have hgl := hrow.lt
          by_cases hjm : j < m
          · obtain ⟨ay, rfl, hby, hcy'⟩ := Rd.word (hry.below hB) hjm
            obtain ⟨y, hy'⟩ : ∃ y, y = ys.getD j 0 := ⟨_, rfl⟩
            have hyl : y < 4294967296 := by rw [hy']; exact hy.get (by decide) j
            rw [← hy'] at hcy'
            have HYJ := Lib.hid hy'
            clear hy'
            have hcr := hrow.read uw (k := i + j) (by rw [HQL.out]; omega)
            obtain ⟨r, hr⟩ : ∃ r, r = qs.getD (i + j) 0 := ⟨_, rfl⟩
            have hrl : r < 4294967296 := by rw [hr]; exact hdq.get (by decide) _
            rw [← hr] at hcr
            unfold uw at hcr
            have HR := Lib.hid hr
            clear hr
            obtain ⟨p, hp⟩ : ∃ p, p = f * y := ⟨_, rfl⟩
            have hpe : (f : Int) * (y : Int) = (p : Int) := by rw [hp, Int.natCast_mul]
            have hpl : p ≤ 4294967295 * 4294967295 := by rw [hp]; exact Nat.mul_le_mul (by omega) (by omega)
            have HP := Lib.hid hp
            clear hp
            go_wp2_with fail
            refine (pass_any _ (p + r) cy P (by omega) (by omega) _ hU).mono ?_
            rintro e W4 ⟨⟨dg, c2, rfl, hdg, hc2, hU4⟩, hBut, hsz⟩
            have hc2l : c2 < 4294967296 := by omega
            have hdl : dg < 4294967296 := by omega
            have hs : dg + 4294967296 * c2 = p + r + cy := by omega
            have HS := Lib.hid hs
            have r4 := hrow.but hBut hrow.lt (by omega)
            have f4 := r4.frozen (i + j)
            have c4 := r4.read uw (k := i + j) (by rw [HQL.out]; omega)
            have r5 := r4.put uw (k := i + j) dg
            have u5 : U64 (W4.setCell ⟨w.heap.size, i + j, none⟩ (uw dg)) P c2 := hU4.kept (Below.heap_setCell _ _ _ _ (by show P ≠ w.heap.size; omega))
            have b5 := (hB.trans (hBut.low.mono (by omega))).setCell (p := ⟨w.heap.size, i + j, none⟩) (Nat.le_refl _) (uw dg)
            unfold uw at r5 u5 b5 c4
            clear hdg hc2 hU hrow r4 hBut hsz hB hpe hs
            go_wp2_with fail
            go_roundw
            case rel =>
              refine ⟨j + 1, c2, qs.set (i + j) dg, by omega, by go_num, Lib.hid (by rw [List.length_set, HQL.out]), hc2l, Lib.hid (fun t ht => by rw [getD_set_ne _ _ _ _ (by omega), HQ.out t (by omega)]), r5, u5, b5, hdq.set _ hdl, ?_⟩
              show _ = _
              have h2 := val_set 4294967296 qs (i + j) dg (by rw [HQL.out]; omega)
              have h3 := row_step 4294967296 (4294967296 ^ (i + j)) (4294967296 ^ (i + j) * p) _ _ p r cy dg c2 _ _ HS.out (by rw [HR.out]; exact h2) HI.out rfl
              rw [← Nat.add_assoc, Nat.pow_succ, h3, vpre, HP.out, ← HYJ.out, Nat.pow_add, Nat.mul_add, Nat.mul_add]
              congr 2
              rw [Nat.mul_assoc, Nat.mul_left_comm (4294967296 ^ j) f y]
            case measure => simp [intOf]; omega
          · obtain rfl : m = j := by omega
            have hcr := hrow.read uw (k := i + m) (by rw [HQL.out]; omega)
            have h0 : qs.getD (i + m) 0 = 0 := by rw [HQ.out _ (Nat.le_refl _), HRZ.out _ (Nat.le_refl _)]
            have H0 := Lib.hid h0
            clear h0
            go_wp2_with fail
            refine (pass_any _ 0 cy P rfl (by omega) _ hU).mono ?_
            rintro e W4 ⟨⟨dg, c2, rfl, hdg, hc2, hU4⟩, hBut, hsz⟩
            obtain rfl : dg = cy := by omega
            have r4 := hrow.but hBut hrow.lt (by omega)
            have f4 := r4.frozen (i + m)
            have c4 := r4.read uw (k := i + m) (by rw [HQL.out]; omega)
            have r5 := r4.put uw (k := i + m) dg
            have b5 := (hB.trans (hBut.low.mono (by omega))).setCell (p := ⟨w.heap.size, i + m, none⟩) (Nat.le_refl _) (uw dg)
            unfold uw at r5 b5 c4
            clear hdg hc2 hU hrow r4 hBut hsz hB hcr
            go_wp2_with fail
            go_roundw
            case rel =>
              refine ⟨i + 1, qs.set (i + m) dg, by omega, by go_num, Lib.hid (by rw [List.length_set, HQL.out]), Lib.hid (fun t ht => by rw [getD_set_ne _ _ _ _ (by omega), HQ.out t (by omega), HRZ.out t (by omega)]), r5, b5, hdq.set _ hcy, ?_⟩
              show _ = _
              have h2 := val_set 4294967296 qs (i + m) dg (by rw [HQL.out]; omega)
              rw [H0.out, Nat.mul_zero, Nat.add_zero] at h2
              rw [h2, HI.out, HV.out, vpre, vpre_full _ ys m (by rw [HY.out]; exact Nat.le_refl _), ← HF.out, Nat.add_mul, Nat.mul_assoc]
            case measure => simp [intOf]; omega
    · obtain rfl : n = i := by omega
      have hrd := hrow.rd (n + m) (by rw [List.length_map, HRL.out])
      have hE : wval rs = wval xs * wval ys := by
        have := HV.out
        rw [vpre_full _ xs n (by rw [HX.out]; exact Nat.le_refl _)] at this
        exact this
      have HE := Lib.hid hE
      clear hE
      go_wp2_with fail
      refine (trim_any _ (n + m) (n + m) _ rs (Nat.le_refl _) (by unfold maxLen; omega) hdr wr (hrd.mono hrow.lt)).mono ?_
      rintro e W5 ⟨⟨v, rfl, hv⟩, rfl⟩
      go_wp2_with fail
      go_ret
      exact ⟨⟨v, rfl, by rw [← HE.out]; exact hv⟩, hB⟩
end Go.Proofs.YtmpdoikdadjneaaDoor

/- slices.Backward over words: what its iterator hands over, round by round. -/
namespace Go.Proofs.YtmpdoikdadjneaaDoor
open Go.RowKit Go.Shelf Hb Vm Ds
attribute [local go_sem] Oper.semAt_some

def backV (b : Nat) : Value := .func (.func 90) #[] #[.pointer (some ⟨b, 0, none⟩)]
set_option maxHeartbeats 1000000 in
theorem back_any (n : Nat) (A : Option Addr) (l c : Nat) (w : World) :
    CallsIn Fence.wide n Tryd.prog 74 #[.slice A l c] w fun e w' => e = .returned (backV w.heap.size) ∧ w' = w.alloc (.cells #[.slice A l c] 31) := by
  refine callsIn_of_wp Tryd.func74 rfl trivial ?_ rfl
  simp only [Tryd.ntmps74, List.size_toArray, List.length_cons, List.length_nil, Nat.reduceAdd, Nat.reduceSub, Array.replicate_succ, Array.replicate_zero, List.push_toArray, List.append_toArray, List.nil_append, List.cons_append]
  gi_wp2
  go_ret
  exact ⟨rfl, rfl⟩

/-- what the iterator hands over in round k -/
def backE (xs : List Nat) (n k : Nat) : Array Value := #[.int .i64 ((n - 1 - k : Nat) : Int), .int .u32 (xs.getD (n - 1 - k) 0 : Nat)]
def BackSt (n₀ b : Nat) (A : Option Addr) (n c : Nat) (xs : List Nat) (W : World) : Prop := Boxed W b 31 (.slice A n c) ∧ Rd W n₀ A n (xs.map uw)

set_option maxRecDepth 100000 in
set_option maxHeartbeats 1000000 in
theorem back_seq (m : Nat) (hm : 2 ≤ m) (n₀ b n c : Nat) (A : Option Addr) (xs : List Nat) (hn : n ≤ 300000) (_hb0 : n₀ ≤ b) :
    SeqOwn Fence.wide m Tryd.prog 90 #[] #[.pointer (some ⟨b, 0, none⟩)] (backE xs n) n b (KeepBox n₀ b) (fun _ W => BackSt n₀ b A n c xs W) := by
  intro l J Jx W hJ hY h0 hs
  refine callsIn_of_wp Tryd.func90 rfl trivial ?_ rfl
  simp only [Tryd.ntmps90, List.size_toArray, List.length_cons, List.length_nil, Nat.reduceAdd, Nat.reduceSub, Array.replicate_succ, Array.replicate_zero, List.push_toArray, List.append_toArray, List.nil_append, List.cons_append]
  have c0 := hs.1.cell
  gi_wp2
  gi_loopw [3] (fun i wr => ∃ k j : Nat, Hid (n = k + j) ∧ i = .int .i64 ((j : Int) - 1) ∧ j ≤ n ∧ J k wr ∧ BackSt n₀ b A n c xs wr) (fun i _ => (intOf i + 1).toNat)
  case atStart => exact ⟨0, n, Lib.hid (by omega), rfl, Nat.le_refl _, h0, hs⟩
  case round =>
    obtain ⟨k, j, HK, rfl, hjn, hj, hb, hr⟩ := hrel
    have cb := hb.cell
    cases j with
    | zero =>
      have hk : k = n := by have := HK.out; omega
      subst hk
      gi_wp2
      go_end0
      exact ⟨⟨_, rfl⟩, .inl ⟨hj, hb, hr⟩⟩
    | succ j =>
      have hkn : k < n := by have := HK.out; omega
      obtain ⟨fn, tmps, assign, body, hy, hR⟩ := hY k _ hj ⟨hb, hr⟩ hkn
      have hje : n - 1 - k = j := by have := HK.out; omega
      unfold backE at hy
      rw [hje] at hy
      obtain ⟨a, rfl, -, hc⟩ := Rd.word hr (show j < n by omega)
      generalize xs.getD j 0 = x at hy hc
      have e1 : ((j + 1 : Nat) : Int) - 1 = (j : Int) := by omega
      rw [e1]
      have h1 : 1 ≤ m := by omega
      clear hje e1
      gi_wp2_with fail
      refine hR.mono ?_
      rintro e W4 (⟨rfl, hj4, hk4⟩ | ⟨rfl, hx4⟩)
      · gi_wp2
        go_roundw
        case rel => exact ⟨k + 1, j, Lib.hid (by have := HK.out; omega), by go_num, by omega, hj4, hk4.2.trans hb, hr.below hk4.1⟩
        case measure => simp [intOf]
      · gi_wp2
        refine bodyPost_ret (results_none rfl _ _ _) rfl ?_
        exact ⟨⟨_, rfl⟩, .inr ⟨k, hkn, hx4⟩⟩
end Go.Proofs.YtmpdoikdadjneaaDoor

/- A list of words times a word, and a word more: what scale answers. -/
namespace Go.Proofs.YtmpdoikdadjneaaDoor
open Go.RowKit Hb Vm Ds

theorem scale_end (b : Nat) (hb : 1 < b) (n c f m : Nat) (xs os : List Nat) (hx : Dig b xs) (hf : f < b) (hm : m < b) (h1 : xs.length = n) (h : val b os + b ^ (n + 1) * c = vpre b xs (n + 1) * f + m) : val b os = val b xs * f + m := by
  rw [vpre_full _ _ _ (by omega)] at h
  have a1 := val_lt (by omega) hx
  rw [h1] at a1
  rw [Nat.pow_succ] at h
  cases c with
  | zero => omega
  | succ c =>
    have h5 : b ^ n * b * (c + 1) = b ^ n * b * c + b ^ n * b := by rw [Nat.mul_add, Nat.mul_one]
    have h6 : (val b xs + 1) * f ≤ b ^ n * f := Nat.mul_le_mul_right _ a1
    have h7 : b ^ n * (f + 1) ≤ b ^ n * b := Nat.mul_le_mul_left _ hf
    rw [Nat.add_mul] at h6
    rw [Nat.mul_add] at h7
    have h8 : 0 < b ^ n := Nat.pow_pos (by omega)
    have h9 : m < b ^ n * b - b ^ n * f + f := by
      have h10 : b ^ n * b - b ^ n * f = b ^ n * (b - f) := (Nat.mul_sub ..).symm
      rw [h10]
      have : 1 * (b - f) ≤ b ^ n * (b - f) := Nat.mul_le_mul_right _ h8
      omega
    omega

set_option maxRecDepth 100000 in
set_option maxHeartbeats 4000000 in
theorem scaleL_any (A : Option Addr) (n c f m : Nat) (F M : Int) (hF : F = (f : Int)) (hM : M = (m : Int)) (xs : List Nat) (hn : n ≤ 200000) (hx : Dig 4294967296 xs) (hf : f < 4294967296) (hm : m < 4294967296) (w : World)
    (hrx : Rd w w.heap.size A n (xs.map uw)) :
    Calls Tryd.prog 50 #[.slice A n c, .int .u32 F, .int .u32 M] w fun e W' => (∃ v, e = .returned v ∧ Wl W' W'.heap.size v (wval xs * f + m)) ∧ Below w.heap.size w W' := by
  subst hF hM
  have hlx : xs.length = n := by simpa using hrx.1
  have mkn : Sem.run Tryd.prog (Instr.makeSlice 31 (.int .i64 ((n : Int) + 1)) (.int .i64 ((n : Int) + 1))) w = .ok (.slice (some ⟨w.heap.size, 0, none⟩) (n + 1) (n + 1)) (w.alloc (mkW (n + 1))) := makeW (n + 1) (by omega) w
  have HX := Lib.hid hlx
  have r1 := mkW_row (n + 1) w
  have b1 := mkW_below (n + 1) w
  obtain ⟨w2, hw2⟩ : ∃ w2, w2 = w.alloc (mkW (n + 1)) := ⟨_, rfl⟩
  rw [← hw2] at mkn r1 b1
  have s2 := b1.size
  have lt2 := r1.lt
  have hbl : (List.replicate (n + 1) 0).length = n + 1 := List.length_replicate ..
  have HBL := Lib.hid hbl
  clear hlx hw2 hbl
  go_enter Tryd.func50, Tryd.ntmps50
  go_wp2_with fail
  refine (carrier_any (m : Int) w2).mono ?_
  rintro e W3 ⟨rfl, rfl⟩
  clear mkn
  have bx := carrier_box m w2
  have r3 := r1.alloc (.cells #[.int .u64 (m : Int)] 75)
  have b3 := b1.alloc s2 (.cells #[.int .u64 (m : Int)] 75)
  obtain ⟨P, hP⟩ : ∃ P, P = w2.heap.size := ⟨_, rfl⟩
  rw [← hP] at bx lt2
  obtain ⟨W3, hW3⟩ : ∃ W3, W3 = w2.alloc (.cells #[.int .u64 (m : Int)] 75) := ⟨_, rfl⟩
  rw [← hP]
  change U64 (w2.alloc (.cells #[.int .u64 (m : Int)] 75)) P m at bx
  rw [← hW3] at bx r3 b3 ⊢
  clear r1 s2 b1 hW3 hP
  unfold passV
  go_wp2_with fail
  go_loopw [19] (fun i wr => ∃ (k c : Nat) (os : List Nat), k ≤ n + 1 ∧ i = .int .i64 k ∧ Hid (os.length = k) ∧ c < 4294967296 ∧ Row wr w.heap.size 81 ((os ++ (List.replicate (n + 1) 0).drop k).map uw) ∧ U64 wr P c ∧ Below w.heap.size w wr ∧ Dig 4294967296 os ∧ Hid (val 4294967296 os + 4294967296 ^ k * c = vpre 4294967296 xs k * f + m)) (fun i _ => n + 1 - (intOf i).toNat)
  case atStart => exact ⟨0, m, [], Nat.zero_le _, rfl, rfl, hm, r3.cast rfl, bx, b3, Dig.nil _, by show _ = _; simp [val, vpre]⟩
  case round =>
    clear r3 bx b3
    obtain ⟨k, cy, os, hk, rfl, HO, hcy, hrow, hU, hB, hdo, HV⟩ := hrel
    by_cases hlt : k < n + 1
    · go_wp2_with fail
      refine (word_any A n c k w.heap.size xs (by unfold maxLen; omega) _ rfl (by unfold maxLen; omega) hx wr (hrx.below hB)).mono ?_
      rintro e W4 ⟨⟨x, rfl, hxk, hxl⟩, rfl⟩
      have HXK := Lib.hid hxk
      clear hxk
      obtain ⟨p, hp⟩ : ∃ p, p = x * f := ⟨_, rfl⟩
      have hpe : (x : Int) * (f : Int) = (p : Int) := by rw [hp, Int.natCast_mul]
      have hpl : p ≤ 4294967295 * 4294967295 := by rw [hp]; exact Nat.mul_le_mul (by omega) (by omega)
      have HP := Lib.hid hp
      clear hp
      go_wp2_with fail
      refine (pass_any _ p cy P rfl (by omega) wr hU).mono ?_
      rintro e W4 ⟨⟨dg, c2, rfl, hdg, hc2, hU4⟩, hBut, hsz⟩
      have hc2l : c2 < 4294967296 := by omega
      have hdl : dg < 4294967296 := by omega
      have r4 := hrow.but hBut hrow.lt (by omega)
      have f4 := r4.frozen k
      have c4 := r4.next uw HO.out (by rw [HBL.out]; exact hlt)
      have r5 := r4.write uw HO.out (by rw [HBL.out]; exact hlt) dg
      have u5 : U64 (W4.setCell ⟨w.heap.size, k, none⟩ (uw dg)) P c2 := hU4.kept (Below.heap_setCell _ _ _ _ (by show P ≠ w.heap.size; omega))
      have b5 := (hB.trans (hBut.low.mono (by omega))).setCell (p := ⟨w.heap.size, k, none⟩) (Nat.le_refl _) (uw dg)
      have HN := Lib.hid (carry_step 4294967296 (4294967296 ^ k) _ _ p cy dg c2 hdg hc2 HV.out)
      unfold uw at r5 u5 b5 c4
      clear hdg hc2 hU hrow r4 hBut hsz hB hpe
      go_wp2_with fail
      go_roundw
      case rel =>
        refine ⟨k + 1, c2, os ++ [dg], by omega, by go_num, Lib.hid (by rw [List.length_append, HO.out]; rfl), hc2l, r5, u5, b5, hdo.snoc hdl, ?_⟩
        show _ = _
        rw [val_snoc, HO.out, Nat.pow_succ, HN.out, vpre, HP.out, HXK.out, Nat.add_mul, Nat.mul_assoc]
        omega
      case measure => simp [intOf]; omega
    · obtain rfl : k = n + 1 := by omega
      have hrd := hrow.done HBL.out HO.out wr.heap.size hrow.lt
      have hE := scale_end 4294967296 (by decide) n cy f m xs os hx hf hm HX.out HV.out
      have HE := Lib.hid hE
      clear hE
      go_wp2_with fail
      refine (trim_any _ (n + 1) (n + 1) wr.heap.size os (Nat.le_refl _) (by unfold maxLen; omega) hdo wr hrd).mono ?_
      rintro e W5 ⟨⟨v, rfl, hv⟩, rfl⟩
      go_wp2_with fail
      go_ret
      exact ⟨⟨v, rfl, by unfold wval; rw [← HE.out]; exact hv⟩, hB⟩
end Go.Proofs.YtmpdoikdadjneaaDoor
