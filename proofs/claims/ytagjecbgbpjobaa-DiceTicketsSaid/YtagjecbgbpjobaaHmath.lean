/- The plain arithmetic of package hash: mixing a word into a 64-bit state loses nothing, so one changed word changes a sum; words of bytes, least byte first. No program is named here. -/
import Derived.WalkKit
import Derived.ProofKit
namespace Go.Proofs.Ytagjecbgbpjobaa.Hm
open Go Go.RowKit

def UI (b : BitVec 64) : Int := (b.toNat : Int)
def BI (n : Int) : BitVec 64 := BitVec.ofInt 64 n
def mixB (s w : BitVec 64) : BitVec 64 := ((s ^^^ w) * 11400714819323198485#64) ^^^ (((s ^^^ w) * 11400714819323198485#64) >>> 32)
def mixI (s w : Int) : Int := UI (mixB (BI s) (BI w))

theorem UI_nonneg (b : BitVec 64) : 0 ≤ UI b := Int.natCast_nonneg _
theorem UI_lt (b : BitVec 64) : UI b < 18446744073709551616 := by unfold UI; have := b.isLt; omega
theorem BI_UI (b : BitVec 64) : BI (UI b) = b := by
  unfold BI UI
  apply BitVec.eq_of_toNat_eq
  simp
theorem UI_BI (n : Int) : UI (BI n) = n % 18446744073709551616 := by
  unfold BI UI
  rw [BitVec.toNat_ofInt]
  have : (0 : Int) ≤ n % ((2 ^ 64 : Nat) : Int) := Int.emod_nonneg _ (by decide)
  rw [Int.toNat_of_nonneg this]
  rfl
theorem wrapU (n : Int) : IntKind.u64.wrap n = UI (BI n) := by
  rw [UI_BI]
  simp [IntKind.wrap, IntKind.signed, IntKind.bits]
theorem wrapU_in (n : Int) (h0 : 0 ≤ n) (h1 : n < 18446744073709551616) : UI (BI n) = n := by rw [UI_BI]; omega
theorem BI_add (n : Int) : BI (n + 18446744073709551616) = BI n := by
  apply BitVec.eq_of_toNat_eq
  have h1 := UI_BI (n + 18446744073709551616)
  have h2 := UI_BI n
  unfold UI at h1 h2
  omega
theorem BI_eq_iff (a b : Int) : BI a = BI b ↔ a % 18446744073709551616 = b % 18446744073709551616 := by
  constructor
  · intro h; rw [← UI_BI, ← UI_BI, h]
  · intro h
    rw [← UI_BI, ← UI_BI] at h
    apply BitVec.eq_of_toNat_eq
    unfold UI at h
    omega
theorem BI_inj_i64 (a b : Int) (ha : -9223372036854775808 ≤ a ∧ a ≤ 9223372036854775807) (hb : -9223372036854775808 ≤ b ∧ b ≤ 9223372036854775807) : BI a = BI b ↔ a = b := by
  rw [BI_eq_iff]; omega
theorem BI_inj_u64 (a b : Int) (ha : 0 ≤ a ∧ a < 18446744073709551616) (hb : 0 ≤ b ∧ b < 18446744073709551616) : BI a = BI b ↔ a = b := by
  rw [BI_eq_iff]; omega
theorem wrapI_mod (n : Int) : (wrap64 n) % 18446744073709551616 = n % 18446744073709551616 := by
  unfold wrap64
  omega
theorem BI_wrapI (n : Int) : BI (wrap64 n) = BI n := by rw [BI_eq_iff, wrapI_mod]
theorem BI_wrapU (n : Int) : BI (IntKind.u64.wrap n) = BI n := by rw [wrapU, BI_UI]
theorem wrapI_range (n : Int) : -9223372036854775808 ≤ wrap64 n ∧ wrap64 n ≤ 9223372036854775807 := by
  unfold wrap64
  omega

theorem bits_xor (x y : Int) : bits .xor .u64 x y = UI (BI x ^^^ BI y) := by
  unfold bits
  simp only []
  rw [wrapU]
  show UI (BI (UI (BI x ^^^ BI y))) = _
  rw [BI_UI]
theorem bits_or (x y : Int) : bits .or .u64 x y = UI (BI x ||| BI y) := by
  unfold bits
  simp only []
  rw [wrapU]
  show UI (BI (UI (BI x ||| BI y))) = _
  rw [BI_UI]
theorem BI_mul (a b : Int) : BI (a * b) = BI a * BI b := by unfold BI; rw [BitVec.ofInt_mul]
theorem UI_shift (m : BitVec 64) : UI m / (4294967296 : Int) = UI (m >>> 32) := by
  unfold UI
  rw [BitVec.toNat_ushiftRight, Nat.shiftRight_eq_div_pow]
  rfl
theorem mix_walk (s w : Int) : bits .xor .u64 (IntKind.u64.wrap (bits .xor .u64 s w * 11400714819323198485)) (IntKind.u64.wrap (bits .xor .u64 s w * 11400714819323198485) / 4294967296) = mixI s w := by
  rw [wrapU, UI_shift, bits_xor (UI _), BI_UI, BI_UI, BI_mul, bits_xor s w, BI_UI]
  rfl
theorem mix_walk2 (s w : Int) : bits .xor .u64 (IntKind.u64.wrap (bits .xor .u64 s w * 11400714819323198485)) (IntKind.u64.wrap ((IntKind.u64.wrap (bits .xor .u64 s w * 11400714819323198485)).tdiv 4294967296)) = mixI s w := by
  have h : (IntKind.u64.wrap (bits .xor .u64 s w * 11400714819323198485)).tdiv 4294967296 = IntKind.u64.wrap (bits .xor .u64 s w * 11400714819323198485) / 4294967296 := by
    rw [wrapU]; exact Int.tdiv_eq_ediv_of_nonneg (UI_nonneg _)
  rw [h, ← mix_walk]
  rw [wrapU (_ / _), wrapU_in _ (by rw [wrapU]; have := UI_nonneg (BI (bits .xor .u64 s w * 11400714819323198485)); omega) (by rw [wrapU]; have := UI_nonneg (BI (bits .xor .u64 s w * 11400714819323198485)); have := UI_lt (BI (bits .xor .u64 s w * 11400714819323198485)); omega)]
theorem mixI_UI (s : BitVec 64) (w : Int) : mixI (UI s) w = UI (mixB s (BI w)) := by unfold mixI; rw [BI_UI]

/-! what mixing loses: nothing -/
theorem xorshift_inj (a b : BitVec 64) (h : a ^^^ (a >>> 32) = b ^^^ (b >>> 32)) : a = b := by
  have key : ∀ i, i < 64 → (a.getLsbD (63 - i) = b.getLsbD (63 - i)) := by
    intro i
    induction i using Nat.strongRecOn with
    | _ i ih =>
      intro hi
      have e := congrArg (fun v => v.getLsbD (63 - i)) h
      simp only [BitVec.getLsbD_xor, BitVec.getLsbD_ushiftRight] at e
      by_cases hlow : i < 32
      · have g1 : a.getLsbD (32 + (63 - i)) = false := BitVec.getLsbD_of_ge _ _ (by omega)
        have g2 : b.getLsbD (32 + (63 - i)) = false := BitVec.getLsbD_of_ge _ _ (by omega)
        rw [g1, g2] at e
        simpa using e
      · have e2 := ih (i - 32) (by omega) (by omega)
        have x1 : 63 - (i - 32) = 32 + (63 - i) := by omega
        rw [x1] at e2
        rw [e2] at e
        simpa using e
  apply BitVec.eq_of_getLsbD_eq
  intro i hi
  have := key (63 - i) (by omega)
  rwa [show 63 - (63 - i) = i from by omega] at this
theorem mul_inj (a b : BitVec 64) (h : a * 11400714819323198485#64 = b * 11400714819323198485#64) : a = b := by
  have e := congrArg (fun v => v * 17428512612931826493#64) h
  simp only [BitVec.mul_assoc] at e
  have c : (11400714819323198485#64 * 17428512612931826493#64 : BitVec 64) = 1#64 := by decide
  rw [c, BitVec.mul_one, BitVec.mul_one] at e
  exact e
theorem mixB_xor (s w s' w' : BitVec 64) (h : mixB s w = mixB s' w') : s ^^^ w = s' ^^^ w' := mul_inj _ _ (xorshift_inj _ _ h)
theorem mixB_left (s s' w : BitVec 64) : mixB s w = mixB s' w ↔ s = s' := by
  constructor
  · intro h; have := mixB_xor _ _ _ _ h; exact (BitVec.xor_left_inj w).1 this
  · rintro rfl; rfl
theorem mixB_right (s w w' : BitVec 64) : mixB s w = mixB s w' ↔ w = w' := by
  constructor
  · intro h; have := mixB_xor _ _ _ _ h; exact (BitVec.xor_right_inj s).1 this
  · rintro rfl; rfl

def fold (s : BitVec 64) (ws : List Int) : BitVec 64 := ws.foldl (fun t w => mixB t (BI w)) s
theorem fold_append (s : BitVec 64) (a b : List Int) : fold s (a ++ b) = fold (fold s a) b := by unfold fold; rw [List.foldl_append]
theorem fold_snoc (s : BitVec 64) (a : List Int) (x : Int) : fold s (a ++ [x]) = mixB (fold s a) (BI x) := by rw [fold_append]; rfl
theorem fold_inj (ws : List Int) : ∀ s s' : BitVec 64, fold s ws = fold s' ws ↔ s = s' := by
  induction ws with
  | nil => intro s s'; exact Iff.rfl
  | cons x r ih => intro s s'; show fold (mixB s (BI x)) r = fold (mixB s' (BI x)) r ↔ _; rw [ih, mixB_left]
theorem fold_one (s : BitVec 64) (a r : List Int) (x y : Int) : fold s (a ++ x :: r) = fold s (a ++ y :: r) ↔ BI x = BI y := by
  rw [fold_append, fold_append]
  show fold (mixB _ (BI x)) r = fold (mixB _ (BI y)) r ↔ _
  rw [fold_inj, mixB_right]
theorem fold_congr (s : BitVec 64) (f : Int → Int) (hf : ∀ x, BI (f x) = BI x) (ws : List Int) : fold s (ws.map f) = fold s ws := by
  induction ws generalizing s with
  | nil => rfl
  | cons x r ih => show fold (mixB s (BI (f x))) (r.map f) = fold (mixB s (BI x)) r; rw [ih, hf]

/-! the words of bytes -/
def le : List UInt8 → Nat
  | [] => 0
  | b :: r => b.toNat + 256 * le r
theorem le_lt (l : List UInt8) : le l < 256 ^ l.length := by
  induction l with
  | nil => simp [le]
  | cons b r ih => have := b.toNat_lt; simp only [le, List.length_cons, Nat.pow_succ]; omega
theorem le_snoc (l : List UInt8) (b : UInt8) : le (l ++ [b]) = le l + b.toNat * 256 ^ l.length := by
  induction l with
  | nil => simp [le]
  | cons c r ih => simp only [List.cons_append, le, ih, List.length_cons, Nat.pow_succ, Nat.mul_add]; rw [Nat.add_assoc, Nat.mul_comm 256 (_ * _), Nat.mul_assoc]
theorem le_inj : ∀ (l l' : List UInt8), l.length = l'.length → le l = le l' → l = l'
  | [], [], _, _ => rfl
  | [], _ :: _, h, _ => by simp at h
  | _ :: _, [], h, _ => by simp at h
  | b :: r, b' :: r', h, e => by
    simp only [le] at e
    have h1 := b.toNat_lt
    have h2 := b'.toNat_lt
    have h3 : b.toNat = b'.toNat := by omega
    have h4 : le r = le r' := by omega
    rw [UInt8.toNat_inj.1 h3, le_inj r r' (by simpa using h) h4]
theorem le_eight (l : List UInt8) (h : l.length ≤ 8) : le l < 18446744073709551616 := by
  have h1 := le_lt l
  have h2 : 256 ^ l.length ≤ 256 ^ 8 := Nat.pow_le_pow_right (by omega) h
  omega
theorem or_step (l : List UInt8) (b : UInt8) (h : l.length ≤ 7) : bits .or .u64 (le l : Int) (IntKind.u64.wrap (IntKind.u64.wrap (b.toNat : Int) * 2 ^ (8 * l.length))) = (le (l ++ [b]) : Int) := by
  have hb := b.toNat_lt
  have h1 := le_lt l
  have h2 : 256 ^ l.length = 2 ^ (8 * l.length) := by rw [show 256 = 2 ^ 8 from rfl, ← Nat.pow_mul]
  have h8 : 256 ^ l.length ≤ 256 ^ 7 := Nat.pow_le_pow_right (by omega) h
  have hbig : le (l ++ [b]) < 18446744073709551616 := le_eight _ (by simp; omega)
  rw [le_snoc] at hbig
  rw [le_snoc, bits_or, wrapU, wrapU, BI_UI, UI_BI]
  have e1 : ((b.toNat : Int) % 18446744073709551616) = (b.toNat : Int) := by omega
  rw [e1, show ((2 : Int) ^ (8 * l.length)) = ((256 ^ l.length : Nat) : Int) from by rw [h2]; norm_cast]
  rw [show (b.toNat : Int) * ((256 ^ l.length : Nat) : Int) = ((b.toNat * 256 ^ l.length : Nat) : Int) from by norm_cast]
  have t : ∀ n : Nat, n < 18446744073709551616 → (BI (n : Int)).toNat = n := by
    intro n hn; have := UI_BI (n : Int); unfold UI at this; omega
  unfold UI
  rw [BitVec.toNat_or, t _ (by omega), t _ (by omega)]
  have e2 := Nat.shiftLeft_add_eq_or_of_lt (b := le l) (i := 8 * l.length) (by rw [← h2]; exact h1) b.toNat
  rw [Nat.shiftLeft_eq, ← h2] at e2
  rw [Nat.or_comm, ← e2, Nat.add_comm]
def grp (l : List UInt8) (k : Nat) : List UInt8 := (l.drop (8 * k)).take 8
theorem grp_len (l : List UInt8) (k : Nat) : (grp l k).length ≤ 8 := List.length_take_le _ _
def wk (l : List UInt8) (k : Nat) : Int := (le (grp l k) : Int)
theorem wk_nonneg (l : List UInt8) (k : Nat) : 0 ≤ wk l k := Int.natCast_nonneg _
theorem wk_lt (l : List UInt8) (k : Nat) : wk l k < 18446744073709551616 := by unfold wk; have := le_eight (grp l k) (grp_len l k); omega
def nw (n : Nat) : Nat := (n + 7) / 8
def wl (l : List UInt8) : List Int := (List.range (nw l.length)).map (wk l)
def wlUpto (l : List UInt8) (k : Nat) : List Int := (List.range k).map (wk l)
theorem wlUpto_succ (l : List UInt8) (k : Nat) : wlUpto l (k + 1) = wlUpto l k ++ [wk l k] := by simp [wlUpto, List.range_succ]
theorem wlUpto_length (l : List UInt8) (k : Nat) : (wlUpto l k).length = k := by simp [wlUpto]
theorem wl_length (l : List UInt8) : (wl l).length = nw l.length := by simp [wl]
theorem wlUpto_prefix (l : List UInt8) (k : Nat) (h : k ≤ nw l.length) : wlUpto l k <+: wl l := by
  have e : wlUpto l k = (wl l).take k := by
    unfold wlUpto wl
    rw [← List.map_take, List.take_range, Nat.min_eq_left h]
  rw [e]
  exact List.take_prefix _ _
theorem wl_bounds (l : List UInt8) : ∀ x ∈ wl l, 0 ≤ x ∧ x < 18446744073709551616 := by
  intro x hx
  simp only [wl, List.mem_map] at hx
  obtain ⟨k, _, rfl⟩ := hx
  exact ⟨wk_nonneg _ _, wk_lt _ _⟩

/-- what Sum answers -/
def sumB (ls : List UInt8) (ws : List Int) : BitVec 64 :=
  mixB (fold (mixB (mixB (fold 0#64 (wl ls)) (BI ls.length)) (BI ws.length)) ws) 0#64
def sumM (ls : List UInt8) (ws : List Int) : Int := UI (sumB ls ws)
def bytesM (ls bs : List UInt8) : Int := sumM ls ((wl bs).map wrap64 ++ [(bs.length : Int)])
def pairM (a b : Int) : Int := sumM [112, 97, 105, 114] [wrap64 a, wrap64 b]

theorem sumM_eq (ls ls' : List UInt8) (ws ws' : List Int) : sumM ls ws = sumM ls' ws' ↔ sumB ls ws = sumB ls' ws' := by
  constructor
  · intro h; rw [← BI_UI (sumB ls ws), ← BI_UI (sumB ls' ws')]; exact congrArg BI h
  · intro h; exact congrArg UI h
/-- one changed word -/
theorem sum_one (ls : List UInt8) (a r : List Int) (x y : Int) : sumM ls (a ++ x :: r) = sumM ls (a ++ y :: r) ↔ BI x = BI y := by
  rw [sumM_eq]
  unfold sumB
  have hl : (a ++ x :: r).length = (a ++ y :: r).length := by simp
  rw [hl, mixB_left, fold_one]
theorem sum_set (ls : List UInt8) (ws : List Int) (k : Nat) (h : k < ws.length) (v : Int) : sumM ls ws = sumM ls (ws.set k v) ↔ BI ws[k] = BI v := by
  have e1 : ws = ws.take k ++ ws[k] :: ws.drop (k + 1) := by rw [← List.drop_eq_getElem_cons h, List.take_append_drop]
  have e2 : ws.set k v = ws.take k ++ v :: ws.drop (k + 1) := by rw [List.set_eq_take_append_cons_drop, if_pos h]
  rw [e2]
  conv => lhs; lhs; rw [e1]
  exact sum_one _ _ _ _ _
/-- the words as integers count for as much as the words -/
theorem sum_map (ls : List UInt8) (a b : List Int) (f : Int → Int) (hf : ∀ x, BI (f x) = BI x) : sumM ls (a.map f ++ b) = sumM ls (a ++ b) := by
  unfold sumM sumB
  have hl : (a.map f ++ b).length = (a ++ b).length := by simp
  rw [hl, fold_append, fold_append, fold_congr _ f hf]
theorem bytesM_eq (ls bs : List UInt8) : bytesM ls bs = sumM ls (wl bs ++ [(bs.length : Int)]) := sum_map _ _ _ _ BI_wrapI
/-- one label for another of as many bytes: the sums are equal just where the labels' words come to the same state -/
theorem sum_label (ls ls' : List UInt8) (hl : ls.length = ls'.length) (ws : List Int) : sumM ls ws = sumM ls' ws ↔ fold 0#64 (wl ls) = fold 0#64 (wl ls') := by
  rw [sumM_eq]
  unfold sumB
  rw [mixB_left, fold_inj, mixB_left, hl, mixB_left]

/-! bytes that differ in one group alone -/
theorem grp_all (x y : List UInt8) (hl : x.length = y.length) (h : ∀ k, grp x k = grp y k) : x = y := by
  apply List.ext_getElem hl
  intro i h1 h2
  have e := h (i / 8)
  have e' := congrArg (fun l => l[i % 8]?) e
  simp only [grp, List.getElem?_take, List.getElem?_drop] at e'
  rw [if_pos (Nat.mod_lt _ (by omega)), if_pos (Nat.mod_lt _ (by omega)), show 8 * (i / 8) + i % 8 = i from by omega] at e'
  rw [List.getElem?_eq_getElem h1, List.getElem?_eq_getElem h2] at e'
  exact Option.some.inj e'
theorem grp_same (x y : List UInt8) (q k : Nat) (hk : k ≠ q) (h : ∀ i, i / 8 ≠ q → x[i]? = y[i]?) : grp x k = grp y k := by
  apply List.ext_getElem?
  intro i
  simp only [grp, List.getElem?_take, List.getElem?_drop]
  split
  · apply h; omega
  · rfl
theorem grp_len_eq (x y : List UInt8) (hl : x.length = y.length) (k : Nat) : (grp x k).length = (grp y k).length := by simp [grp, hl]
theorem wl_one (x y : List UInt8) (hl : x.length = y.length) (q : Nat) (hq : q < nw x.length) (h : ∀ i, i / 8 ≠ q → x[i]? = y[i]?) : wl y = (wl x).set q (wk y q) := by
  apply List.ext_getElem?
  intro k
  rw [List.getElem?_set]
  by_cases hkq : q = k
  · subst hkq
    rw [if_pos rfl, if_pos (by rw [wl_length]; exact hq)]
    simp [wl, ← hl, hq]
  · rw [if_neg hkq]
    simp only [wl, List.getElem?_map, ← hl]
    by_cases hk : k < nw x.length
    · rw [List.getElem?_range hk]
      simp only [Option.map_some]
      unfold wk
      rw [grp_same x y q k (fun e => hkq e.symm) h]
    · rw [List.getElem?_eq_none (by simp; omega)]
      rfl
theorem wk_inj (x y : List UInt8) (hl : x.length = y.length) (q : Nat) (h : wk x q = wk y q) : grp x q = grp y q :=
  le_inj _ _ (grp_len_eq x y hl q) (by unfold wk at h; omega)
/-- bytes that differ in one group alone: the words' states are equal just where the bytes are -/
theorem fold_group (s : BitVec 64) (x y : List UInt8) (hl : x.length = y.length) (q : Nat) (h : ∀ i, i / 8 ≠ q → x[i]? = y[i]?) (z : List Int) : fold s (wl x ++ z) = fold s (wl y ++ z) ↔ x = y := by
  constructor
  · intro e
    by_cases hq : q < nw x.length
    · have hw := wl_one x y hl q hq h
      have hq' : q < (wl x).length := by rw [wl_length]; exact hq
      have e1 : wl x = (wl x).take q ++ (wl x)[q] :: (wl x).drop (q + 1) := by rw [← List.drop_eq_getElem_cons hq', List.take_append_drop]
      have e2 : wl y = (wl x).take q ++ wk y q :: (wl x).drop (q + 1) := by rw [hw, List.set_eq_take_append_cons_drop, if_pos hq']
      have e3 : (wl x)[q] = wk x q := by simp [wl]
      rw [e2] at e
      conv at e => lhs; rw [e1]
      rw [List.append_assoc, List.append_assoc, List.cons_append, List.cons_append, fold_one, e3, BI_inj_u64 _ _ ⟨wk_nonneg _ _, wk_lt _ _⟩ ⟨wk_nonneg _ _, wk_lt _ _⟩] at e
      refine grp_all x y hl fun k => ?_
      by_cases hkq : k = q
      · subst hkq; exact wk_inj x y hl k e
      · exact grp_same x y q k hkq h
    · apply List.ext_getElem?
      intro i
      by_cases hi : i / 8 = q
      · rw [List.getElem?_eq_none (by unfold nw at hq; omega), List.getElem?_eq_none (by unfold nw at hq; omega)]
      · exact h i hi
  · rintro rfl; rfl
theorem bytes_group (ls x y : List UInt8) (hl : x.length = y.length) (q : Nat) (h : ∀ i, i / 8 ≠ q → x[i]? = y[i]?) : bytesM ls x = bytesM ls y ↔ x = y := by
  rw [bytesM_eq, bytesM_eq, sumM_eq]
  unfold sumB
  have e : (wl x ++ [(x.length : Int)]).length = (wl y ++ [(y.length : Int)]).length := by simp [wl_length, hl]
  rw [mixB_left, e, hl, fold_group _ x y hl q h]
theorem label_group (x y : List UInt8) (hl : x.length = y.length) (q : Nat) (h : ∀ i, i / 8 ≠ q → x[i]? = y[i]?) (ws : List Int) : sumM x ws = sumM y ws ↔ x = y := by
  rw [sum_label x y hl]
  have := fold_group 0#64 x y hl q h []
  rwa [List.append_nil, List.append_nil] at this
/-- a zero byte behind a last group that has room turns the length alone -/
theorem le_zero (l : List UInt8) : le (l ++ [0]) = le l := by rw [le_snoc]; simp
theorem wl_zero (l : List UInt8) (h : l.length % 8 ≠ 0) : wl (l ++ [0]) = wl l := by
  have hn : nw (l ++ [0]).length = nw l.length := by simp [nw]; omega
  unfold wl
  rw [hn]
  apply List.map_congr_left
  intro k hk
  have hk' : k < nw l.length := by simpa using hk
  unfold wk grp
  have hd : (l ++ [(0 : UInt8)]).drop (8 * k) = l.drop (8 * k) ++ [0] := List.drop_append_of_le_length (by unfold nw at hk'; omega)
  rw [hd]
  by_cases hlast : (l.drop (8 * k)).length < 8
  · rw [List.take_of_length_le (by simp at hlast ⊢; omega), List.take_of_length_le (by omega), le_zero]
  · rw [List.take_append_of_le_length (by omega)]
theorem bytes_longer (ls l : List UInt8) (h : l.length % 8 ≠ 0) (hs : l.length < 9223372036854775807) : bytesM ls (l ++ [0]) ≠ bytesM ls l := by
  rw [bytesM_eq, bytesM_eq, wl_zero l h]
  intro e
  have := (sum_one ls (wl l) [] _ _).1 e
  rw [BI_inj_u64 _ _ (by simp; omega) (by omega)] at this
  simp at this
  omega
theorem pair_left (a b c : Int) (ha : 0 ≤ a ∧ a < 18446744073709551616) (hb : 0 ≤ b ∧ b < 18446744073709551616) : pairM a c = pairM b c ↔ a = b := by
  unfold pairM
  rw [show [wrap64 a, wrap64 c] = [] ++ wrap64 a :: [wrap64 c] from rfl, show [wrap64 b, wrap64 c] = [] ++ wrap64 b :: [wrap64 c] from rfl, sum_one, BI_wrapI, BI_wrapI, BI_inj_u64 _ _ ha hb]
theorem pair_right (a b c : Int) (ha : 0 ≤ a ∧ a < 18446744073709551616) (hb : 0 ≤ b ∧ b < 18446744073709551616) : pairM c a = pairM c b ↔ a = b := by
  unfold pairM
  rw [show [wrap64 c, wrap64 a] = [wrap64 c] ++ wrap64 a :: [] from rfl, show [wrap64 c, wrap64 b] = [wrap64 c] ++ wrap64 b :: [] from rfl, sum_one, BI_wrapI, BI_wrapI, BI_inj_u64 _ _ ha hb]
/-- the examples -/
theorem live1 : sumM [97] [5] ≠ sumM [97] [6] := by
  intro e
  have := (sum_one [97] [] [] 5 6).1 e
  rw [BI_inj_u64 _ _ (by omega) (by omega)] at this
  omega
theorem live2 : bytesM [97] [1, 2] = sumM [97] [513, 2] := by
  rw [bytesM_eq]
  rfl
theorem live3 : pairM 1 2 ≠ pairM 1 3 := by
  intro e
  have := (pair_right 2 3 1 (by omega) (by omega)).1 e
  omega
end Go.Proofs.Ytagjecbgbpjobaa.Hm
