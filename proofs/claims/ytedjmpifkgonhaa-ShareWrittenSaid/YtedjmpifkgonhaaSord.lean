/- The plain arithmetic of Split: the order of the remainders, who gets one more. No program is named here. -/
import Derived.WalkKit
import Derived.ProofKit
namespace Go.Proofs.Ytedjmpifkgonhaa.Sx
open Go Go.RowKit

/-- index i comes before index j: a greater remainder, of equal ones the first -/
def before (rs : List Nat) (i j : Nat) : Prop := rs.getD j 0 < rs.getD i 0 ∨ (rs.getD j 0 = rs.getD i 0 ∧ i < j)
instance (rs : List Nat) (i j : Nat) : Decidable (before rs i j) := by unfold before; exact inferInstance
def beq (rs : List Nat) (i j : Nat) : Bool := decide (¬ before rs j i)
theorem before_asymm {rs : List Nat} {i j : Nat} (h : before rs i j) : ¬ before rs j i := by unfold before at *; omega
theorem before_trans {rs : List Nat} {i j k : Nat} (h : before rs i j) (h' : before rs j k) : before rs i k := by unfold before at *; omega
theorem before_total (rs : List Nat) {i j : Nat} (h : i ≠ j) : before rs i j ∨ before rs j i := by unfold before; omega

/-- the indices of the remainders, in that order -/
def ord (rs : List Nat) : List Nat := (List.range rs.length).mergeSort (beq rs)
theorem ord_perm (rs : List Nat) : (ord rs).Perm (List.range rs.length) := List.mergeSort_perm _ _
theorem ord_len (rs : List Nat) : (ord rs).length = rs.length := by simp [ord]
theorem ord_lt (rs : List Nat) : ∀ i ∈ ord rs, i < rs.length := fun _ hi => List.mem_range.1 ((ord_perm rs).mem_iff.1 hi)
theorem ord_mem (rs : List Nat) {i : Nat} (h : i < rs.length) : i ∈ ord rs := (ord_perm rs).mem_iff.2 (List.mem_range.2 h)
theorem ord_nodup (rs : List Nat) : (ord rs).Nodup := (ord_perm rs).nodup_iff.2 List.nodup_range
theorem ord_sorted (rs : List Nat) : (ord rs).Pairwise fun i j => ¬ before rs j i := by
  have h := List.pairwise_mergeSort (le := beq rs) (fun a b c => by simp only [beq, decide_eq_true_eq]; unfold before; omega) (fun a b => by simp only [beq, Bool.or_eq_true, decide_eq_true_eq]; unfold before; omega) (List.range rs.length)
  exact h.imp fun h => by simpa [beq] using h
theorem ord_before (rs : List Nat) {a b i j : Nat} (hab : a < b) (hi : (ord rs)[a]? = some i) (hj : (ord rs)[b]? = some j) : before rs i j := by
  obtain ⟨ha, rfl⟩ := List.getElem?_eq_some_iff.1 hi
  obtain ⟨hb, rfl⟩ := List.getElem?_eq_some_iff.1 hj
  have h1 := List.pairwise_iff_getElem.1 (ord_sorted rs) a b ha hb hab
  have h2 := List.pairwise_iff_getElem.1 (ord_nodup rs) a b ha hb hab
  rcases before_total rs h2 with h | h
  · exact h
  · exact absurd h h1
/-- whatever row of all the indices is sorted so is this one -/
theorem ord_unique (rs o : List Nat) (hp : o.Perm (List.range rs.length)) (hs : ∀ a b : Nat, a < b → ∀ i j : Nat, o[a]? = some i → o[b]? = some j → ¬ before rs j i) : o = ord rs := by
  have h1 : o.Pairwise fun i j => ¬ before rs j i := by
    rw [List.pairwise_iff_getElem]
    intro a b ha hb hab
    exact hs a b hab _ _ (List.getElem?_eq_getElem ha) (List.getElem?_eq_getElem hb)
  refine List.Perm.eq_of_pairwise (le := fun i j => ¬ before rs j i) ?_ h1 (ord_sorted rs) (hp.trans (ord_perm rs).symm)
  intro a b _ _ h2 h3
  by_cases h : a = b
  · exact h
  · exact absurd (before_total rs h) (by simp [h2, h3])
/-- the first of the greatest of those that are left -/
theorem ord_pick (rs : List Nat) (k b : Nat) (hk : k < rs.length) (hb : b < rs.length) (hnb : b ∉ (ord rs).take k)
    (hbest : ∀ j, j < rs.length → j ∉ (ord rs).take k → ¬ before rs j b) : (ord rs)[k]? = some b := by
  have hl := ord_len rs
  obtain ⟨l, hl1, hl2⟩ := List.getElem_of_mem (ord_mem rs hb)
  have hlk : k ≤ l := by
    by_cases h : k ≤ l
    · exact h
    · exact absurd (List.mem_take_iff_getElem.2 ⟨l, by omega, hl2⟩) hnb
  by_cases h : l = k
  · subst h; rw [List.getElem?_eq_getElem hl1, hl2]
  · have hk' : k < (ord rs).length := by omega
    have h1 := ord_before rs (show k < l by omega) (List.getElem?_eq_getElem hk') (List.getElem?_eq_getElem hl1)
    rw [hl2] at h1
    refine absurd h1 (hbest _ (ord_lt rs _ (List.getElem_mem hk')) ?_)
    intro hm
    obtain ⟨q, hq, he⟩ := List.mem_take_iff_getElem.1 hm
    exact List.pairwise_iff_getElem.1 (ord_nodup rs) q k (by omega) hk' (by omega) he

/-- one more for each of some places -/
def bump1 (ps : List Nat) (i : Nat) : List Nat := ps.set i (ps.getD i 0 + 1)
def bump (ps is : List Nat) : List Nat := is.foldl bump1 ps
theorem bump_snoc (ps is : List Nat) (i : Nat) : bump ps (is ++ [i]) = bump1 (bump ps is) i := by simp [bump]
theorem bump_len (ps is : List Nat) : (bump ps is).length = ps.length := by
  induction is generalizing ps with
  | nil => rfl
  | cons i r ih => show (bump (bump1 ps i) r).length = _; rw [ih]; simp [bump1]
theorem bump_get (ps is : List Nat) (h : ∀ i ∈ is, i < ps.length) (j : Nat) (hj : j < ps.length) : (bump ps is).getD j 0 = ps.getD j 0 + is.count j := by
  induction is generalizing ps with
  | nil => simp [bump]
  | cons i r ih =>
    show (bump (bump1 ps i) r).getD j 0 = _
    have hl : (bump1 ps i).length = ps.length := by simp [bump1]
    rw [ih (bump1 ps i) (fun x hx => by rw [hl]; exact h x (List.mem_cons_of_mem _ hx)) (by rw [hl]; exact hj)]
    have hi := h i (List.mem_cons_self ..)
    unfold bump1
    rw [List.getD_eq_getElem?_getD, List.getElem?_set]
    by_cases hij : i = j
    · subst hij
      rw [if_pos rfl, if_pos hi]
      simp
      omega
    · rw [if_neg hij, List.count_cons_of_ne hij, ← List.getD_eq_getElem?_getD]
theorem sum_set (l : List Nat) (i v : Nat) (h : i < l.length) : (l.set i v).sum + l.getD i 0 = l.sum + v := by
  induction l generalizing i with
  | nil => simp at h
  | cons x r ih =>
    cases i with
    | zero => simp; omega
    | succ i => have := ih i (by simpa using h); simp at this ⊢; omega
theorem bump_sum (ps is : List Nat) (h : ∀ i ∈ is, i < ps.length) : (bump ps is).sum = ps.sum + is.length := by
  induction is generalizing ps with
  | nil => simp [bump]
  | cons i r ih =>
    have hl : (bump1 ps i).length = ps.length := by simp [bump1]
    show (bump (bump1 ps i) r).sum = _
    rw [ih (bump1 ps i) (fun x hx => by rw [hl]; exact h x (List.mem_cons_of_mem _ hx))]
    have hs := sum_set ps i (ps.getD i 0 + 1) (h i (List.mem_cons_self ..))
    unfold bump1
    simp only [List.length_cons]
    omega

/-! ## Split -/
def qs (t S : Nat) (ws : List Nat) : List Nat := ws.map fun w => t * w / S
def rs (t S : Nat) (ws : List Nat) : List Nat := ws.map fun w => t * w % S
def miss (t : Nat) (ws : List Nat) : Nat := t - (qs t ws.sum ws).sum
def split (t : Nat) (ws : List Nat) : List Nat := bump (qs t ws.sum ws) ((ord (rs t ws.sum ws)).take (miss t ws))
theorem qs_len (t S : Nat) (ws : List Nat) : (qs t S ws).length = ws.length := by simp [qs]
theorem rs_len (t S : Nat) (ws : List Nat) : (rs t S ws).length = ws.length := by simp [rs]
theorem split_len (t : Nat) (ws : List Nat) : (split t ws).length = ws.length := by simp [split, bump_len, qs_len]
theorem qr_sum (t S : Nat) (ws : List Nat) : (qs t S ws).sum * S + (rs t S ws).sum = t * ws.sum := by
  induction ws with
  | nil => simp [qs, rs]
  | cons w r ih =>
    simp only [qs, rs, List.map_cons, List.sum_cons] at *
    have := Nat.div_add_mod' (t * w) S
    rw [Nat.add_mul, Nat.mul_add]
    omega
theorem qs_le (t : Nat) (ws : List Nat) (h : 0 < ws.sum) : (qs t ws.sum ws).sum ≤ t := by
  have := qr_sum t ws.sum ws
  exact Nat.le_of_mul_le_mul_right (by omega) h
theorem rs_sum (t : Nat) (ws : List Nat) (h : 0 < ws.sum) : (rs t ws.sum ws).sum = miss t ws * ws.sum := by
  have h1 := qr_sum t ws.sum ws
  have h2 := qs_le t ws h
  unfold miss
  rw [Nat.sub_mul]
  omega
theorem rs_lt (t S : Nat) (ws : List Nat) (h : 0 < S) : ∀ r ∈ rs t S ws, r < S := by
  intro r hr
  simp only [rs, List.mem_map] at hr
  obtain ⟨w, _, rfl⟩ := hr
  exact Nat.mod_lt _ h
theorem sum_le (l : List Nat) (S : Nat) (h : ∀ r ∈ l, r < S) : l.sum + l.length ≤ l.length * S := by
  induction l with
  | nil => simp
  | cons x r ih =>
    have h1 := ih fun y hy => h y (List.mem_cons_of_mem _ hy)
    have h2 := h x (List.mem_cons_self ..)
    simp only [List.sum_cons, List.length_cons, Nat.add_mul, Nat.one_mul]
    omega
theorem miss_le (t : Nat) (ws : List Nat) (h : 0 < ws.sum) : miss t ws ≤ ws.length := by
  have h1 := sum_le _ _ (rs_lt t ws.sum ws h)
  rw [rs_sum t ws h, rs_len] at h1
  exact Nat.le_of_mul_le_mul_right (by omega) h
theorem split_sum (t : Nat) (ws : List Nat) (h : 0 < ws.sum) : (split t ws).sum = t := by
  unfold split
  rw [bump_sum _ _ (fun i hi => by rw [qs_len]; have := ord_lt _ i (List.mem_of_mem_take hi); rwa [rs_len] at this)]
  rw [List.length_take, ord_len, rs_len, Nat.min_eq_left (miss_le t ws h)]
  have := qs_le t ws h
  unfold miss
  omega
theorem take_lt (t : Nat) (ws : List Nat) : ∀ i ∈ (ord (rs t ws.sum ws)).take (miss t ws), i < (qs t ws.sum ws).length := fun i hi => by
  rw [qs_len]; have := ord_lt _ i (List.mem_of_mem_take hi); rwa [rs_len] at this
/-- who gets one more -/
def more (t : Nat) (ws : List Nat) (j : Nat) : Nat := ((ord (rs t ws.sum ws)).take (miss t ws)).count j
theorem more_le (t : Nat) (ws : List Nat) (j : Nat) : more t ws j ≤ 1 := by
  unfold more
  exact List.nodup_iff_count.1 ((ord_nodup _).sublist (List.take_sublist _ _)) j
theorem split_get (t : Nat) (ws : List Nat) (j : Nat) (hj : j < ws.length) : (split t ws).getD j 0 = t * ws.getD j 0 / ws.sum + more t ws j := by
  unfold split
  rw [bump_get _ _ (take_lt t ws) j (by rw [qs_len]; exact hj)]
  congr 1
  simp [qs, List.getD_eq_getElem?_getD, List.getElem?_map, List.getElem?_eq_getElem hj]
theorem rs_get (t S : Nat) (ws : List Nat) (j : Nat) : (rs t S ws).getD j 0 = t * ws.getD j 0 % S := by
  by_cases hj : j < ws.length
  · simp [rs, List.getD_eq_getElem?_getD, List.getElem?_map, List.getElem?_eq_getElem hj]
  · simp [rs, List.getD_eq_getElem?_getD, List.getElem?_map, List.getElem?_eq_none (show ws.length ≤ j by omega)]
theorem more_before (t : Nat) (ws : List Nat) (i j : Nat) (hj : j < ws.length) (h1 : more t ws i = 1) (h0 : more t ws j = 0) : before (rs t ws.sum ws) i j := by
  unfold more at h1 h0
  have hi : i ∈ (ord (rs t ws.sum ws)).take (miss t ws) := List.count_pos_iff.1 (by omega)
  have hjn : j ∉ (ord (rs t ws.sum ws)).take (miss t ws) := List.count_eq_zero.1 h0
  obtain ⟨a, ha, hia⟩ := List.mem_take_iff_getElem.1 hi
  have hjm : j ∈ ord (rs t ws.sum ws) := ord_mem _ (by rw [rs_len]; exact hj)
  obtain ⟨b, hb, hjb⟩ := List.getElem_of_mem hjm
  have hab : a < b := by
    by_cases h : a < b
    · exact h
    · exact absurd (List.mem_take_iff_getElem.2 ⟨b, by omega, hjb⟩) hjn
  exact ord_before _ hab (by rw [List.getElem?_eq_getElem (by omega), hia]) (by rw [List.getElem?_eq_getElem hb, hjb])
theorem sum_zero (l : List Nat) (h : ∀ x ∈ l, x = 0) : l.sum = 0 := by
  induction l with
  | nil => rfl
  | cons x r ih => simp [h x (List.mem_cons_self ..), ih fun y hy => h y (List.mem_cons_of_mem _ hy)]
theorem sum_perm {a b : List Nat} (h : a.Perm b) : a.sum = b.sum := by
  induction h with
  | nil => rfl
  | cons x _ ih => simp [ih]
  | swap x y l => simp; omega
  | trans _ _ h1 h2 => exact h1.trans h2
theorem map_getD (l : List Nat) : (List.range l.length).map (fun i => l.getD i 0) = l := by
  apply List.ext_getElem
  · simp
  · intro i h1 h2
    simp [List.getD_eq_getElem?_getD, List.getElem?_eq_getElem h2]
theorem more_pos (t : Nat) (ws : List Nat) (h : 0 < ws.sum) (i : Nat) (h1 : more t ws i = 1) : 0 < t * ws.getD i 0 % ws.sum := by
  rw [← rs_get]
  have hi : i ∈ (ord (rs t ws.sum ws)).take (miss t ws) := List.count_pos_iff.1 (by unfold more at h1; omega)
  obtain ⟨a, ha, hia⟩ := List.mem_take_iff_getElem.1 hi
  by_cases h0 : 0 < (rs t ws.sum ws).getD i 0
  · exact h0
  · exfalso
    have hS := rs_sum t ws h
    have e1 : (rs t ws.sum ws).sum = ((ord (rs t ws.sum ws)).map fun i => (rs t ws.sum ws).getD i 0).sum := by
      rw [sum_perm ((ord_perm _).map _), map_getD]
    have hlt := rs_lt t ws.sum ws h
    have hmiss := ha
    generalize rs t ws.sum ws = R at *
    have e2 : ord R = (ord R).take a ++ (ord R).drop a := (List.take_append_drop a _).symm
    rw [e2, List.map_append, List.sum_append] at e1
    have e3 : (((ord R).drop a).map fun i => R.getD i 0).sum = 0 := by
      refine sum_zero _ fun x hx => ?_
      obtain ⟨j, hj, rfl⟩ := List.mem_map.1 hx
      obtain ⟨b, hb, hjb⟩ := List.getElem_of_mem hj
      rw [List.getElem_drop] at hjb
      by_cases hb0 : b = 0
      · subst hb0
        simp only [Nat.add_zero] at hjb
        rw [hia] at hjb
        subst hjb
        omega
      · simp only [List.length_drop] at hb
        have := ord_before R (show a < a + b by omega) (i := i) (j := j) (by rw [List.getElem?_eq_getElem (by omega), hia]) (by rw [List.getElem?_eq_getElem (by omega), hjb])
        unfold before at this
        omega
    have e4 := sum_le (((ord R).take a).map fun i => R.getD i 0) ws.sum (by
      intro x hx
      obtain ⟨j, hj, rfl⟩ := List.mem_map.1 hx
      have hjl := ord_lt R j (List.mem_of_mem_take hj)
      rw [List.getD_eq_getElem?_getD, List.getElem?_eq_getElem hjl]
      exact hlt _ (List.getElem_mem hjl))
    have e5 : (((ord R).take a).map fun i => R.getD i 0).length = a := by rw [List.length_map, List.length_take]; omega
    rw [e5] at e4
    have e6 : (a + 1) * ws.sum ≤ miss t ws * ws.sum := Nat.mul_le_mul_right _ (by omega)
    rw [Nat.add_mul, Nat.one_mul] at e6
    omega
/-- the same for all weights times k -/
theorem split_scale (t k : Nat) (hk : 0 < k) (ws : List Nat) : split t (ws.map (k * ·)) = split t ws := by
  have hs : (ws.map (k * ·)).sum = k * ws.sum := by
    induction ws with
    | nil => simp
    | cons x r ih => simp only [List.map_cons, List.sum_cons, ih, Nat.mul_add]
  have hq : qs t (k * ws.sum) (ws.map (k * ·)) = qs t ws.sum ws := by
    unfold qs
    rw [List.map_map]
    apply List.map_congr_left
    intro w _
    show t * (k * w) / (k * ws.sum) = _
    rw [Nat.mul_left_comm, Nat.mul_div_mul_left _ _ hk]
  have hr : ∀ j, (rs t (k * ws.sum) (ws.map (k * ·))).getD j 0 = k * (rs t ws.sum ws).getD j 0 := by
    intro j
    rw [rs_get, rs_get]
    have : (ws.map (k * ·)).getD j 0 = k * ws.getD j 0 := by
      by_cases hj : j < ws.length
      · simp [List.getD_eq_getElem?_getD, List.getElem?_map, List.getElem?_eq_getElem hj]
      · simp [List.getD_eq_getElem?_getD, List.getElem?_map, List.getElem?_eq_none (show ws.length ≤ j by omega)]
    rw [this, Nat.mul_left_comm, Nat.mul_mod_mul_left]
  have ho : ord (rs t (k * ws.sum) (ws.map (k * ·))) = ord (rs t ws.sum ws) := by
    unfold ord
    rw [rs_len, rs_len, List.length_map]
    congr 1
    funext i j
    unfold beq
    refine decide_eq_decide.2 (not_congr ?_)
    unfold before
    rw [hr, hr]
    have h1 : ∀ x y : Nat, k * x < k * y ↔ x < y := fun x y => Nat.mul_lt_mul_left hk
    have h2 : ∀ x y : Nat, k * x = k * y ↔ x = y := fun x y => Nat.mul_right_inj (by omega)
    rw [h1, h2]
  unfold split miss
  rw [hs, hq, ho]
/-- a greater weight does not get less -/
theorem split_mono (t : Nat) (ws : List Nat) (h : 0 < ws.sum) (i j : Nat) (hi : i < ws.length) (hj : j < ws.length) (hw : ws.getD j 0 < ws.getD i 0) : (split t ws).getD j 0 ≤ (split t ws).getD i 0 := by
  rw [split_get t ws i hi, split_get t ws j hj]
  have hle : t * ws.getD j 0 ≤ t * ws.getD i 0 := Nat.mul_le_mul_left _ (by omega)
  have h1 := Nat.div_le_div_right (c := ws.sum) hle
  have h2 := more_le t ws i
  have h3 := more_le t ws j
  by_cases hq : t * ws.getD j 0 / ws.sum < t * ws.getD i 0 / ws.sum
  · omega
  · by_cases hm : more t ws j = 1 ∧ more t ws i = 0
    · exfalso
      have hb := more_before t ws j i hi hm.1 hm.2
      have hp := more_pos t ws h j hm.1
      have hqe : t * ws.getD j 0 / ws.sum = t * ws.getD i 0 / ws.sum := by omega
      unfold before at hb
      rw [rs_get, rs_get] at hb
      have d1 := Nat.div_add_mod' (t * ws.getD i 0) ws.sum
      have d2 := Nat.div_add_mod' (t * ws.getD j 0) ws.sum
      rw [hqe] at d2
      by_cases ht : t = 0
      · subst ht; simp at hp
      · have hlt : t * ws.getD j 0 < t * ws.getD i 0 := (Nat.mul_lt_mul_left (by omega)).2 hw
        omega
    · omega
/-- what has the sum t is its own split -/
theorem split_self (t : Nat) (xs : List Nat) (ht : 0 < t) (hx : xs.sum = t) : split t xs = xs := by
  have hq : qs t t xs = xs := by
    unfold qs
    have : ∀ w ∈ xs, t * w / t = w := fun w _ => Nat.mul_div_cancel_left _ ht
    rw [List.map_congr_left this, List.map_id']
  unfold split miss
  rw [hx, hq, hx, Nat.sub_self]
  simp [bump]
/-- the quota, rounded down and up -/
theorem split_quota (t : Nat) (ws : List Nat) (h : 0 < ws.sum) (j : Nat) (hj : j < ws.length) :
    t * ws.getD j 0 / ws.sum ≤ (split t ws).getD j 0 ∧ (split t ws).getD j 0 ≤ t * ws.getD j 0 / ws.sum + (if 0 < t * ws.getD j 0 % ws.sum then 1 else 0) := by
  rw [split_get t ws j hj]
  have h1 := more_le t ws j
  refine ⟨by omega, ?_⟩
  by_cases hm : more t ws j = 1
  · rw [if_pos (more_pos t ws h j hm)]; omega
  · omega
end Go.Proofs.Ytedjmpifkgonhaa.Sx
