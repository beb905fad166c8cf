/- The law ShareSplit, walked. -/
import Derived.Test.YtedjmpifkgonhaaSlaws1
namespace Go.Proofs.Ytedjmpifkgonhaa
open Go.RowKit Hb Sm Sx

def splitX (t : Int) (l : List Int) : List Nat := if okSplit t l = true then split t.toNat (l.map Int.toNat) else []
def splitE (t : Int) (l : List Int) : Int := if okSplit t l = true then 0 else 1
theorem okSplit_t {t : Int} {l : List Int} (h : okSplit t l = true) : ∃ (T : Nat) (ws : List Nat), t = (T : Int) ∧ l = ws.map (fun n : Nat => (n : Int)) ∧ ws = l.map Int.toNat ∧ T = t.toNat ∧ T ≤ 1099511627776 ∧ (∀ x ∈ ws, x ≤ 1099511627776) ∧ 0 < ws.sum := by
  unfold okSplit at h
  simp only [Bool.and_eq_true, decide_eq_true_eq] at h
  obtain ⟨⟨h1, h2⟩, h3⟩ := h
  have ht := isAm_t h3
  have hl : l = (l.map Int.toNat).map (fun n : Nat => (n : Int)) := by
    clear h2 h3 ht
    induction l with
    | nil => rfl
    | cons x r ih =>
      simp only [List.all_cons, Bool.and_eq_true] at h1
      have hx := isAm_t h1.1
      simp only [List.map_cons]
      rw [← ih h1.2, Int.toNat_of_nonneg hx.1]
  refine ⟨t.toNat, l.map Int.toNat, by omega, hl, rfl, rfl, by omega, ?_, ?_⟩
  · intro x hx
    obtain ⟨y, hy, rfl⟩ := List.mem_map.1 hx
    have := isAm_t (List.all_eq_true.1 h1 y hy)
    omega
  · have hs : l.sum = ((l.map Int.toNat).sum : Nat) := by
      conv => lhs; rw [hl]
      clear h1 h2 h3 ht hl
      generalize l.map Int.toNat = ws
      induction ws with
      | nil => rfl
      | cons x r ih => simp only [List.map_cons, List.sum_cons, ih]; omega
    omega
theorem splitX_len {t : Int} {l : List Int} : (splitX t l).length = if okSplit t l = true then l.length else 0 := by
  unfold splitX
  split
  · rw [split_len]; simp
  · rfl
theorem split_any (t : Int) (l : List Int) (n c : Nat) (A : Option Addr) (hn : n ≤ 8) (w : World) (hr : Rd w w.heap.size A n (l.map iv)) (xs : List Nat) (hx : splitX t l = xs) (m : Nat) (hm : xs.length = m) (er : Int) (he : splitE t l = er) :
    Calls Try.prog 19 #[.int .i64 t, .slice A n c] w fun e w' => ∃ A' c', e = .returned (.tuple #[.slice A' m c', .int .i64 er]) ∧ Rd w' w'.heap.size A' m (xs.map nv) ∧ Below w.heap.size w w' := by
  have hl : l.length = n := by simpa using hr.1
  cases hok : okSplit t l with
  | true =>
    obtain ⟨T, ws, h1, h2, h3, h4, h5, h6, h7⟩ := okSplit_t hok
    have hxs : xs = split T ws := by rw [← hx, h4, h3]; unfold splitX; rw [if_pos hok]
    have hmn : m = n := by rw [← hm, hxs, split_len, h3, List.length_map, hl]
    have her : er = 0 := by rw [← he]; unfold splitE; rw [if_pos hok]
    rw [hmn, her]
    rw [h2, map_iv_nv] at hr
    refine (split_t T t h1 ws n c A h5 h6 h7 hn w hr xs hxs).mono ?_
    rintro e w' ⟨A', c', he', hr', -, hB⟩
    exact ⟨A', c', he', hr', hB⟩
  | false =>
    have hxs : xs = [] := by rw [← hx]; unfold splitX; rw [if_neg (by rw [hok]; simp)]
    have her : er = 1 := by rw [← he]; unfold splitE; rw [if_neg (by rw [hok]; simp)]
    have hm0 : m = 0 := by rw [← hm, hxs]; rfl
    rw [hm0, her, hxs]
    refine (split_bad t l n c A hn hok _ w hr).mono ?_
    rintro e w' ⟨he', rfl⟩
    exact ⟨none, 0, he', Rd.nil _ _ _, Below.refl _ _⟩
theorem rsplit_t (t : Nat) (T : Int) (hT : T = (t : Int)) (ws : List Nat) (n c : Nat) (A : Option Addr) (ht : t ≤ 1099511627776) (hws : ∀ x ∈ ws, x ≤ 1099511627776) (hS0 : 0 < ws.sum) (hn : n ≤ 8) (w : World) (hr : Rd w w.heap.size A n (ws.map nv)) (xs : List Nat) (hx : xs = split t ws) :
    Calls Try.prog 20 #[.int .i64 T, .slice A n c] w fun e w' => ∃ A' c', e = .returned (.tuple #[.slice A' n c', .int .i64 0]) ∧ Rd w' w'.heap.size A' n (xs.map nv) ∧ Below w.heap.size w w' := by
  subst hT hx
  exact rsplit_ok t ws n c A ht hws ws.sum rfl hS0 hn w hr
theorem rsplit_any (t : Int) (l : List Int) (n c : Nat) (A : Option Addr) (hn : n ≤ 8) (w : World) (hr : Rd w w.heap.size A n (l.map iv)) (xs : List Nat) (hx : splitX t l = xs) (m : Nat) (hm : xs.length = m) (er : Int) (he : splitE t l = er) :
    Calls Try.prog 20 #[.int .i64 t, .slice A n c] w fun e w' => ∃ A' c', e = .returned (.tuple #[.slice A' m c', .int .i64 er]) ∧ Rd w' w'.heap.size A' m (xs.map nv) ∧ Below w.heap.size w w' := by
  have hl : l.length = n := by simpa using hr.1
  cases hok : okSplit t l with
  | true =>
    obtain ⟨T, ws, h1, h2, h3, h4, h5, h6, h7⟩ := okSplit_t hok
    have hxs : xs = split T ws := by rw [← hx, h4, h3]; unfold splitX; rw [if_pos hok]
    have hmn : m = n := by rw [← hm, hxs, split_len, h3, List.length_map, hl]
    have her : er = 0 := by rw [← he]; unfold splitE; rw [if_pos hok]
    rw [hmn, her]
    rw [h2, map_iv_nv] at hr
    refine (rsplit_t T t h1 ws n c A h5 h6 h7 hn w hr xs hxs).mono ?_
    rintro e w' ⟨A', c', he', hr', hB⟩
    exact ⟨A', c', he', hr', hB⟩
  | false =>
    have hxs : xs = [] := by rw [← hx]; unfold splitX; rw [if_neg (by rw [hok]; simp)]
    have her : er = 1 := by rw [← he]; unfold splitE; rw [if_neg (by rw [hok]; simp)]
    have hm0 : m = 0 := by rw [← hm, hxs]; rfl
    rw [hm0, her, hxs]
    refine (rsplit_bad t l n c A hn hok _ w hr).mono ?_
    rintro e w' ⟨he', rfl⟩
    exact ⟨none, 0, he', Rd.nil _ _ _, Below.refl _ _⟩

set_option maxRecDepth 100000 in
set_option maxHeartbeats 4000000 in
theorem ShareSplit_walk (w : World) (a0 : Int) (w0 : (Lit.int .i64 a0).wf = true) (A1 : Option Addr) (len1 cap1 : Nat) (l : List Int) (hr : Rd w w.heap.size A1 len1 (l.map iv)) (hz : ∀ y ∈ l, -9223372036854775808 ≤ y ∧ y ≤ 9223372036854775807) (hnc : len1 ≤ cap1) (hc : cap1 ≤ maxLen) :
    Calls Try.prog 4 #[.int .i64 a0, .slice A1 len1 cap1] w fun e W' => e = .returned (.bool true) ∧ Below w.heap.size w W' := by
  obtain ⟨i0, hi, hz0, hz1, hz2⟩ := info_parts infoI
  unfold maxLen at hc
  have hl : l.length = len1 := by simpa using hr.1
  have HZ := Lib.hid hz
  have HL := Lib.hid hl
  clear hz hl
  obtain ⟨M, hM⟩ : ∃ M, M = min len1 8 := ⟨_, rfl⟩
  have hm1 : min (len1 : Int) 8 = (M : Int) := by omega
  have hM8 : M ≤ 8 := by omega
  have hMn : M ≤ len1 := by omega
  obtain ⟨raw, hraw⟩ : ∃ raw, raw = l.take M := ⟨_, rfl⟩
  have hR := hr.take M hMn
  rw [← List.map_take, ← hraw] at hR
  clear hraw hM
  obtain ⟨xs, hxs⟩ : ∃ xs, splitX a0 raw = xs := ⟨_, rfl⟩
  obtain ⟨er, her⟩ : ∃ er, splitE a0 raw = er := ⟨_, rfl⟩
  obtain ⟨m, hm⟩ : ∃ m, xs.length = m := ⟨_, rfl⟩
  have hm8 : m ≤ 8 := by
    rw [← hm, ← hxs, splitX_len]
    have : raw.length = M := by simpa using hR.1
    split <;> omega
  have H := Lib.hid (And.intro hxs (And.intro her hm))
  clear hxs her hm
  go_enter Try.func4, Try.ntmps4
  go_wp2_with (at_builtin; refine wpList_append_rd _ rfl _ _ 23 rfl w.heap.size 3 i0 (.int .i64 0) 8 Try.underlying23 hi hz0 hz1 hz2 rfl _ 0 [] rfl (World.ownsRow_made w #[] 0 (Nat.le_refl _) (Nat.zero_le _) rfl) w.heap.size A1 M cap1 (raw.map iv) rfl (hR.below ((Below.refl _ w).alloc (Nat.le_refl _) _)) (map_one _ iv_one _) (by unfold maxLen; omega) (by omega) (by simp) ?_; intro A2 c2 W1 hown hg _; have B1 := own_grown ((Below.refl w.heap.size w).alloc (Nat.le_refl _) _) (World.ownsRow_made w #[] 0 (Nat.le_refl _) (Nat.zero_le _) rfl) hg (by simp); simp only [Nat.zero_add, List.nil_append] at hown; have R1 := Rd.of_own hown; clear hown hg hR)
  have s1 := B1.size
  refine (weights_any l len1 cap1 A1 HZ.out W1 (hr.later B1 s1)).mono ?_
  rintro e W2 ⟨ws, n2, A3, c3, rfl, hn7, hnc3, hc3, hws, hsum, R2, hB⟩
  have RA2 := R1.later hB hB.size
  have B2 := B1.trans (hB.mono s1)
  have s2 := B2.size
  have HWS := Lib.hid (And.intro hws hsum)
  clear hB R1 B1 hr hws hsum
  go_wp2_with fail
  refine (around3 a0 1099511627777 _ rfl (bounds_i64 w0) (by omega) W2).mono ?_
  rintro e W ⟨⟨t, rfl, ht, -⟩, rfl⟩
  go_wp2_with fail
  refine (split_any a0 raw M c2 A2 hM8 W2 RA2 xs H.out.1 m H.out.2.2 er H.out.2.1).mono ?_
  rintro e W3 ⟨A4, c4, rfl, R3, hB⟩
  have RA3 := RA2.later hB hB.size
  have RB3 := R2.later hB hB.size
  have B3 := B2.trans (hB.mono s2)
  have s3 := B3.size
  clear hB RA2 R2 B2
  go_wp2_with fail
  refine (rsplit_any a0 raw M c2 A2 hM8 W3 RA3 xs H.out.1 m H.out.2.2 er H.out.2.1).mono ?_
  rintro e W4 ⟨A5, c5, rfl, R4, hB⟩
  have RB4 := RB3.later hB hB.size
  have RX4 := R3.later hB hB.size
  have B4 := B3.trans (hB.mono s3)
  have s4 := B4.size
  clear hB RA3 RB3 R3 B3
  go_wp2_with fail
  refine (split_t t _ rfl ws n2 c3 A3 (by omega) HWS.out.1 HWS.out.2 (by omega) W4 RB4 _ rfl).mono ?_
  rintro e W5 ⟨A6, c6, rfl, R5, -, hB⟩
  have RB5 := RB4.later hB hB.size
  have RX5 := RX4.later hB hB.size
  have RY5 := R4.later hB hB.size
  have B5 := B4.trans (hB.mono s4)
  have s5 := B5.size
  clear hB RB4 RX4 R4 B4
  go_wp2_with fail
  refine (rsplit_t t _ rfl ws n2 c3 A3 (by omega) HWS.out.1 HWS.out.2 (by omega) W5 RB5 _ rfl).mono ?_
  rintro e W6 ⟨A7, c7, rfl, R6, hB⟩
  have RX6 := RX5.later hB hB.size
  have RY6 := RY5.later hB hB.size
  have RZ6 := R5.later hB hB.size
  have B6 := B5.trans (hB.mono s5)
  have s6 := B6.size
  have d1 : (er == er) = true := by simp
  clear hB RB5 RX5 RY5 R5 B5
  go_wp2_with fail
  refine (same3_nat A4 A5 m c4 m c5 xs xs W6.heap.size (by omega) W6 RX6 RY6 rfl).mono ?_
  rintro e W7 ⟨rfl, hq⟩
  have RZ7 := RZ6.later (hq.below W6.heap.size) (hq.below W6.heap.size).size
  have RV7 := R6.later (hq.below W6.heap.size) (hq.below W6.heap.size).size
  have B7 := B6.trans (hq.below _)
  clear RX6 RY6 RZ6 R6 B6 hq
  go_wp2_with fail
  refine (same3_nat A6 A7 n2 c6 n2 c7 _ _ W7.heap.size (by omega) W7 RZ7 RV7 rfl).mono ?_
  rintro e W8 ⟨rfl, hq⟩
  have B8 := B7.trans (hq.below _)
  clear hq B7 RZ7 RV7
  go_wp2_with fail
  refine (lives_from w W8 B8).mono ?_
  rintro e W9 ⟨rfl, B9⟩
  go_wp2_with fail
  go_ret
  exact ⟨rfl, B9⟩
end Go.Proofs.Ytedjmpifkgonhaa
