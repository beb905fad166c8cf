/- The laws HashOneWord, HashOneGroup and HashOneLabel, walked. -/
import Derived.Test.YtnkcmeefddlejaaHlaws1
import Derived.Deep.RegionHeld3
import Derived.Deep.RegionWith
namespace Go.Proofs.Ytnkcmeefddlejaa
open Go.RowKit Hm Hb

/-- the contracts, told against an earlier world of which everything still stands -/
theorem sum_from (W0 : World) (s : ByteArray) (hs : s.size ≤ 140737488351232) (A : Option Addr) (m c : Nat) (zs : List Int) (hm : m ≤ 140737488351232) (hr : Rd W0 W0.heap.size A m (zs.map iv)) (w : World) (hb : Below W0.heap.size W0 w) :
    Calls Try.prog 13 #[.string s, .slice A m c] w fun e W' => e = .returned (.int .u64 (sumM s.data.toList zs)) ∧ Below W0.heap.size W0 W' :=
  (sum_any s hs A m c zs hm w (hr.later hb hb.size)).mono fun _ _ ⟨he, h⟩ => ⟨he, hb.trans (h.mono hb.size)⟩
theorem bytes_from (W0 : World) (s : ByteArray) (hs : s.size ≤ 140737488351232) (A : Option Addr) (m c : Nat) (zs : List UInt8) (hm : m ≤ 140737488351232) (hmc : m ≤ c) (hr : Rd W0 W0.heap.size A m (zs.map bv)) (w : World) (hb : Below W0.heap.size W0 w) :
    Calls Try.prog 17 #[.string s, .slice A m c] w fun e W' => e = .returned (.int .u64 (bytesM s.data.toList zs)) ∧ Below W0.heap.size W0 W' :=
  (bytes_any s hs A m c zs hm hmc w (hr.later hb hb.size)).mono fun _ _ ⟨he, h⟩ => ⟨he, hb.trans (h.mono hb.size)⟩
theorem lives_from (W0 w : World) (hb : Below W0.heap.size W0 w) : Calls Try.prog 15 #[] w fun e W' => e = .returned (.bool true) ∧ Below W0.heap.size W0 W' :=
  (lives_any w).mono fun _ _ ⟨he, h⟩ => ⟨he, hb.trans (h.mono hb.size)⟩
theorem around_t (n : Int) (m : Nat) (M : Int) (hM : M = (m : Int)) (hn : (Lit.int .i64 n).wf = true) (hm : 1 ≤ m) (w : World) :
    Calls Try.prog 21 #[.int .i64 n, .int .i64 M] w fun e w' => (∃ k : Nat, e = .returned (.int .i64 k) ∧ k < m) ∧ w = w' := by
  subst hM
  refine (around_any n m (bounds_i64 hn) (by omega) w).mono ?_
  rintro e w' ⟨rfl, rfl⟩
  have h := aroundI_range n m (by omega)
  exact ⟨⟨(aroundI n m).toNat, by rw [Int.toNat_of_nonneg h.1], by omega⟩, rfl⟩
/-- a store into an element of a row of the call's own -/
theorem own_set {w : World} {base g n c k : Nat} {e : TypeId} {xs : List Value} (h : w.ownsRow base e 1 (.slice (some ⟨g, 0, none⟩) n c) n xs) (u : Value) :
    (w.setCell ⟨g, k, none⟩ u).ownsRow base e 1 (.slice (some ⟨g, 0, none⟩) n c) n (xs.set k u) ∧ Below base w (w.setCell ⟨g, k, none⟩ u) :=
  ⟨(h.stored k u).1, (Below.refl base w).setCell (p := ⟨g, k, none⟩) (h.lt g rfl).1 u⟩

set_option maxRecDepth 100000 in
set_option maxHeartbeats 2000000 in
theorem HashOneWord_walk (w : World) (a0 : ByteArray) (_ : a0.size ≤ maxLen) (a1 : Option Addr) (n c : Nat) (xs : List Int) (r : Rd w w.heap.size a1 n (xs.map iv)) (bd : ∀ y ∈ xs, -9223372036854775808 ≤ y ∧ y ≤ 9223372036854775807) (hnc : n ≤ c) (hc : c ≤ maxLen) (at_ : Int) (wat : (Lit.int .i64 at_).wf = true) (v : Int) (wv : (Lit.int .i64 v).wf = true) :
    Calls Try.prog 5 #[.string a0, .slice a1 n c, .int .i64 at_, .int .i64 v] w fun e W' => e = .returned (.bool true) ∧ Below w.heap.size w W' := by
  obtain ⟨i0, hi, hz0, hz1, hz2⟩ := info_parts infoI
  have BD := Lib.hid bd
  clear bd
  go_enter Try.func5, Try.ntmps5
  go_wp2_with fail
  refine (short_t a0 20 (by omega) _ rfl _).mono ?_
  rintro e W ⟨⟨t, rfl, ht, -⟩, rfl⟩
  go_wp2_with fail
  refine (ints_t a1 n c xs hnc hc 9 (by omega) _ rfl _ r).mono ?_
  rintro e W1 ⟨A, m, d, rfl, hm, hmX, -, -, -, own1, B1⟩
  obtain ⟨X, hX⟩ : ∃ X, X = xs.take 9 ++ [7] := ⟨_, rfl⟩
  have hXl : X.length = m + 1 := by rw [hX, hmX]; simp
  have hXb : ∀ y ∈ X, -9223372036854775808 ≤ y ∧ y ≤ 9223372036854775807 := by
    intro y hy
    rw [hX] at hy
    rcases List.mem_append.1 hy with h | h
    · exact BD.out y (List.mem_of_mem_take h)
    · simp at h; omega
  have s1 := B1.size
  have HX := Lib.hid hX
  have HXl := Lib.hid hXl
  have HXb := Lib.hid hXb
  clear hX hXl hXb hmX
  go_wp2_with (at_builtin; refine wpList_append_own _ rfl _ _ 22 rfl w.heap.size 3 i0 (.int .i64 0) 1 8 Try.underlying22 hi hz0 hz1 hz2 rfl (by decide) (.slice A m d) m _ rfl (own1.alloc _) ⟨W1.heap.size, 0, none⟩ 1 1 [iv 7] rfl rfl (cell_one_new _ _ _) (by simp [iv_one]) (by unfold maxLen; omega) (by omega) (by simp; omega) ?_; intro v' W2 own2 hg2 _; obtain ⟨g2, c2, rfl⟩ := ownsRow_succ own2)
  have B2 : Below w.heap.size w W2 := own_grown (B1.alloc s1 _) (own1.alloc _) hg2 (by simp; omega)
  have own2' := own_cast (ys := X.map iv) own2 rfl (by rw [HX.out]; simp)
  have R2 := Rd.of_own own2'
  have hc2 := own_cap own2'
  have hc2' := own_le own2'
  have s2 := B2.size
  clear own2 own2' hg2 own1
  refine (ints_t (some ⟨g2, 0, none⟩) (m + 1) c2 X hc2' hc2 10 (by omega) _ rfl _ R2).mono ?_
  rintro e W3 ⟨A3, m3, d3, rfl, hm3, hm3X, -, -, -, own3, hB3⟩
  rw [List.take_of_length_le (by rw [HXl.out]; omega)] at hm3X own3
  obtain rfl : m3 = m + 1 := by rw [hm3X, HXl.out]
  obtain ⟨g3, e3, hv3⟩ := ownsRow_succ own3
  obtain ⟨rfl, rfl⟩ : A3 = some ⟨g3, 0, none⟩ ∧ d3 = e3 := by injection hv3 with h1 h2 h3; exact ⟨h1, h3⟩
  clear hm3X hv3
  have B3 := B2.trans (hB3.mono s2)
  have s3 := B3.size
  have z3 := hB3.size
  go_wp2_with fail
  refine (around_t at_ (m + 1) _ (by simp) wat (by omega) _).mono ?_
  rintro e W4 ⟨⟨k, rfl, hk⟩, rfl⟩
  have hkX : k < X.length := by rw [HXl.out]; exact hk
  have hcell3 : W3.cell? ⟨g3, k, none⟩ = some (iv X[k]) := by
    rw [own3.cellAt k (by omega), List.getElem?_map, List.getElem?_eq_getElem hkX]; rfl
  have hfr3 := own3.frozenAt k
  obtain ⟨own4, hB4⟩ := own_set (k := k) own3 (iv v)
  obtain ⟨W4, hW4⟩ : ∃ W4, W4 = W3.setCell ⟨g3, k, none⟩ (iv v) := ⟨_, rfl⟩
  rw [← hW4] at own4 hB4
  have R4b := (Rd.of_own own4).cast (ys := (X.set k v).map iv) rfl (by rw [List.map_set])
  have R4a := (R2.below (hB3.trans hB4)).mono (Nat.le_trans z3 hB4.size)
  have B4 := B3.trans (hB4.mono s2)
  have s4 := B4.size
  have hcell4 : W4.cell? ⟨g2, k, none⟩ = some (.int .i64 X[k]) := by
    obtain ⟨a, u, ha, _, hu, hx⟩ := R4a.at (k := k) (by omega)
    cases ha
    rw [List.getElem?_map, List.getElem?_eq_getElem hkX] at hu
    rw [add_plain, Nat.zero_add] at hx
    rw [hx]; exact congrArg some (Option.some.inj hu).symm
  unfold iv at hcell3 hW4
  have HW4 := Lib.hid hW4
  clear hB3 hB4 hW4 R2
  go_wp2_with fail
  rw [← HW4.out]
  have hkey : (sumM t.data.toList X == sumM t.data.toList (X.set k v)) = (X[k] == v) := by
    rw [Bool.eq_iff_iff, beq_iff_eq, beq_iff_eq, sum_set _ _ _ hkX]
    exact BI_inj_i64 _ _ (HXb.out _ (List.getElem_mem hkX)) (bounds_i64 wv)
  have hg2 : g2 < W4.heap.size := cell_lt hcell4
  have hk0 : (0 : Int) ≤ (k : Int) := Int.natCast_nonneg k
  have hk1 : (k : Int) < (m : Int) + 1 := by omega
  have hk2 : (k : Int) < ((m + 1 : Nat) : Int) := by omega
  generalize hbb : (X[k] == v) = bb at hkey
  clear hcell3 hfr3 own3 own4 B3 B2 B1 r
  cases bb
  all_goals
    go_region_held3 (fun w' => w'.cell? ⟨g2, k, none⟩ = some (.int .i64 X[k]) ∧ Below W4.heap.size W4 w') (first | exact ⟨(Below.cell (by assumption) hg2).trans hcell4, by assumption⟩ | exact ⟨hcell4, (Below.refl _ _).drew⟩) (first | (go_at_call_of 13 (⟨g2, 0, none⟩ : Addr); refine (sum_from W4 t (by omega) _ _ _ X (by omega) R4a _ (by first | assumption | exact And.right (by assumption))).mono ?_; rintro e w5 ⟨rfl, hb5⟩) | (go_at_call_of 13 (⟨g3, 0, none⟩ : Addr); refine (sum_from W4 t (by omega) _ _ _ (X.set k v) (by omega) R4b _ (by first | assumption | exact And.right (by assumption))).mono ?_; rintro e w5 ⟨rfl, hb5⟩) | (go_at_call 15; refine (lives_from W4 _ (by first | assumption | exact And.right (by assumption))).mono ?_; rintro e w5 ⟨rfl, hb5⟩))
    go_wp2_with fail
    go_ret
    exact ⟨rfl, B4.trans (Below.mono (B := W4.heap.size) (by first | assumption | exact And.right (by assumption)) s4)⟩
end Go.Proofs.Ytnkcmeefddlejaa
