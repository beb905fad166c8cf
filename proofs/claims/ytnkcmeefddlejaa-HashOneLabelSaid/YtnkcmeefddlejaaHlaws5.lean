/- The law HashOneLabel, walked. -/
import Derived.Test.YtnkcmeefddlejaaHlaws4
import Derived.Laws.BytesArg
namespace Go.Proofs.Ytnkcmeefddlejaa
open Go.RowKit Hm Hb

/-- a string out of bytes that a slice reads -/
theorem conv_string {P : Program} (w : World) (src e : TypeId) (hs : P.underlying src = some (.slice e)) (he : P.underlying e = some (.int .u8)) (dst : TypeId) (hd : P.underlying dst = some .string) (g n c : Nat) (bs : List UInt8) (B : Nat) (hr : Rd w B (some ⟨g, 0, none⟩) n (bs.map bv)) :
    (convert src dst (.slice (some ⟨g, 0, none⟩) n c)).run P w = .ok (.string ⟨bs.toArray⟩) w := by
  have hl : bs.length = n := by simpa using hr.1
  rw [run_convert_bytes_arg (P := P) w src e hs he g 0 n c (bs.map fun b => (b.toNat : Int)) (by simpa using hl) ?_ dst hd]
  · have : strOfNums (bs.map fun b => (b.toNat : Int)) = ⟨bs.toArray⟩ := by
      unfold strOfNums
      rw [List.map_map]
      congr 2
      conv => rhs; rw [← List.map_id bs]
      apply List.map_congr_left
      intro b _
      simp
    rw [this]
  · intro i hi
    obtain ⟨a, u, ha, _, hu, hx⟩ := hr.at hi
    cases ha
    have hib : i < bs.length := by omega
    rw [add_plain] at hx
    rw [hx, ← hu, List.getElem?_map, List.getElem?_eq_getElem hib, List.getD_eq_getElem?_getD, List.getElem?_map, List.getElem?_eq_getElem hib]
    rfl

set_option maxRecDepth 100000 in
set_option maxHeartbeats 2000000 in
theorem HashOneLabel_walk (w : World) (a0 : ByteArray) (_ : a0.size ≤ maxLen) (a1 : Option Addr) (n c : Nat) (xs : List Int) (r : Rd w w.heap.size a1 n (xs.map iv)) (_ : ∀ y ∈ xs, -9223372036854775808 ≤ y ∧ y ≤ 9223372036854775807) (hnc : n ≤ c) (hc : c ≤ maxLen) (at_ : Int) (wat : (Lit.int .i64 at_).wf = true) (by_ : Int) (w1 : (Lit.int .u8 by_).wf = true) :
    Calls Try.prog 7 #[.string a0, .slice a1 n c, .int .i64 at_, .int .u8 by_] w fun e W' => e = .returned (.bool true) ∧ Below w.heap.size w W' := by
  obtain ⟨q1, rfl⟩ := byte_of w1
  clear w1
  go_enter Try.func7, Try.ntmps7
  go_wp2_with fail
  refine (ints_t a1 n c xs hnc hc 6 (by omega) _ rfl _ r).mono ?_
  rintro e W1 ⟨A, m, d, rfl, hm, -, -, -, R1, -, B1⟩
  have s1 := B1.size
  go_wp2_with fail
  refine (short_t a0 29 (by omega) _ rfl _).mono ?_
  rintro e W ⟨⟨t, rfl, ht, -⟩, rfl⟩
  have hTs : (t ++ (⟨#[120]⟩ : ByteArray)).size = t.size + 1 := by rw [ByteArray.size_append]; rfl
  obtain ⟨c2, W2, hconv, R2, hB2, hz2, hc2, hc2'⟩ := conv_bytes (P := Try.prog) W1 9 30 5 (t ++ (⟨#[120]⟩ : ByteArray)) (by rw [hTs]; unfold maxLen; omega) Try.underlying9 Try.underlying30 Try.underlying5
  obtain ⟨X, hX⟩ : ∃ X, X = (t ++ (⟨#[120]⟩ : ByteArray)).data.toList := ⟨_, rfl⟩
  have hXl : X.length = t.size + 1 := by rw [hX, Array.length_toList]; exact hTs
  rw [hTs] at hconv R2 hc2
  rw [← hX] at R2
  have R2' : Rd W2 W2.heap.size (some ⟨W1.heap.size, 0, none⟩) (t.size + 1) (X.map bv) := R2.mono (by omega)
  have HXl := Lib.hid hXl
  have B2 := B1.trans (hB2.mono s1)
  have s2 := B2.size
  have R1b := R1.later hB2 hB2.size
  have hz2' : W1.heap.size < W2.heap.size := by omega
  clear hX hXl hTs hB2 hz2 R1 R2
  go_wp2_with fail
  refine (few_t (some ⟨W1.heap.size, 0, none⟩) (t.size + 1) c2 X hc2 hc2' 30 (by omega) _ rfl _ R2').mono ?_
  rintro e W3 ⟨A3, m3, d3, rfl, hm3, hm3X, -, -, -, own3, hB3⟩
  rw [List.take_of_length_le (by rw [HXl.out]; omega)] at hm3X own3
  obtain rfl : m3 = t.size + 1 := by rw [hm3X, HXl.out]
  obtain ⟨g3, e3, hv3⟩ := ownsRow_succ own3
  obtain ⟨rfl, rfl⟩ : A3 = some ⟨g3, 0, none⟩ ∧ d3 = e3 := by injection hv3 with h1 h2 h3; exact ⟨h1, h3⟩
  clear hm3X hv3 hconv
  have B3 := B2.trans (hB3.mono s2)
  have s3 := B3.size
  have z3 := hB3.size
  go_wp2_with fail
  refine (around_t at_ (t.size + 1) _ (by simp) wat (by omega) _).mono ?_
  rintro e W4 ⟨⟨k, rfl, hk⟩, rfl⟩
  have hkX : k < X.length := by rw [HXl.out]; exact hk
  have hcell3 : W3.cell? ⟨g3, k, none⟩ = some (.int .u8 (X[k].toNat : Int)) := by
    rw [own3.cellAt k (by omega), List.getElem?_map, List.getElem?_eq_getElem hkX]; rfl
  have hfr3 := own3.frozenAt k
  obtain ⟨own4, hB4⟩ := own_set (k := k) own3 (bv (X[k] ^^^ q1))
  have R4a := (R2'.below (hB3.trans hB4)).mono (Nat.le_trans z3 hB4.size)
  have R4l := (R1b.below (hB3.trans hB4)).mono (Nat.le_trans z3 hB4.size)
  have B4 := B3.trans (hB4.mono s2)
  obtain ⟨W5, hW5⟩ : ∃ W5, W5 = W3.setCell ⟨g3, k, none⟩ (bv (X[k] ^^^ q1)) := ⟨_, rfl⟩
  rw [← hW5] at own4 R4a R4l B4
  unfold bv at hW5
  rw [← xor_u8] at hW5
  obtain ⟨Y, hY⟩ : ∃ Y, Y = X.set k (X[k] ^^^ q1) := ⟨_, rfl⟩
  have R4b := (Rd.of_own own4).cast (ys := Y.map bv) rfl (by rw [hY, List.map_set])
  have s4 := B4.size
  have hYX : Y.length = X.length := by rw [hY]; simp
  have hYeq : (X = Y) ↔ ((q1.toNat : Int) = 0) := by
    rw [hY]
    constructor
    · intro h
      have h1 := congrArg (fun l => l[k]?) h
      simp only [List.getElem?_eq_getElem hkX, List.getElem?_set_self hkX, Option.some.injEq] at h1
      have h2 : q1 = 0 := by
        have h3 : X[k] ^^^ X[k] = X[k] ^^^ (X[k] ^^^ q1) := by rw [← h1]
        rw [← UInt8.xor_assoc, UInt8.xor_self, UInt8.zero_xor] at h3
        exact h3.symm
      rw [h2]; rfl
    · intro h
      have h3 : q1.toNat = 0 := by omega
      have h2 : q1 = 0 := UInt8.toNat_inj.1 (h3.trans rfl)
      rw [h2, UInt8.xor_zero, List.set_getElem_self]
  have hkey : ∀ ws, (sumM X ws == sumM Y ws) = ((q1.toNat : Int) == 0) := by
    intro ws
    rw [Bool.eq_iff_iff, beq_iff_eq, beq_iff_eq, ← hYeq]
    exact label_group X Y hYX.symm (k / 8) (fun i hi => by rw [hY]; exact (group_same X k _ 0 i hi).1) ws
  have hk6 := hkey (xs.take 6)
  have HW5 := Lib.hid hW5
  have convA := fun (w' : World) (hb : Below W5.heap.size W5 w') => conv_string (P := Try.prog) w' 30 5 Try.underlying30 Try.underlying5 9 Try.underlying9 W1.heap.size (t.size + 1) c2 X W5.heap.size (R4a.below hb)
  have convB := fun (w' : World) (hb : Below W5.heap.size W5 w') => conv_string (P := Try.prog) w' 30 5 Try.underlying30 Try.underlying5 9 Try.underlying9 g3 (t.size + 1) d3 Y W5.heap.size (R4b.below hb)
  have CA := Lib.hid convA
  have CB := Lib.hid convB
  have hYl := Lib.hid hYX
  clear hY hYX hYeq hkey hW5 convA convB hB4 hB3 R2' R1b
  go_wp2_with fail
  rw [← HW5.out]
  clear hcell3 hfr3 own3 own4 B3 B2 B1 r
  generalize hbb : ((q1.toNat : Int) == 0) = bb at hk6
  cases bb
  all_goals
    go_region_held3 (fun w' => Sem.run Try.prog (convert 30 9 (.slice (some ⟨W1.heap.size, 0, none⟩) (t.size + 1) c2)) w' = .ok (.string ⟨X.toArray⟩) w' ∧ Sem.run Try.prog (convert 30 9 (.slice (some ⟨g3, 0, none⟩) (t.size + 1) d3)) w' = .ok (.string ⟨Y.toArray⟩) w' ∧ Below W5.heap.size W5 w') (first | exact ⟨CA.out _ (by assumption), CB.out _ (by assumption), by assumption⟩ | exact ⟨CA.out _ (Below.refl _ _).drew, CB.out _ (Below.refl _ _).drew, (Below.refl _ _).drew⟩) (first | (go_at_call_of 13 X; refine (sum_from W5 ⟨X.toArray⟩ (by show X.toArray.size ≤ _; rw [List.size_toArray, HXl.out]; omega) _ _ _ _ (by omega) R4l _ (by first | assumption | exact And.right (And.right (by assumption)))).mono ?_; rintro e w5 ⟨rfl, hb5⟩) | (go_at_call_of 13 Y; refine (sum_from W5 ⟨Y.toArray⟩ (by show Y.toArray.size ≤ _; rw [List.size_toArray, hYl.out, HXl.out]; omega) _ _ _ _ (by omega) R4l _ (by first | assumption | exact And.right (And.right (by assumption)))).mono ?_; rintro e w5 ⟨rfl, hb5⟩) | (go_at_call 15; refine (lives_from W5 _ (by first | assumption | exact And.right (And.right (by assumption)))).mono ?_; rintro e w5 ⟨rfl, hb5⟩))
    go_wp2_with fail
    go_ret
    exact ⟨rfl, B4.trans (Below.mono (B := W5.heap.size) (by first | assumption | exact And.right (And.right (by assumption))) s4)⟩
end Go.Proofs.Ytnkcmeefddlejaa
