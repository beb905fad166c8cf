/- The law DiceShuffles, walked. -/
import Derived.Test.YtagjecbgbpjobaaDlaws1
import Derived.Test.YtagjecbgbpjobaaDshuf
import Derived.WalkArith
namespace Go.Proofs.Ytagjecbgbpjobaa
open Go.RowKit Go.Shelf Hm Hb Dm Ds

theorem shuffle_is (h q : Int) (n : Nat) (hn : n ≤ 4096) : (∃ l q', shuffle h n q = (some l, 0, q') ∧ l.Perm (upto n)) ∨ (∃ q', shuffle h n q = (none, 4, q')) := by
  unfold shuffle
  rw [if_neg (by omega)]
  have e : ((n : Int)).toNat = n := by omega
  rw [e]
  cases hs : shuf h (n - 1) q (upto n) with
  | mk o q' =>
    cases o with
    | none => exact .inr ⟨q', rfl⟩
    | some l => exact .inl ⟨l, q', rfl, shuf_perm h (n - 1) q (upto n) l q' (by rw [upto_length]; omega) hs⟩

set_option maxRecDepth 100000 in
set_option maxHeartbeats 1000000 in
theorem has_any (A : Option Addr) (n c : Nat) (xs : List Int) (x : Int) (hn : n ≤ maxLen) (B : Nat) (w : World) (hr : Rd w B A n (xs.map iv)) :
    Calls Try.prog 39 #[.slice A n c, .int .i64 x] w fun e w' => e = .returned (.bool (decide (x ∈ xs))) ∧ w = w' := by
  have hlx : xs.length = n := by simpa using hr.1
  unfold maxLen at hn
  have HX := Lib.hid hlx
  clear hlx
  go_enter Try.func39, Try.ntmps39
  go_wp2
  go_loop [5] (fun i => ∃ k : Nat, k ≤ n ∧ i = .int .i64 k ∧ x ∉ xs.take k) (fun i => n - (intOf i).toNat)
  case atStart => exact ⟨0, Nat.zero_le _, rfl, by simp⟩
  case round =>
    obtain ⟨k, hk, rfl, hno⟩ := hrel
    have HN := Lib.hid hno
    clear hno
    by_cases hlt : k < n
    · obtain ⟨a, u, rfl, hab, hu, hc⟩ := hr.at hlt
      have hkx : k < xs.length := by rw [HX.out]; exact hlt
      have hu' : u = iv xs[k] := by
        rw [List.getElem?_map, List.getElem?_eq_getElem hkx] at hu
        exact (Option.some.inj hu).symm
      subst hu'
      unfold iv at hc
      clear hu
      by_cases hx : xs[k] = x
      · have hm := Lib.hid (show decide (x ∈ xs) = true from decide_eq_true (by rw [← hx]; exact List.getElem_mem hkx))
        rw [hx] at hc
        clear hx
        go_wp2
        go_ret
        exact ⟨ret_bool hm.out.symm, rfl⟩
      · have HT := Lib.hid (show xs.take (k + 1) = xs.take k ++ [xs[k]] from List.take_succ_eq_append_getElem hkx)
        have HX2 := Lib.hid hx
        have hb : (xs[k] == x) = false := beq_eq_false_iff_ne.2 hx
        clear hx
        generalize xs[k] = y at *
        go_wp2
        go_round
        case rel =>
          refine ⟨k + 1, by omega, by go_num, ?_⟩
          rw [HT.out]
          intro hm
          rcases List.mem_append.1 hm with hm | hm
          · exact HN.out hm
          · simp only [List.mem_singleton] at hm
            exact HX2.out hm.symm
        case measure => simp [intOf]; omega
    · obtain rfl : k = n := by omega
      have hm := Lib.hid (show decide (x ∈ xs) = false from decide_eq_false (by have := HN.out; rwa [List.take_of_length_le (by rw [HX.out]; omega)] at this))
      go_wp2
      go_ret
      exact ⟨ret_bool hm.out.symm, rfl⟩

theorem hit_none (h q : Int) (k : Nat) : ∃ e q', hit h 0 ((k : Int) + 1) q = (false, e, q') ∧ (e = 0 ∨ e = 4) := by
  have hb : ¬ ((0 : Int) < 0 ∨ (k : Int) + 1 < 1 ∨ (0 : Int) > (k : Int) + 1) := by omega
  rcases roll_is h ((k : Int) + 1) q (by omega) with ⟨k0, k1, k2⟩ | ⟨k0, k1⟩
  · exact ⟨0, _, by rw [hit_ok hb k0, decide_eq_false (by omega)], .inl rfl⟩
  · exact ⟨4, _, hit_no hb k0, .inr rfl⟩
theorem hit_all (h q : Int) (k : Nat) : ∃ b e q', hit h ((k : Int) + 1) ((k : Int) + 1) q = (b, e, q') ∧ ((b = true ∧ e = 0) ∨ (b = false ∧ e = 4)) := by
  have hb : ¬ ((k : Int) + 1 < 0 ∨ (k : Int) + 1 < 1 ∨ (k : Int) + 1 > (k : Int) + 1) := by omega
  rcases roll_is h ((k : Int) + 1) q (by omega) with ⟨k0, k1, k2⟩ | ⟨k0, k1⟩
  · exact ⟨true, 0, _, by rw [hit_ok hb k0, decide_eq_true k2], .inl ⟨rfl, rfl⟩⟩
  · exact ⟨false, 4, _, hit_no hb k0, .inr ⟨rfl, rfl⟩⟩
theorem pick_is (h : Int) (xs : List Int) (q : Int) (hs : sumUp xs 0 = some xs.sum) : ∃ P e q', pick h xs q = (P, e, q') ∧ ((xs.sum = 0 ∧ P = 0 ∧ e = 1) ∨ (xs.sum ≠ 0 ∧ P = 0 ∧ e = 4) ∨ (xs.sum ≠ 0 ∧ e = 0 ∧ ∃ i : Nat, P = i ∧ ∃ hi : i < xs.length, xs[i] ≠ 0)) := by
  have hr := sumUp_range xs 0 _ (by omega) (by omega) hs
  by_cases h0 : xs.sum = 0
  · exact ⟨0, 1, q, pick_zero (by rw [hs, h0]), .inl ⟨h0, rfl, rfl⟩⟩
  · rcases roll_is h xs.sum q (by omega) with ⟨k0, k1, k2⟩ | ⟨k0, k1⟩
    · obtain ⟨g1, g2, _⟩ := idx_lt xs _ k1 k2
      exact ⟨_, 0, _, pick_ok hs h0 k0, .inr (.inr ⟨h0, rfl, _, rfl, g1, g2⟩)⟩
    · exact ⟨0, 4, _, pick_no hs h0 k0, .inr (.inl ⟨h0, rfl, rfl⟩)⟩

set_option maxRecDepth 100000 in
set_option maxHeartbeats 4000000 in
theorem DiceShuffles_walk (w : World) (a0 : Option Addr) (len0 cap0 : Nat) (x0 : List UInt8) (r0 : Rd w w.heap.size a0 len0 (x0.map bv)) (l0 : len0 ≤ cap0) (m0 : cap0 ≤ maxLen) (a1 : Int) (w1 : (Lit.int .i64 a1).wf = true) (a2 : Int) (w2 : (Lit.int .i64 a2).wf = true) (a3 : Option Addr) (len3 cap3 : Nat) (x3 : List Int) (r3 : Rd w w.heap.size a3 len3 (x3.map iv)) (b3 : ∀ y ∈ x3, -9223372036854775808 ≤ y ∧ y ≤ 9223372036854775807) (l3 : len3 ≤ cap3) (m3 : cap3 ≤ maxLen) :
    Calls Try.prog 8 #[.slice a0 len0 cap0, .int .i64 a1, .int .i64 a2, .slice a3 len3 cap3] w fun e W' => e = .returned (.bool true) ∧ Below w.heap.size w W' := by
  obtain ⟨i0, hi, hz0, hz1, hz2⟩ := info_parts infoI
  have hl3 : x3.length = len3 := by simpa using r3.1
  have HL3 := Lib.hid hl3
  have HB3 := Lib.hid b3
  clear hl3 w1 b3
  unfold maxLen at m3
  go_enter Try.func8, Try.ntmps8
  go_wp2_with fail
  refine (few_t a0 len0 cap0 x0 l0 m0 20 (by omega) _ rfl w r0).mono ?_
  rintro e W1 ⟨A, m, c, rfl, hm, -, hmc, -, R1, -, B1⟩
  have s1 := B1.size
  go_wp2_with fail
  refine (new_any _ (by decide) A m c _ (by omega) hmc W1 R1).mono ?_
  rintro e W2 ⟨p, b, rfl, hb, hs2, d, hB⟩
  have s2 := hB.size
  have B2 := B1.trans (hB.mono s1)
  have lb := d.1
  generalize hashI _ _ = h at d
  clear hB R1 B1
  go_wp2_with fail
  refine (seek_any a1 W2 d).mono ?_
  rintro e W3 ⟨⟨v, rfl⟩, d3, hB⟩
  have B3 := B2.trans (hB.low.mono (by omega))
  have s3 := hB.size
  clear hB d B2
  go_wp2_with fail
  refine (around_t a2 41 _ rfl w2 (by omega) _).mono ?_
  rintro e w' ⟨⟨k, rfl, hk⟩, rfl⟩
  have hsh := shuffle_any (k : Int) (by omega) p b h a1 W3 d3
  have lp3 := d3.lt
  rcases shuffle_is h a1 k (by omega) with ⟨l, q, hs, hl⟩ | ⟨q, hs⟩
  · rw [hs] at hsh
    simp only [Option.getD_some] at hsh
    have hll : l.length = k := by have := hl.length_eq; rwa [upto_length] at this
    have HLL := Lib.hid hll
    have HP := Lib.hid hl
    clear hs hl hll
    go_wp2_with fail
    refine hsh.mono ?_
    rintro e W4 ⟨v4, rfl, ⟨A4, c4, rfl, R4, hA4⟩, d4, hB4⟩
    rw [HLL.out] at R4 ⊢
    unfold listErr
    have s4 := hB4.size
    have lp4 := d4.lt
    have B4 := B3.trans (hB4.low.mono (by omega))
    clear hB4 d3 B3 hsh
    go_wp2_with fail
    go_loop [13] (fun i => ∃ j : Nat, j ≤ k ∧ i = .int .i64 j) (fun i => k - (intOf i).toNat)
    case atStart => exact ⟨0, by omega, rfl⟩
    case round =>
      obtain ⟨j, hj, rfl⟩ := hrel
      by_cases hlt : j < k
      · have hh := has_any A4 k c4 l j (by unfold maxLen; omega) _ W4 R4
        rw [decide_eq_true (show (j : Int) ∈ l from HP.out.mem_iff.2 (by unfold upto; exact List.mem_map.2 ⟨j, by simpa using hlt, rfl⟩))] at hh
        go_wp2_with fail
        refine hh.mono ?_
        rintro e w' ⟨rfl, rfl⟩
        clear hh
        go_wp2_with fail
        go_round
        case rel => exact ⟨j + 1, by omega, by go_num⟩
        case measure => simp [intOf]; omega
      · clear R4 hA4
        have r3' := r3.later B4 B4.size
        go_wp2_with fail
        go_loopw [14, 15, 16] (fun v s i wr => ∃ (n : Nat) (xs : List Int), n ≤ 8 ∧ n ≤ len3 ∧ i = .int .i64 n ∧ xs.length = n ∧ (∀ x ∈ xs, 0 ≤ x ∧ x ≤ 4) ∧ s = .int .i64 xs.sum ∧ xs.sum ≤ 4 * (n : Int) ∧ sumUp xs 0 = some xs.sum ∧ wr.ownsRow W4.heap.size 3 1 v n (xs.map iv) ∧ Below W4.heap.size W4 wr) (fun _ _ i _ => 8 - (intOf i).toNat)
        case atStart => exact ⟨0, [], by omega, by omega, rfl, rfl, by simp, rfl, by simp, rfl, World.ownsRow_nil _ _ _ _, Below.refl _ _⟩
        case round =>
          obtain ⟨n, xs, hn8, hn3, rfl, hxl, hx4, rfl, hsum, hsu, hown, hB⟩ := hrel
          have HXL := Lib.hid hxl
          have HX4 := Lib.hid hx4
          have HSU := Lib.hid hsu
          have sr := hB.size
          have hs0 : 0 ≤ xs.sum := by
            have := sumUp_range xs 0 _ (by omega) (by omega) hsu
            omega
          obtain ⟨S, hS⟩ : ∃ S, S = xs.sum := ⟨_, rfl⟩
          rw [← hS] at hsum hs0 ⊢
          have HS := Lib.hid hS
          clear hxl hx4 hsu hS
          by_cases hgo : n < len3 ∧ n < 8
          · obtain ⟨g1, g2⟩ := hgo
            obtain ⟨a, u, rfl, hab, hu, hc⟩ := (r3'.later hB sr).at g1
            have hkx : n < x3.length := by rw [HL3.out]; exact g1
            have hu' : u = iv x3[n] := by
              rw [List.getElem?_map, List.getElem?_eq_getElem hkx] at hu
              exact (Option.some.inj hu).symm
            subst hu'
            unfold iv at hc
            have wx : (Lit.int .i64 x3[n]).wf = true := Go.WalkArith.wf_i64 (HB3.out x3[n] (List.getElem_mem hkx))
            clear hu
            generalize x3[n] = y at *
            go_wp2_with fail
            refine (around_t y 5 _ rfl wx (by omega) _).mono ?_
            rintro e w' ⟨⟨x, rfl, hx⟩, rfl⟩
            obtain ⟨A5, c5, rfl⟩ := own_form hown
            go_wp2_with (at_builtin; refine wpList_append_own _ rfl _ _ 37 rfl W4.heap.size 3 i0 (.int .i64 0) 1 8 Try.underlying37 hi hz0 hz1 hz2 rfl (by decide) (.slice A5 n c5) n _ rfl (hown.alloc _) ⟨wr.heap.size, 0, none⟩ 1 1 [iv (x : Int)] rfl rfl (cell_one_new _ _ _) (by simp [iv_one]) (by unfold maxLen; omega) (by omega) (by simp; omega) ?_; intro v' w5 hown' hgrow _; obtain ⟨g5, cap5, rfl⟩ := ownsRow_succ hown'; have hc5 : w5.cell? ⟨g5, n, none⟩ = some (.int .i64 x) := (by rw [hown'.cellAt n (by omega)]; exact mid_get' _ [] _ _ (by simp [HXL.out])); have hB5 := own_grown (hB.alloc sr _) (hown.alloc _) hgrow (by simp; omega))
            go_roundw
            case rel =>
              refine ⟨n + 1, xs ++ [(x : Int)], by omega, by omega, by go_num, by simp [HXL.out], ?_, by rw [HS.out]; simp, by rw [List.sum_append, ← HS.out]; simp; omega, ?_, own_cast hown' rfl (by simp), hB5⟩
              · intro z hz
                rcases List.mem_append.1 hz with hz | hz
                · exact HX4.out z hz
                · simp only [List.mem_singleton] at hz
                  omega
              · rw [sumUp_snoc, HSU.out]
                simp only [Option.bind_some, List.sum_append, List.sum_cons, List.sum_nil]
                rw [if_neg (by rw [← HS.out]; omega)]
                simp
            case measure => simp [intOf]; omega
          · obtain ⟨A5, c5, rfl⟩ := own_form hown
            have R5 := Rd.of_own hown
            have d5 := d4.below hB lp4
            have hnp : ∀ a, A5 = some a → a.block ≠ p := fun a ha => by
              subst ha
              rcases hown.2 with ⟨hv, _⟩ | ⟨g, cap, cur, hv, hg, _⟩
              · injection hv with h1
                cases h1
              · injection hv with h1
                cases h1
                show g ≠ p
                omega
            have hcells : ∀ (i : Nat) (hi : i < n), ∃ a : Addr, A5 = some a ∧ a.block < wr.heap.size ∧ wr.cell? (a.add i) = some (iv (xs[i]'(by rw [HXL.out]; exact hi))) := fun i hi => by
              obtain ⟨a, u, e1, e2, hu, hcu⟩ := R5.at hi
              refine ⟨a, e1, e2, ?_⟩
              rw [List.getElem?_map, List.getElem?_eq_getElem (by rw [HXL.out]; exact hi)] at hu
              rw [hcu, ← Option.some.inj hu]
            have HC := Lib.hid hcells
            have hpk := pick_any A5 n c5 xs (fun x hx => by have := HX4.out x hx; omega) (by unfold maxLen; omega) p b h q wr d5 wr.heap.size R5 hnp (Nat.le_refl _)
            have hno : ¬ (n < len3) ∨ (n < len3 ∧ ¬ (n < 8)) := by omega
            obtain ⟨P, e6, q6, hpe, hpc⟩ := pick_is h xs q HSU.out
            rw [hpe] at hpk
            simp only at hpk
            rw [← HS.out] at hpc
            obtain ⟨e7, q7, hh1, he7⟩ := hit_none h q6 k
            obtain ⟨b8, e8, q8, hh2, hbe⟩ := hit_all h q7 k
            have H1 := Lib.hid hh1
            have H2 := Lib.hid hh2
            have HPC := Lib.hid hpc
            have HE7 := Lib.hid he7
            have HBE := Lib.hid hbe
            have hk41 : k < 41 := by omega
            clear hcells hgo hown hpe hh1 hh2 hpc he7 hbe hsum hs0
            have sz4 := B4.size
            rcases hno with hno | ⟨hno, hno2⟩
            all_goals
              go_wp2_with fail
              refine hpk.mono ?_
              rintro e W6 ⟨rfl, d6, hB6⟩
              unfold numErr
              clear hpk
              have s6 := hB6.size
              have lp6 := d6.lt
              have v1 := hit_any 0 ((k : Int) + 1) (by omega) (by omega) p b h q6 W6 d6
              rw [H1.out] at v1
              simp only at v1
              go_wp2_with fail
              refine v1.mono ?_
              rintro e W7 ⟨rfl, d7, hB7⟩
              unfold boolErr
              clear v1
              have s7 := hB7.size
              have v1 := hit_any ((k : Int) + 1) ((k : Int) + 1) (by omega) (by omega) p b h q7 W7 d7
              rw [H2.out] at v1
              simp only at v1
              go_wp2_with fail
              refine v1.mono ?_
              rintro e W8 ⟨rfl, d8, hB8⟩
              unfold boolErr
              clear v1
              have s8 := hB8.size
              have hcc : ∀ (i : Nat) (hi : i < n), ∃ a : Addr, A5 = some a ∧ W8.cell? (a.add i) = some (iv (xs[i]'(by rw [HXL.out]; exact hi))) := fun i hi => by
                obtain ⟨a, e1, e2, e3⟩ := HC.out i hi
                have n1 : (a.add i).block ≠ p := by rw [add_block]; exact hnp a e1
                have n2 : (a.add i).block < wr.heap.size := by rw [add_block]; exact e2
                refine ⟨a, e1, ?_⟩
                rw [World.cell?_of_block (w := W7) (hB8.block (by omega) n1), World.cell?_of_block (w := W6) (hB7.block (by omega) n1), World.cell?_of_block (w := wr) (hB6.block n2 n1)]
                exact e3
              have HCC := Lib.hid hcc
              have B8 : Below w.heap.size w W8 := (((B4.trans (hB.mono sz4)).trans (hB6.low.mono (by omega))).trans (hB7.low.mono (by omega))).trans (hB8.low.mono (by omega))
              clear hcc HC hB6 hB7 hB8 hB B4 d6 d7 d8 H1 H2 hnp R5 d5
              have hl8 := (lives_from w W8 B8)
              clear B8
              rcases HPC.out with ⟨y1, rfl, rfl⟩ | ⟨y1, rfl, rfl⟩ | ⟨y1, rfl, i, rfl, y2, y3⟩
              · clear HPC HCC
                subst y1
                rcases HE7.out with rfl | rfl
                all_goals
                  rcases HBE.out with ⟨rfl, rfl⟩ | ⟨rfl, rfl⟩
                  all_goals
                    clear HE7 HBE
                    go_wp2_with fail
                    refine hl8.mono ?_
                    rintro e W' ⟨rfl, hB9⟩
                    go_wp2_with fail
                    go_ret
                    exact ⟨rfl, hB9⟩
              · clear HPC HCC
                have y4 : (S == 0) = false := beq_eq_false_iff_ne.2 y1
                clear y1
                rcases HE7.out with rfl | rfl
                all_goals
                  rcases HBE.out with ⟨rfl, rfl⟩ | ⟨rfl, rfl⟩
                  all_goals
                    clear HE7 HBE
                    go_wp2_with fail
                    refine hl8.mono ?_
                    rintro e W' ⟨rfl, hB9⟩
                    go_wp2_with fail
                    go_ret
                    exact ⟨rfl, hB9⟩
              · have y4 : (S == 0) = false := beq_eq_false_iff_ne.2 y1
                have y5 : i < n := by rw [HXL.out] at y2; exact y2
                obtain ⟨a, rfl, hca⟩ := HCC.out i y5
                unfold iv at hca
                have y6 : (xs[i] == 0) = false := beq_eq_false_iff_ne.2 y3
                generalize xs[i] = z at *
                have y7 : (0 : Int) ≤ (i : Int) := by omega
                have y8 : (i : Int) < (n : Int) := by omega
                clear y1 y2 y3 HPC HCC
                rcases HE7.out with rfl | rfl
                all_goals
                  rcases HBE.out with ⟨rfl, rfl⟩ | ⟨rfl, rfl⟩
                  all_goals
                    clear HE7 HBE
                    go_wp2_with fail
                    refine hl8.mono ?_
                    rintro e W' ⟨rfl, hB9⟩
                    go_wp2_with fail
                    go_ret
                    exact ⟨rfl, hB9⟩
  · rw [hs] at hsh
    simp only [Option.getD_none] at hsh
    clear hs
    go_wp2_with fail
    refine hsh.mono ?_
    rintro e W4 ⟨v4, rfl, -, -, hB4⟩
    unfold listErr
    have B4 := B3.trans (hB4.low.mono (by omega))
    clear hB4 d3 B3 hsh
    go_wp2_with fail
    refine (lives_any W4).mono ?_
    rintro e W' ⟨rfl, hB2⟩
    go_wp2_with fail
    go_ret
    exact ⟨rfl, B4.trans (hB2.mono B4.size)⟩
end Go.Proofs.Ytagjecbgbpjobaa
