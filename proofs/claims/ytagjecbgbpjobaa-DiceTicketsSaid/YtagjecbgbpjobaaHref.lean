/- What the small functions of the reference model answer: prefixes, copies, comparisons. -/
import Derived.Test.YtagjecbgbpjobaaHquiet
import Derived.Deep.QuietTactic
import Derived.BigQuiet
import Derived.WalkSmall
import Derived.Lib.Strings
namespace Go.Proofs.Ytagjecbgbpjobaa
open Go.RowKit Hb

def aroundI (n : Int) (most : Int) : Int := (if n < 0 then -(n + 1) else n) % most
theorem aroundI_range (n most : Int) (h : 1 ≤ most) : 0 ≤ aroundI n most ∧ aroundI n most < most := by
  unfold aroundI
  exact ⟨Int.emod_nonneg _ (by omega), Int.emod_lt_of_pos _ (by omega)⟩
theorem around_any (n most : Int) (hn : -9223372036854775808 ≤ n ∧ n ≤ 9223372036854775807) (hm : 1 ≤ most) (w : World) :
    Calls Try.prog 19 #[.int .i64 n, .int .i64 most] w fun e w' => e = .returned (.int .i64 (aroundI n most)) ∧ w = w' := by
  obtain ⟨hn0, hn1⟩ := hn
  by_cases h : n < 0
  · go_enter Try.func19, Try.ntmps19
    go_wp2
    go_ret
    refine ⟨ret_int ?_, rfl⟩
    unfold aroundI
    rw [if_pos h]
    rw [← Int.neg_tmod]
    exact Int.tmod_eq_emod_of_nonneg (by omega)
  · go_enter Try.func19, Try.ntmps19
    go_wp2
    go_ret
    refine ⟨ret_int ?_, rfl⟩
    unfold aroundI
    rw [if_neg (by omega)]

def shortB (s : ByteArray) (k : Nat) : ByteArray := s.extract 0 k
theorem shortB_list (s : ByteArray) (k : Nat) : (shortB s k).data.toList = s.data.toList.take k := by unfold shortB; rw [Lib.extract_data]; simp
theorem shortB_size (s : ByteArray) (k : Nat) : (shortB s k).size = min k s.size := by
  have h := congrArg List.length (shortB_list s k)
  simpa [Array.length_toList] using h
theorem shortB_all (s : ByteArray) (k : Nat) (h : s.size ≤ k) : shortB s k = s := by
  apply ByteArray.ext
  apply Array.ext'
  rw [shortB_list, List.take_of_length_le (by simpa [Array.length_toList] using h)]
theorem short_any (s : ByteArray) (k : Nat) (hk : k ≤ 1000) (w : World) :
    Calls Try.prog 20 #[.string s, .int .i64 k] w fun e w' => e = .returned (.string (shortB s k)) ∧ w = w' := by
  by_cases h : k < s.size
  · go_enter Try.func20, Try.ntmps20
    go_wp2
    go_ret
    exact ⟨rfl, rfl⟩
  · go_enter Try.func20, Try.ntmps20
    go_wp2
    go_ret
    exact ⟨by rw [shortB_all s k (by omega)]; rfl, rfl⟩


set_option maxHeartbeats 400000 in
theorem ints_any (A : Option Addr) (n c : Nat) (xs : List Int) (hnc : n ≤ c) (hc : c ≤ maxLen) (k : Nat) (hk : k ≤ 1000) (w : World) (hr : Rd w w.heap.size A n (xs.map iv)) :
    Calls Try.prog 31 #[.slice A n c, .int .i64 k] w fun e W => ∃ v, e = .returned v ∧ Fresh w 3 ((xs.take k).map iv) W v := by
  obtain ⟨i0, hi, hz0, hz1, hz2⟩ := info_parts infoI
  have hlx : xs.length = n := by simpa using hr.1
  have hln : ((xs.take k).map iv).length = min k n := by simp [hlx]
  unfold maxLen at hc
  have HLN := Lib.hid hln
  clear hln
  have hcut : Rd w w.heap.size A (min k n) ((xs.take k).map iv) := by
    rw [List.map_take]
    by_cases h : k ≤ n
    · rw [Nat.min_eq_left h]; exact hr.take k h
    · rw [Nat.min_eq_right (by omega), List.take_of_length_le (by rw [hr.1]; omega)]; exact hr
  clear hr hlx
  by_cases h : k < n
  · have HR := hcut.cast (n' := k) (by omega) rfl
    clear hcut
    go_enter Try.func31, Try.ntmps31
    go_wp2_with (at_builtin; refine wpList_append_rd _ rfl _ _ 37 rfl w.heap.size 3 i0 (.int .i64 0) 8 Try.underlying37 hi hz0 hz1 hz2 rfl (.slice none 0 0) 0 [] rfl (World.ownsRow_nil _ _ _ _) w.heap.size A k c ((xs.take k).map iv) rfl HR (map_one _ iv_one _) (by unfold maxLen; omega) (by omega) (Nat.le_refl _) ?_; intro A1 c1 w1 hown hg _; simp only [Nat.zero_add, List.nil_append] at hown)
    go_ret
    exact ⟨_, rfl, own_cast hown (by rw [HLN.out]; omega) rfl, (Below.refl _ _).grown hg (Nat.le_refl _) (by simp [Value.ownBlock])⟩
  · have HR := hcut.cast (n' := n) (by omega) rfl
    clear hcut
    go_enter Try.func31, Try.ntmps31
    go_wp2_with (at_builtin; refine wpList_append_rd _ rfl _ _ 37 rfl w.heap.size 3 i0 (.int .i64 0) 8 Try.underlying37 hi hz0 hz1 hz2 rfl (.slice none 0 0) 0 [] rfl (World.ownsRow_nil _ _ _ _) w.heap.size A n c ((xs.take k).map iv) rfl HR (map_one _ iv_one _) (by unfold maxLen; omega) (by omega) (Nat.le_refl _) ?_; intro A1 c1 w1 hown hg _; simp only [Nat.zero_add, List.nil_append] at hown)
    go_ret
    exact ⟨_, rfl, own_cast hown (by rw [HLN.out]; omega) rfl, (Below.refl _ _).grown hg (Nat.le_refl _) (by simp [Value.ownBlock])⟩
set_option maxHeartbeats 400000 in
theorem few_any (A : Option Addr) (n c : Nat) (xs : List UInt8) (hnc : n ≤ c) (hc : c ≤ maxLen) (k : Nat) (hk : k ≤ 1000) (w : World) (hr : Rd w w.heap.size A n (xs.map bv)) :
    Calls Try.prog 11 #[.slice A n c, .int .i64 k] w fun e W => ∃ v, e = .returned v ∧ Fresh w 5 ((xs.take k).map bv) W v := by
  obtain ⟨i0, hi, hz0, hz1, hz2⟩ := info_parts infoU8
  have hlx : xs.length = n := by simpa using hr.1
  have hln : ((xs.take k).map bv).length = min k n := by simp [hlx]
  unfold maxLen at hc
  have HLN := Lib.hid hln
  clear hln
  have hcut : Rd w w.heap.size A (min k n) ((xs.take k).map bv) := by
    rw [List.map_take]
    by_cases h : k ≤ n
    · rw [Nat.min_eq_left h]; exact hr.take k h
    · rw [Nat.min_eq_right (by omega), List.take_of_length_le (by rw [hr.1]; omega)]; exact hr
  clear hr hlx
  by_cases h : k < n
  · have HR := hcut.cast (n' := k) (by omega) rfl
    clear hcut
    go_enter Try.func11, Try.ntmps11
    go_wp2_with (at_builtin; refine wpList_append_rd _ rfl _ _ 22 rfl w.heap.size 5 i0 (.int .u8 0) 1 Try.underlying22 hi hz0 hz1 hz2 rfl (.slice none 0 0) 0 [] rfl (World.ownsRow_nil _ _ _ _) w.heap.size A k c ((xs.take k).map bv) rfl HR (map_one _ bv_one _) (by unfold maxLen; omega) (by omega) (Nat.le_refl _) ?_; intro A1 c1 w1 hown hg _; simp only [Nat.zero_add, List.nil_append] at hown)
    go_ret
    exact ⟨_, rfl, own_cast hown (by rw [HLN.out]; omega) rfl, (Below.refl _ _).grown hg (Nat.le_refl _) (by simp [Value.ownBlock])⟩
  · have HR := hcut.cast (n' := n) (by omega) rfl
    clear hcut
    go_enter Try.func11, Try.ntmps11
    go_wp2_with (at_builtin; refine wpList_append_rd _ rfl _ _ 22 rfl w.heap.size 5 i0 (.int .u8 0) 1 Try.underlying22 hi hz0 hz1 hz2 rfl (.slice none 0 0) 0 [] rfl (World.ownsRow_nil _ _ _ _) w.heap.size A n c ((xs.take k).map bv) rfl HR (map_one _ bv_one _) (by unfold maxLen; omega) (by omega) (Nat.le_refl _) ?_; intro A1 c1 w1 hown hg _; simp only [Nat.zero_add, List.nil_append] at hown)
    go_ret
    exact ⟨_, rfl, own_cast hown (by rw [HLN.out]; omega) rfl, (Below.refl _ _).grown hg (Nat.le_refl _) (by simp [Value.ownBlock])⟩


set_option maxHeartbeats 1000000 in
theorem same_ints (A C : Option Addr) (n c m d : Nat) (xs ys : List Int) (B : Nat) (hn : n ≤ maxLen) (w : World) (hx : Rd w B A n (xs.map iv)) (hy : Rd w B C m (ys.map iv)) :
    Calls Try.prog 36 #[.slice A n c, .slice C m d] w fun e w' => e = .returned (.bool (decide (xs = ys))) ∧ Quiet w w' := by
  have hlx : xs.length = n := by simpa using hx.1
  have hly : ys.length = m := by simpa using hy.1
  unfold maxLen at hn
  have HX := Lib.hid hlx
  have HY := Lib.hid hly
  clear hlx hly
  by_cases hnm : n = m
  · subst hnm
    have hne : ((n : Int) != (n : Int)) = false := by simp
    go_enter Try.func36, Try.ntmps36
    go_wp2
    go_loopw [5] (fun i wr => ∃ k q : Nat, k ≤ n ∧ i = .int .i64 k ∧ wr = w.drewN q ∧ xs.take k = ys.take k) (fun i _ => n - (intOf i).toNat)
    case atStart => exact ⟨0, 0, Nat.zero_le _, rfl, rfl, by simp⟩
    case round =>
      obtain ⟨k, q, hk, rfl, rfl, htk⟩ := hrel
      have HT := Lib.hid htk
      clear htk
      by_cases hlt : k < n
      · obtain ⟨a, u, rfl, hab, hu, hc⟩ := hx.at hlt
        obtain ⟨b, v, rfl, hbb, hv, hd⟩ := hy.at hlt
        have hkx : k < xs.length := by rw [HX.out]; exact hlt
        have hky : k < ys.length := by rw [HY.out]; exact hlt
        have hu' : u = iv xs[k] := by
          rw [List.getElem?_map, List.getElem?_eq_getElem hkx] at hu
          exact (Option.some.inj hu).symm
        have hv' : v = iv ys[k] := by
          rw [List.getElem?_map, List.getElem?_eq_getElem hky] at hv
          exact (Option.some.inj hv).symm
        subst hu' hv'
        unfold iv at hc hd
        clear hu hv
        by_cases hxy : xs[k] = ys[k]
        · have hb : (xs[k] != ys[k]) = false := by rw [hxy]; simp
          have HXY := Lib.hid hxy
          clear hxy
          go_wp2_with fail
          go_quiet (fail)
          go_wp2
          go_roundw
          case rel =>
            refine ⟨k + 1, q + nq, by omega, by go_num, rfl, ?_⟩
            rw [List.take_succ_eq_append_getElem hkx, List.take_succ_eq_append_getElem hky, HT.out, HXY.out]
          case measure => simp [intOf]; omega
        · have hb : (xs[k] != ys[k]) = true := by rw [bne_iff_ne]; exact hxy
          have hd : decide (xs = ys) = false := decide_eq_false (fun e => hxy (by subst e; rfl))
          have HD := Lib.hid hd
          clear hxy hd
          go_wp2_with fail
          go_quiet (fail)
          go_wp2
          go_ret
          exact ⟨ret_bool HD.out.symm, q + nq, World.drewN_drewN ..⟩
      · have hd : decide (xs = ys) = true := decide_eq_true (by
          have := HT.out
          rwa [List.take_of_length_le (by rw [HX.out]; omega), List.take_of_length_le (by rw [HY.out]; omega)] at this)
        have HD := Lib.hid hd
        clear hd
        go_wp2
        go_ret
        exact ⟨ret_bool HD.out.symm, q, rfl⟩
  · have hne : ((n : Int) != (m : Int)) = true := by rw [bne_iff_ne]; omega
    have hd : decide (xs = ys) = false := decide_eq_false (fun e => hnm (by rw [← HX.out, ← HY.out, e]))
    have HD := Lib.hid hd
    clear hd
    go_enter Try.func36, Try.ntmps36
    go_wp2
    go_ret
    exact ⟨ret_bool HD.out.symm, 0, rfl⟩

set_option maxHeartbeats 1000000 in
theorem same_bytes (A C : Option Addr) (n c m d : Nat) (xs ys : List UInt8) (B : Nat) (hn : n ≤ maxLen) (w : World) (hx : Rd w B A n (xs.map bv)) (hy : Rd w B C m (ys.map bv)) :
    Calls Try.prog 15 #[.slice A n c, .slice C m d] w fun e w' => e = .returned (.bool (decide (xs = ys))) ∧ Quiet w w' := by
  have hlx : xs.length = n := by simpa using hx.1
  have hly : ys.length = m := by simpa using hy.1
  unfold maxLen at hn
  have HX := Lib.hid hlx
  have HY := Lib.hid hly
  clear hlx hly
  by_cases hnm : n = m
  · subst hnm
    have hne : ((n : Int) != (n : Int)) = false := by simp
    go_enter Try.func15, Try.ntmps15
    go_wp2
    go_loopw [5] (fun i wr => ∃ k q : Nat, k ≤ n ∧ i = .int .i64 k ∧ wr = w.drewN q ∧ xs.take k = ys.take k) (fun i _ => n - (intOf i).toNat)
    case atStart => exact ⟨0, 0, Nat.zero_le _, rfl, rfl, by simp⟩
    case round =>
      obtain ⟨k, q, hk, rfl, rfl, htk⟩ := hrel
      have HT := Lib.hid htk
      clear htk
      by_cases hlt : k < n
      · obtain ⟨a, u, rfl, hab, hu, hc⟩ := hx.at hlt
        obtain ⟨b, v, rfl, hbb, hv, hd⟩ := hy.at hlt
        have hkx : k < xs.length := by rw [HX.out]; exact hlt
        have hky : k < ys.length := by rw [HY.out]; exact hlt
        have hu' : u = bv xs[k] := by
          rw [List.getElem?_map, List.getElem?_eq_getElem hkx] at hu
          exact (Option.some.inj hu).symm
        have hv' : v = bv ys[k] := by
          rw [List.getElem?_map, List.getElem?_eq_getElem hky] at hv
          exact (Option.some.inj hv).symm
        subst hu' hv'
        unfold bv at hc hd
        clear hu hv
        by_cases hxy : xs[k] = ys[k]
        · have hb : ((xs[k].toNat : Int) != (ys[k].toNat : Int)) = false := by rw [hxy]; simp
          have HXY := Lib.hid hxy
          clear hxy
          go_wp2_with fail
          go_quiet (fail)
          go_wp2
          go_roundw
          case rel =>
            refine ⟨k + 1, q + nq, by omega, by go_num, rfl, ?_⟩
            rw [List.take_succ_eq_append_getElem hkx, List.take_succ_eq_append_getElem hky, HT.out, HXY.out]
          case measure => simp [intOf]; omega
        · have hb : ((xs[k].toNat : Int) != (ys[k].toNat : Int)) = true := by rw [bne_iff_ne]; intro e; exact hxy (UInt8.toNat_inj.1 (by omega))
          have hd : decide (xs = ys) = false := decide_eq_false (fun e => hxy (by subst e; rfl))
          have HD := Lib.hid hd
          clear hxy hd
          go_wp2_with fail
          go_quiet (fail)
          go_wp2
          go_ret
          exact ⟨ret_bool HD.out.symm, q + nq, World.drewN_drewN ..⟩
      · have hd : decide (xs = ys) = true := decide_eq_true (by
          have := HT.out
          rwa [List.take_of_length_le (by rw [HX.out]; omega), List.take_of_length_le (by rw [HY.out]; omega)] at this)
        have HD := Lib.hid hd
        clear hd
        go_wp2
        go_ret
        exact ⟨ret_bool HD.out.symm, q, rfl⟩
  · have hne : ((n : Int) != (m : Int)) = true := by rw [bne_iff_ne]; omega
    have hd : decide (xs = ys) = false := decide_eq_false (fun e => hnm (by rw [← HX.out, ← HY.out, e]))
    have HD := Lib.hid hd
    clear hd
    go_enter Try.func15, Try.ntmps15
    go_wp2
    go_ret
    exact ⟨ret_bool HD.out.symm, 0, rfl⟩

theorem same_ints_t (A C : Option Addr) (n c m d : Nat) (xs ys : List Int) (B : Nat) (hn : n ≤ maxLen) (w : World) (hx : Rd w B A n (xs.map iv)) (hy : Rd w B C m (ys.map iv)) (h : xs = ys) :
    Calls Try.prog 36 #[.slice A n c, .slice C m d] w fun e w' => e = .returned (.bool true) ∧ Quiet w w' :=
  (same_ints A C n c m d xs ys B hn w hx hy).mono fun _ _ ⟨he, hq⟩ => ⟨he.trans (ret_bool (decide_eq_true h)), hq⟩
theorem same_bytes_t (A C : Option Addr) (n c m d : Nat) (xs ys : List UInt8) (B : Nat) (hn : n ≤ maxLen) (w : World) (hx : Rd w B A n (xs.map bv)) (hy : Rd w B C m (ys.map bv)) (h : xs = ys) :
    Calls Try.prog 15 #[.slice A n c, .slice C m d] w fun e w' => e = .returned (.bool true) ∧ Quiet w w' :=
  (same_bytes A C n c m d xs ys B hn w hx hy).mono fun _ _ ⟨he, hq⟩ => ⟨he.trans (ret_bool (decide_eq_true h)), hq⟩
end Go.Proofs.Ytagjecbgbpjobaa
