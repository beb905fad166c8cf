/- What the small functions of the reference model answer: prefixes, copies, comparisons. -/
import Derived.Test.YtmpdoikdadjneaaDoorCA
import Derived.Deep.QuietTactic
import Derived.BigQuiet
import Derived.WalkSmall
import Derived.Lib.Strings
namespace Go.Proofs.YtmpdoikdadjneaaDoor
open Go.RowKit Hb

def aroundI (n : Int) (most : Int) : Int := (if n < 0 then -(n + 1) else n) % most
theorem aroundI_range (n most : Int) (h : 1 ≤ most) : 0 ≤ aroundI n most ∧ aroundI n most < most := by
  unfold aroundI
  exact ⟨Int.emod_nonneg _ (by omega), Int.emod_lt_of_pos _ (by omega)⟩
theorem around_any (n most : Int) (hn : -9223372036854775808 ≤ n ∧ n ≤ 9223372036854775807) (hm : 1 ≤ most) (w : World) :
    Calls Tryd.prog 14 #[.int .i64 n, .int .i64 most] w fun e w' => e = .returned (.int .i64 (aroundI n most)) ∧ w = w' := by
  obtain ⟨hn0, hn1⟩ := hn
  by_cases h : n < 0
  · go_enter Tryd.func14, Tryd.ntmps14
    go_wp2
    go_ret
    refine ⟨ret_int ?_, rfl⟩
    unfold aroundI
    rw [if_pos h]
    rw [← Int.neg_tmod]
    exact Int.tmod_eq_emod_of_nonneg (by omega)
  · go_enter Tryd.func14, Tryd.ntmps14
    go_wp2
    go_ret
    refine ⟨ret_int ?_, rfl⟩
    unfold aroundI
    rw [if_neg (by omega)]

def shortB (s : ByteArray) (k : Nat) : ByteArray := s.extract 0 k
theorem shortB_list (s : ByteArray) (k : Nat) : (shortB s k).data.toList = s.data.toList.take k := by unfold shortB; rw [Lib.extract_data]; simp
theorem shortB_size (s : ByteArray) (k : Nat) : (shortB s k).size = min k s.size := by
  have h := congrArg List.length (shortB_list s k)
  simpa [Array.length_toList] using h
theorem shortB_all (s : ByteArray) (k : Nat) (h : s.size ≤ k) : shortB s k = s := by
  apply ByteArray.ext
  apply Array.ext'
  rw [shortB_list, List.take_of_length_le (by simpa [Array.length_toList] using h)]
theorem short_any (s : ByteArray) (k : Nat) (hk : k ≤ 1000) (w : World) :
    Calls Tryd.prog 15 #[.string s, .int .i64 k] w fun e w' => e = .returned (.string (shortB s k)) ∧ w = w' := by
  by_cases h : k < s.size
  · go_enter Tryd.func15, Tryd.ntmps15
    go_wp2
    go_ret
    exact ⟨rfl, rfl⟩
  · go_enter Tryd.func15, Tryd.ntmps15
    go_wp2
    go_ret
    exact ⟨by rw [shortB_all s k (by omega)]; rfl, rfl⟩


end Go.Proofs.YtmpdoikdadjneaaDoor

/- Copies and prefixes as slices that read. -/
namespace Go.Proofs.YtmpdoikdadjneaaDoor
open Go.RowKit Hb

theorem short_t (a0 : ByteArray) (k : Nat) (hk : k ≤ 1000) (K : Int) (hK : K = (k : Int)) (w : World) : Calls Tryd.prog 15 #[.string a0, .int .i64 K] w fun e w' => (∃ t, e = .returned (.string t) ∧ t.size ≤ k ∧ t.data.toList = a0.data.toList.take k) ∧ w = w' := by
  subst hK
  exact (short_any a0 k hk w).mono fun _ _ ⟨he, hw⟩ => ⟨⟨_, he, by rw [shortB_size]; omega, shortB_list a0 k⟩, hw⟩
theorem around_t (n : Int) (m : Nat) (M : Int) (hM : M = (m : Int)) (hn : (Lit.int .i64 n).wf = true) (hm : 1 ≤ m) (w : World) :
    Calls Tryd.prog 14 #[.int .i64 n, .int .i64 M] w fun e w' => (∃ k : Nat, e = .returned (.int .i64 k) ∧ k < m) ∧ w = w' := by
  subst hM
  refine (around_any n m (bounds_i64 hn) (by omega) w).mono ?_
  rintro e w' ⟨rfl, rfl⟩
  have h := aroundI_range n m (by omega)
  exact ⟨⟨(aroundI n m).toNat, by rw [Int.toNat_of_nonneg h.1], by omega⟩, rfl⟩
end Go.Proofs.YtmpdoikdadjneaaDoor

/- The reference's Pick and Bound. -/
namespace Go.Proofs.YtmpdoikdadjneaaDoor
open Go.RowKit Hb

set_option maxHeartbeats 1000000 in
theorem pick_any (A : Option Addr) (n c : Nat) (xs : List Int) (hxs : ∀ x ∈ xs, -9223372036854775808 ≤ x ∧ x ≤ 9223372036854775807) (k : Nat) (K : Int) (hK : K = (k : Int)) (_hk : k ≤ 1000000) (m : Nat) (hm : 1 ≤ m) (_hm2 : m ≤ 1000000000) (_hn : n ≤ maxLen) (B : Nat) (w : World) (hr : Rd w B A n (xs.map (Value.int .i64))) :
    Calls Tryd.prog 45 #[.slice A n c, .int .i64 K, .int .i64 (m : Int)] w fun e w' => (∃ r : Nat, e = .returned (.int .i64 (r : Int)) ∧ r < m) ∧ w = w' := by
  subst hK
  have hl : xs.length = n := by simpa using hr.1
  by_cases h : k < n
  · obtain ⟨a, u, rfl, hb, hu, hc⟩ := hr.at h
    obtain ⟨x, hx⟩ : ∃ x, xs[k]? = some x := ⟨_, List.getElem?_eq_getElem (by omega)⟩
    rw [List.getElem?_map, hx] at hu
    obtain rfl : Value.int .i64 x = u := by simpa using hu
    have hxr := hxs x (List.mem_of_getElem? hx)
    have h1 : ¬ (k : Int) < 0 := by omega
    have h2 : ¬ (n : Int) ≤ (k : Int) := by omega
    have h3 : (k : Int) < (n : Int) := by omega
    have HXR := Lib.hid hxr
    clear hxs hl hu hx hxr hr
    go_enter Tryd.func45, Tryd.ntmps45
    go_wp2_with fail
    refine (around_any x (m : Int) HXR.out (by omega) _).mono ?_
    rintro e w' ⟨rfl, rfl⟩
    obtain ⟨g0, g1⟩ := aroundI_range x (m : Int) (by omega)
    obtain ⟨r, hr⟩ := Int.eq_ofNat_of_zero_le g0
    rw [hr] at g1 ⊢
    clear hr g0
    go_wp2_with fail
    go_ret
    exact ⟨⟨r, rfl, by omega⟩, rfl⟩
  · have h1 : ¬ (k : Int) < 0 := by omega
    have h2 : (n : Int) ≤ (k : Int) := by omega
    clear hxs hl hr
    go_enter Tryd.func45, Tryd.ntmps45
    go_wp2_with fail
    go_ret
    exact ⟨⟨0, rfl, by omega⟩, rfl⟩
end Go.Proofs.YtmpdoikdadjneaaDoor
