/- Copies and prefixes as slices that read. -/
import Derived.Test.YtagjecbgbpjobaaHref
namespace Go.Proofs.Ytagjecbgbpjobaa
open Go.RowKit Hb

theorem short_t (a0 : ByteArray) (k : Nat) (hk : k ≤ 1000) (K : Int) (hK : K = (k : Int)) (w : World) : Calls Try.prog 20 #[.string a0, .int .i64 K] w fun e w' => (∃ t, e = .returned (.string t) ∧ t.size ≤ k ∧ t.data.toList = a0.data.toList.take k) ∧ w = w' := by
  subst hK
  exact (short_any a0 k hk w).mono fun _ _ ⟨he, hw⟩ => ⟨⟨_, he, by rw [shortB_size]; omega, shortB_list a0 k⟩, hw⟩
theorem ints_t (A : Option Addr) (n c : Nat) (xs : List Int) (hnc : n ≤ c) (hc : c ≤ maxLen) (k : Nat) (hk : k ≤ 1000) (K : Int) (hK : K = (k : Int)) (w : World) (hr : Rd w w.heap.size A n (xs.map iv)) :
    Calls Try.prog 31 #[.slice A n c, .int .i64 K] w fun e W => ∃ A' m c', e = .returned (.slice A' m c') ∧ m ≤ k ∧ m = (xs.take k).length ∧ m ≤ c' ∧ c' ≤ maxLen ∧ Rd W W.heap.size A' m ((xs.take k).map iv) ∧ W.ownsRow w.heap.size 3 1 (.slice A' m c') m ((xs.take k).map iv) ∧ Below w.heap.size w W := by
  subst hK
  refine (ints_any A n c xs hnc hc k hk w hr).mono ?_
  rintro e W ⟨v, rfl, hF⟩
  have hlen : ((xs.take k).map iv).length = (xs.take k).length := by simp
  obtain ⟨A', c', rfl, h1, h2, h3, h4⟩ := hF.rd
  rw [hlen] at h1 h2 h4 ⊢
  refine ⟨A', _, c', rfl, by simp; omega, rfl, h4, own_cap h2, h1, h2, h3⟩
theorem few_t (A : Option Addr) (n c : Nat) (xs : List UInt8) (hnc : n ≤ c) (hc : c ≤ maxLen) (k : Nat) (hk : k ≤ 1000) (K : Int) (hK : K = (k : Int)) (w : World) (hr : Rd w w.heap.size A n (xs.map bv)) :
    Calls Try.prog 11 #[.slice A n c, .int .i64 K] w fun e W => ∃ A' m c', e = .returned (.slice A' m c') ∧ m ≤ k ∧ m = (xs.take k).length ∧ m ≤ c' ∧ c' ≤ maxLen ∧ Rd W W.heap.size A' m ((xs.take k).map bv) ∧ W.ownsRow w.heap.size 5 1 (.slice A' m c') m ((xs.take k).map bv) ∧ Below w.heap.size w W := by
  subst hK
  refine (few_any A n c xs hnc hc k hk w hr).mono ?_
  rintro e W ⟨v, rfl, hF⟩
  have hlen : ((xs.take k).map bv).length = (xs.take k).length := by simp
  obtain ⟨A', c', rfl, h1, h2, h3, h4⟩ := hF.rd
  rw [hlen] at h1 h2 h4 ⊢
  refine ⟨A', _, c', rfl, by simp; omega, rfl, h4, own_cap h2, h1, h2, h3⟩

theorem around_t (n : Int) (m : Nat) (M : Int) (hM : M = (m : Int)) (hn : (Lit.int .i64 n).wf = true) (hm : 1 ≤ m) (w : World) :
    Calls Try.prog 19 #[.int .i64 n, .int .i64 M] w fun e w' => (∃ k : Nat, e = .returned (.int .i64 k) ∧ k < m) ∧ w = w' := by
  subst hM
  refine (around_any n m (bounds_i64 hn) (by omega) w).mono ?_
  rintro e w' ⟨rfl, rfl⟩
  have h := aroundI_range n m (by omega)
  exact ⟨⟨(aroundI n m).toNat, by rw [Int.toNat_of_nonneg h.1], by omega⟩, rfl⟩
end Go.Proofs.Ytagjecbgbpjobaa
