/- Bits of bytes and of words, as package wire uses them. No program is named here. -/
import Derived.Test.YtagjecbgbpjobaaWmath
import Derived.Test.YtagjecbgbpjobaaHmath
namespace Go.Proofs.Ytagjecbgbpjobaa.Wm
open Go Go.RowKit Hm

set_option maxRecDepth 100000 in
theorem or8 (m : Nat) : bits .or .u8 ((m : Int) % 256) 128 = ((m % 128 + 128 : Nat) : Int) := by
  have key : ∀ r : Fin 256, bits .or .u8 ((r.val : Int)) 128 = ((r.val % 128 + 128 : Nat) : Int) := by decide
  have := key ⟨m % 256, by omega⟩
  simp only at this
  rw [show ((m : Int) % 256) = ((m % 256 : Nat) : Int) from by omega, this]
  omega
set_option maxRecDepth 100000 in
theorem andnot8 (c : UInt8) : bits .andNot .u8 (c.toNat : Int) 128 = ((c.toNat % 128 : Nat) : Int) := by
  have key : ∀ r : Fin 256, bits .andNot .u8 ((r.val : Int)) 128 = ((r.val % 128 : Nat) : Int) := by decide
  exact key ⟨c.toNat, c.toNat_lt⟩
theorem BI_toNat (n : Nat) (h : n < 18446744073709551616) : (BI (n : Int)).toNat = n := by
  have := UI_BI (n : Int); unfold UI at this; omega
theorem or_add (a b k : Nat) (ha : a < 2 ^ k) (h : b * 2 ^ k + a < 18446744073709551616) : bits .or .u64 (a : Int) ((b * 2 ^ k : Nat) : Int) = ((a + b * 2 ^ k : Nat) : Int) := by
  rw [bits_or]
  unfold UI
  rw [BitVec.toNat_or, BI_toNat _ (by omega), BI_toNat _ (by omega)]
  have e2 := Nat.shiftLeft_add_eq_or_of_lt (b := a) (i := k) ha b
  rw [Nat.shiftLeft_eq] at e2
  rw [Nat.or_comm, ← e2]
  omega
theorem all_ones : BI 18446744073709551615 = BitVec.allOnes 64 := by decide
theorem minus_one : BI (-1) = BitVec.allOnes 64 := by decide
theorem xor_ones (x : Nat) (h : x < 18446744073709551616) : bits .xor .u64 (x : Int) 18446744073709551615 = ((18446744073709551615 - x : Nat) : Int) := by
  rw [bits_xor, all_ones, BitVec.xor_allOnes]
  unfold UI
  rw [BitVec.toNat_not, BI_toNat _ h]
theorem xor_zero (x : Nat) (h : x < 18446744073709551616) : bits .xor .u64 (x : Int) 0 = (x : Int) := by
  rw [bits_xor]
  have : BI 0 = 0#64 := by decide
  rw [this, BitVec.xor_zero]
  unfold UI
  rw [BI_toNat _ h]
end Go.Proofs.Ytagjecbgbpjobaa.Wm
