/- A die of the project and one of the reference model, side by side. -/
import Derived.Test.YtagjecbgbpjobaaDshuf
namespace Go.Proofs.Ytagjecbgbpjobaa
open Go.RowKit Go.Shelf Hm Hb Dm Ds

theorem shuffle_cases (h q : Int) (n : Nat) (hn : n ≤ 4096) : (∃ l q', shuffle h n q = (some l, 0, q') ∧ l.Perm (upto n)) ∨ (∃ q', shuffle h n q = (none, 4, q')) := by
  unfold shuffle
  rw [if_neg (by omega)]
  have e : ((n : Int)).toNat = n := by omega
  rw [e]
  cases hs : shuf h (n - 1) q (upto n) with
  | mk o q' =>
    cases o with
    | none => exact .inr ⟨q', rfl⟩
    | some l => exact .inl ⟨l, q', rfl, shuf_perm h (n - 1) q (upto n) l q' (by rw [upto_length]; omega) hs⟩

/-- both dice at the same position, with the same number behind their streams; the seed lies below both -/
structure Two (W : World) (p b pm : Nat) (A : Option Addr) (m c : Nat) (s : ByteArray) (bs : List UInt8) (h q : Int) : Prop where
  die : Die W p b h q
  ref : RDie W pm A m c s bs q
  seed : Rd W b A m (bs.map bv)
  lt : p < pm
section
variable {W W1 W2 : World} {p b pm m c : Nat} {A : Option Addr} {s : ByteArray} {bs : List UInt8} {h q q1 : Int}
theorem Two.below {B : Nat} (t : Two W p b pm A m c s bs h q) (k : Below B W W1) (hB : pm < B) : Two W1 p b pm A m c s bs h q :=
  ⟨t.die.below k (by have := t.lt; omega), t.ref.below k hB, t.seed.below (k.mono (by have := t.lt; have := t.die.1; omega)), t.lt⟩
/-- the project's die has moved -/
theorem Two.left (t : Two W p b pm A m c s bs h q) (k : But W.heap.size p W W1) : RDie W1 pm A m c s bs q ∧ Rd W1 b A m (bs.map bv) := by
  have h1 := t.lt
  have h2 := t.die.1
  have h3 := t.seed.below (k.low.mono (by omega))
  exact ⟨⟨(k.block t.ref.lt (by omega)).trans t.ref.1, h3.mono (by omega)⟩, h3⟩
/-- the reference model's die has moved behind it -/
theorem Two.right (d1 : Die W1 p b h q1) (sd : Rd W1 b A m (bs.map bv)) (r2 : RDie W2 pm A m c s bs q1) (k : But W1.heap.size pm W1 W2) (hlt : p < pm) : Two W2 p b pm A m c s bs h q1 :=
  ⟨d1.but k d1.lt (by omega) (by have := d1.1; omega), r2, sd.below (k.low.mono (by have := d1.1; omega)), hlt⟩
theorem Two.sizes (t : Two W p b pm A m c s bs h q) : p < W.heap.size ∧ pm < W.heap.size ∧ b < p := ⟨t.die.lt, t.ref.lt, t.die.1⟩
end
theorem around_w (n most : Int) (hn : -9223372036854775808 ≤ n ∧ n ≤ 9223372036854775807) (hm : 1 ≤ most) (w : World) :
    Calls Try.prog 19 #[.int .i64 n, .int .i64 most] w fun e w' => e = .returned (.int .i64 (aroundI n most)) ∧ w' = w :=
  (around_any n most hn hm w).mono fun _ _ ⟨he, hw⟩ => ⟨he, hw.symm⟩
end Go.Proofs.Ytagjecbgbpjobaa
