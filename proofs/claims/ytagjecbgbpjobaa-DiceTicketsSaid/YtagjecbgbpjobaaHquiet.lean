/- Words for what a call leaves of memory: reads alone; a row of the call's own. No function of the program is named here. -/
import Derived.Test.YtagjecbgbpjobaaHinfo
import Derived.Deep.QuietTactic
import Derived.BigQuiet
import Derived.WalkSmall
import Derived.Lib.Strings
namespace Go.Proofs.Ytagjecbgbpjobaa
open Go.RowKit Hb

/-- reads in an open order: nothing turns but the count of draws -/
def Quiet (w w' : World) : Prop := ∃ k, w' = w.drewN k
theorem Quiet.below {w w' : World} (h : Quiet w w') (B : Nat) : Below B w w' := by
  obtain ⟨k, rfl⟩ := h
  exact below_drewN (Below.refl B w) k

/-- the result of a copy: a row of the call's own -/
def Fresh (w : World) (e : TypeId) (xs : List Value) (W : World) (v : Value) : Prop := W.ownsRow w.heap.size e 1 v xs.length xs ∧ Below w.heap.size w W
/-- a copy of some elements, as a slice that reads -/
theorem Fresh.rd {w W : World} {e : TypeId} {xs : List Value} {v : Value} (h : Fresh w e xs W v) : ∃ A c, v = .slice A xs.length c ∧ Rd W W.heap.size A xs.length xs ∧ W.ownsRow w.heap.size e 1 (.slice A xs.length c) xs.length xs ∧ Below w.heap.size w W ∧ xs.length ≤ c := by
  obtain ⟨A, c, rfl⟩ := own_form h.1
  refine ⟨A, c, rfl, Rd.of_own h.1, h.1, h.2, ?_⟩
  rcases h.1.2 with ⟨_, h0⟩ | ⟨g, cap, cur, hv, _, _, hn, _⟩
  · omega
  · injection hv with h1 h2 h3; omega
/-- a store into an element of a row of the call's own -/
theorem own_set {w : World} {base g n c k : Nat} {e : TypeId} {xs : List Value} (h : w.ownsRow base e 1 (.slice (some ⟨g, 0, none⟩) n c) n xs) (u : Value) :
    (w.setCell ⟨g, k, none⟩ u).ownsRow base e 1 (.slice (some ⟨g, 0, none⟩) n c) n (xs.set k u) ∧ Below base w (w.setCell ⟨g, k, none⟩ u) :=
  ⟨(h.stored k u).1, (Below.refl base w).setCell (p := ⟨g, k, none⟩) (h.lt g rfl).1 u⟩
end Go.Proofs.Ytagjecbgbpjobaa
