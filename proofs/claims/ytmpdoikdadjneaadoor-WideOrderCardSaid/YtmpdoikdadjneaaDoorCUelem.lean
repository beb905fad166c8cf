/- Elements of a slice of integers of the reference. -/
import Derived.Test.YtmpdoikdadjneaaDoorCJ
namespace Go.Proofs.YtmpdoikdadjneaaDoor
open Go.RowKit Go.Shelf Hb Vm Ds Vr

/-- element k of the row at block g is an integer of the reference -/
def NE (W : World) (g k : Nat) (s : Bool) (A : Option Addr) (n c : Nat) (z : Int) : Prop := g < W.heap.size ∧ W.cell? ⟨g, k * 2, none⟩ = some (.bool s) ∧ W.cell? ⟨g, k * 2 + 1, none⟩ = some (.slice A n c) ∧ Ni W W.heap.size (.agg #[.bool s, .slice A n c]) z
theorem NE.later {W W' : World} {g k : Nat} {s : Bool} {A : Option Addr} {n c : Nat} {z : Int} (h : NE W g k s A n c z) (hb : Below W.heap.size W W') : NE W' g k s A n c z :=
  ⟨Nat.lt_of_lt_of_le h.1 hb.size, (hb.cell h.1).trans h.2.1, (hb.cell h.1).trans h.2.2.1, h.2.2.2.later hb hb.size⟩
theorem NE.of_row {W : World} {g k : Nat} {t : TypeId} {vs : List Value} {s : Bool} {A : Option Addr} {n c : Nat} {z : Int} (h : Row W g t vs) (h0 : vs[k * 2]? = some (.bool s)) (h1 : vs[k * 2 + 1]? = some (.slice A n c)) (hz : Ni W W.heap.size (.agg #[.bool s, .slice A n c]) z) : NE W g k s A n c z :=
  ⟨h.lt, h.cell _ _ h0, h.cell _ _ h1, hz⟩
end Go.Proofs.YtmpdoikdadjneaaDoor
