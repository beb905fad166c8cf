/- Raw, Text and Ints of a Reader, and a new reader. -/
import Derived.Test.YtagjecbgbpjobaaWrd3
import Derived.Test.YtagjecbgbpjobaaWconv
import Derived.Test.YtagjecbgbpjobaaWwr
namespace Go.Proofs.Ytagjecbgbpjobaa
open Go.RowKit Hb Wm

set_option maxRecDepth 100000 in
set_option maxHeartbeats 1000000 in
theorem r_raw (p : Nat) (Q : Nat → Prop) (s : St) (hlen : s.2.length ≤ 1000000) (w : World) (h : Rr w p Q s) :
    Calls Try.prog 46 #[.pointer (some ⟨p, 0, none⟩)] w fun x W =>
      ∃ v, x = .returned v ∧ W.ownsRow w.heap.size 5 1 v (rR s).1.length ((rR s).1.map bv) ∧ Rr W p Q (rR s).2 ∧ w.grownBy W (some p) := by
  go_enter Try.func46, Try.ntmps46
  go_wp2_with fail
  refine (r_list_b p Q s hlen w h).mono ?_
  rintro e W ⟨v, rfl, ho, hR, hG⟩
  go_wp2_with fail
  go_ret
  exact ⟨v, rfl, ho, hR, hG⟩
/-- where the data of a reader lies that has been made between lo and its own block -/
def Between (lo p : Nat) : Nat → Prop := fun k => lo ≤ k ∧ k < p
set_option maxRecDepth 100000 in
set_option maxHeartbeats 1000000 in
theorem r_read (A : Option Addr) (m c : Nat) (bs : List UInt8) (hm : m ≤ 100000000) (hmc : m ≤ c) (w : World) (hr : Rd w w.heap.size A m (bs.map bv)) :
    Calls Try.prog 44 #[.slice A m c] w fun x W => ∃ p, x = .returned (.pointer (some ⟨p, 0, none⟩)) ∧ w.heap.size ≤ p ∧ Rr W p (Between w.heap.size p) (0, bs) ∧ Below w.heap.size w W := by
  go_enter Try.func44, Try.ntmps44
  go_wp2_with fail
  refine (clone_any A m c bs hm hmc w hr).mono ?_
  rintro e W ⟨A', c', rfl, ho, hB⟩
  go_wp2_with fail
  go_ret
  have hz := hB.size
  refine ⟨_, rfl, hz, ⟨fun k hk => ?_, fun h => absurd rfl h, A', m, c', Box2.new W _ _ _, ?_, own_le ho, own_cap ho⟩, hB.alloc hz _⟩
  · unfold Between at hk; simp; omega
  · exact (Rq.of_own ho).below ((Below.refl W.heap.size W).alloc (Nat.le_refl _) _) (fun k hk => hk.2)
end Go.Proofs.Ytagjecbgbpjobaa
