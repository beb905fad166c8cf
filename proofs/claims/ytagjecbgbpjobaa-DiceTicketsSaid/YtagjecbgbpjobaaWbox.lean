/- Words for a box of two cells behind a pointer (a struct of a slice and a number), and for slices that lie in given blocks. -/
import Derived.Test.YtagjecbgbpjobaaHinfo
namespace Go.Proofs.Ytagjecbgbpjobaa.Hb
open Go Go.RowKit

def Box2 (W : World) (p : Nat) (t : TypeId) (v0 v1 : Value) : Prop := W.heap[p]? = some (.cells #[v0, v1] t (0, 0))
section
variable {W W' : World} {p : Nat} {t : TypeId} {v0 v1 : Value}
theorem Box2.lt (h : Box2 W p t v0 v1) : p < W.heap.size := (Array.getElem?_eq_some_iff.1 h).1
theorem Box2.cell0 (h : Box2 W p t v0 v1) : W.cell? ⟨p, 0, none⟩ = some v0 := by simp [World.cell?, show W.heap[p]? = _ from h]
theorem Box2.cell1 (h : Box2 W p t v0 v1) : W.cell? ⟨p, 1, none⟩ = some v1 := by simp [World.cell?, show W.heap[p]? = _ from h]
theorem Box2.fz0 (h : Box2 W p t v0 v1) : W.frozen? ⟨p, 0, none⟩ = false := by simp [World.frozen?, show W.heap[p]? = _ from h]
theorem Box2.fz1 (h : Box2 W p t v0 v1) : W.frozen? ⟨p, 1, none⟩ = false := by simp [World.frozen?, show W.heap[p]? = _ from h]
theorem Box2.new (W : World) (t : TypeId) (v0 v1 : Value) : Box2 (W.alloc (.cells #[v0, v1] t)) W.heap.size t v0 v1 := World.alloc_heap_new W _
theorem Box2.kept {row : Option Nat} (h : Box2 W p t v0 v1) (hg : W.grownBy W' row) (hne : some p ≠ row) : Box2 W' p t v0 v1 := (hg.block p h.lt hne).trans h
theorem Box2.alloc (h : Box2 W p t v0 v1) (o : Obj) : Box2 (W.alloc o) p t v0 v1 := h.kept (World.grownBy_alloc W o none) (by simp)
theorem Box2.below {B : Nat} (h : Box2 W p t v0 v1) (hB : Below B W W') (hp : p < B) : Box2 W' p t v0 v1 := (hB.block p hp).trans h
theorem Box2.set0 (h : Box2 W p t v0 v1) (u : Value) : Box2 (W.setCell ⟨p, 0, none⟩ u) p t u v1 := by
  have hlt := h.lt
  have hk : W.heap[p] = .cells #[v0, v1] t (0, 0) := (Array.getElem?_eq_some_iff.1 h).2
  show (W.heap.modify p _)[p]? = _
  rw [Array.getElem?_eq_getElem (by rw [Array.size_modify]; exact hlt), Array.getElem_modify_self, hk]
  rfl
theorem Box2.set1 (h : Box2 W p t v0 v1) (u : Value) : Box2 (W.setCell ⟨p, 1, none⟩ u) p t v0 u := by
  have hlt := h.lt
  have hk : W.heap[p] = .cells #[v0, v1] t (0, 0) := (Array.getElem?_eq_some_iff.1 h).2
  show (W.heap.modify p _)[p]? = _
  rw [Array.getElem?_eq_getElem (by rw [Array.size_modify]; exact hlt), Array.getElem_modify_self, hk]
  rfl
end
theorem grown_set (W : World) (b o : Nat) (v : Value) : W.grownBy (W.setCell ⟨b, o, none⟩ v) (some b) :=
  ⟨rfl, rfl, rfl, by simp [World.setCell], fun k _ hk => Below.heap_setCell _ _ _ k (fun e => hk (by rw [e]))⟩
theorem grown_refl (W : World) (r : Option Nat) : W.grownBy W r := ⟨rfl, rfl, rfl, Nat.le_refl _, fun _ _ _ => rfl⟩
theorem grown_trans {a b c : World} {r : Option Nat} (h : a.grownBy b r) (k : b.grownBy c r) : a.grownBy c r :=
  ⟨k.os.trans h.os, k.tape.trans h.tape, k.output.trans h.output, Nat.le_trans h.size k.size, fun i hi hr => (k.block i (Nat.lt_of_lt_of_le hi h.size) hr).trans (h.block i hi hr)⟩
theorem grown_fresh {a b c : World} {r : Option Nat} {g : Nat} (h : a.grownBy b r) (k : b.grownBy c (some g)) (hg : a.heap.size ≤ g) : a.grownBy c r :=
  ⟨k.os.trans h.os, k.tape.trans h.tape, k.output.trans h.output, Nat.le_trans h.size k.size, fun i hi hr => (k.block i (Nat.lt_of_lt_of_le hi h.size) (fun e => by cases e; omega)).trans (h.block i hi hr)⟩
theorem grown_of_below {w W : World} (h : Below w.heap.size w W) (r : Option Nat) : w.grownBy W r := ⟨h.os, h.tape, h.output, h.size, fun k hk _ => h.block k hk⟩
theorem below_of_grown {w W : World} {p B : Nat} (h : w.grownBy W (some p)) (hB : B ≤ w.heap.size) (hp : B ≤ p) : Below B w W :=
  (Below.refl B w).grown h hB fun k hk => by cases hk; exact hp

/-- A slice that reads xs out of a block of which Q holds. -/
def Rq (w : World) (Q : Nat → Prop) (A : Option Addr) (n : Nat) (xs : List Value) : Prop :=
  xs.length = n ∧ (0 < n → ∃ a : Addr, A = some a ∧ Q a.block ∧ ∀ j u, xs[j]? = some u → w.cell? (a.add j) = some u)
section
variable {w w' : World} {Q : Nat → Prop} {n : Nat} {A : Option Addr} {xs : List Value}
theorem Rq.nil (w : World) (Q : Nat → Prop) (A : Option Addr) : Rq w Q A 0 [] := ⟨rfl, fun h => absurd h (by omega)⟩
theorem Rq.grown {p : Nat} (h : Rq w Q A n xs) (hg : w.grownBy w' (some p)) (hQ : ∀ k, Q k → k < w.heap.size ∧ k ≠ p) : Rq w' Q A n xs :=
  ⟨h.1, fun hn => let ⟨a, e, hb, hc⟩ := h.2 hn; ⟨a, e, hb, fun j u hu => (World.cell?_of_block (by rw [add_block]; exact hg.block _ (hQ _ hb).1 (fun he => (hQ _ hb).2 (by cases he; rfl)))).trans (hc j u hu)⟩⟩
theorem Rq.below {B : Nat} (h : Rq w Q A n xs) (hb : Below B w w') (hQ : ∀ k, Q k → k < B) : Rq w' Q A n xs :=
  ⟨h.1, fun hn => let ⟨a, e, hb', hc⟩ := h.2 hn; ⟨a, e, hb', fun j u hu => (hb.cell (by rw [add_block]; exact hQ _ hb')).trans (hc j u hu)⟩⟩
theorem Rq.rd {B : Nat} (h : Rq w Q A n xs) (hQ : ∀ k, Q k → k < B) : Rd w B A n xs :=
  ⟨h.1, fun hn => let ⟨a, e, hb, hc⟩ := h.2 hn; ⟨a, e, hQ _ hb, hc⟩⟩
theorem Rq.of_rd {B : Nat} (h : Rd w B A n xs) : Rq w (· < B) A n xs := h
theorem Rq.imp {Q' : Nat → Prop} (h : Rq w Q A n xs) (hQ : ∀ k, Q k → Q' k) : Rq w Q' A n xs :=
  ⟨h.1, fun hn => let ⟨a, e, hb, hc⟩ := h.2 hn; ⟨a, e, hQ _ hb, hc⟩⟩
theorem Rq.of_own {base : Nat} {e : TypeId} {c : Nat} (h : w.ownsRow base e 1 (.slice A n c) n xs) : Rq w (fun k => base ≤ k ∧ k < w.heap.size) A n xs := by
  have hr := Rd.of_own h
  have hlt := h.lt
  refine ⟨hr.1, fun hn => ?_⟩
  obtain ⟨a, rfl, hb, hc⟩ := hr.2 hn
  exact ⟨a, rfl, ⟨(hlt a.block rfl).1, hb⟩, hc⟩
theorem Rq.tail {x : Value} (h : Rq w Q A n (x :: xs)) (A' : Option Addr) (hA : A' = A.map (·.add 1) ∨ n = 1) : Rq w Q A' (n - 1) xs := by
  have hl := h.1
  simp at hl
  refine ⟨by omega, fun hn => ?_⟩
  obtain ⟨a, rfl, hb, hc⟩ := h.2 (by omega)
  rcases hA with rfl | h1
  · refine ⟨a.add 1, rfl, by rw [add_block]; exact hb, fun j u hu => ?_⟩
    rw [add_add, Nat.add_comm]
    exact hc (j + 1) u (by simpa using hu)
  · omega
theorem Rq.head {x : Value} (h : Rq w Q A n (x :: xs)) : ∃ a, A = some a ∧ w.cell? a = some x := by
  have hl := h.1
  simp at hl
  obtain ⟨a, rfl, _, hc⟩ := h.2 (by omega)
  have := hc 0 x rfl
  have e : a.add 0 = a := by simp [Addr.add]
  rw [e] at this
  exact ⟨a, rfl, this⟩
end
end Go.Proofs.Ytagjecbgbpjobaa.Hb
