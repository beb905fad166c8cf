/- Rows of bytes that the call has made, gathered in a slice of its own. -/
import Derived.Test.YtagjecbgbpjobaaDjoin
import Derived.Test.YtagjecbgbpjobaaHreft
namespace Go.Proofs.Ytagjecbgbpjobaa
open Go.RowKit Go.Shelf Hm Hb Dm Ds

/-- rows of different elements are different blocks -/
theorem own_apart {w : World} {b1 b2 : Nat} {e1 e2 : TypeId} {s1 s2 n1 n2 : Nat} {v1 v2 : Value} {xs1 xs2 : List Value} (h1 : w.ownsRow b1 e1 s1 v1 n1 xs1) (h2 : w.ownsRow b2 e2 s2 v2 n2 xs2) (hne : e1 ≠ e2) : v1.ownBlock = none ∨ v1.ownBlock ≠ v2.ownBlock := by
  rcases h1.2 with ⟨rfl, _⟩ | ⟨g1, c1, u1, rfl, _, hh1, _⟩
  · exact .inl rfl
  · refine .inr fun e => ?_
    rcases h2.2 with ⟨rfl, _⟩ | ⟨g2, c2, u2, rfl, _, hh2, _⟩
    · simp [Value.ownBlock] at e
    · simp only [Value.ownBlock, Option.some.injEq] at e
      subst e
      rw [hh1] at hh2
      injection hh2 with hh2
      injection hh2 with _ h _
      exact hne h
def RowsO (w : World) (base : Nat) (vs : List Value) (rows : List (List UInt8)) : Prop :=
  vs.length = rows.length ∧ ∀ (j : Nat) r, rows[j]? = some r → ∃ A c, vs[j]? = some (.slice A r.length c) ∧ w.ownsRow base 5 1 (.slice A r.length c) r.length (r.map bv)
theorem RowsO.nil (w : World) (B : Nat) : RowsO w B [] [] := ⟨rfl, fun j r h => by simp at h⟩
theorem RowsO.below {w w' : World} {base : Nat} {vs : List Value} {rows : List (List UInt8)} (h : RowsO w base vs rows) (hb : Below w.heap.size w w') : RowsO w' base vs rows :=
  ⟨h.1, fun j r hj => let ⟨A, c, h1, h2⟩ := h.2 j r hj; ⟨A, c, h1, own_below h2 hb (Nat.le_refl _)⟩⟩
/-- an append to a slice of rows turns none of them -/
theorem RowsO.grown {w w' : World} {base b2 n2 : Nat} {vs xs2 : List Value} {v2 : Value} {rows : List (List UInt8)} (h : RowsO w base vs rows) (h2 : w.ownsRow b2 22 1 v2 n2 xs2) (hg : w.grownBy w' v2.ownBlock) : RowsO w' base vs rows :=
  ⟨h.1, fun j r hj => let ⟨A, c, g1, g2⟩ := h.2 j r hj; ⟨A, c, g1, g2.kept hg (own_apart g2 h2 (by decide))⟩⟩
theorem RowsO.push {w : World} {base : Nat} {vs : List Value} {rows : List (List UInt8)} (h : RowsO w base vs rows) (r : List UInt8) (A : Option Addr) (c : Nat) (h3 : w.ownsRow base 5 1 (.slice A r.length c) r.length (r.map bv)) : RowsO w base (vs ++ [.slice A r.length c]) (rows ++ [r]) := by
  refine ⟨by simp [h.1], fun j q hj => ?_⟩
  by_cases hlt : j < rows.length
  · rw [List.getElem?_append_left hlt] at hj
    obtain ⟨A', c', e1, e2⟩ := h.2 j q hj
    exact ⟨A', c', by rw [List.getElem?_append_left (by rw [h.1]; exact hlt)]; exact e1, e2⟩
  · rw [List.getElem?_append_right (by omega)] at hj
    have hj0 : j - rows.length = 0 := by
      rcases Nat.eq_zero_or_pos (j - rows.length) with h0 | h0
      · exact h0
      · rw [List.getElem?_eq_none (by simp; omega)] at hj; cases hj
    rw [hj0] at hj
    simp only [List.getElem?_cons_zero, Option.some.injEq] at hj
    subst hj
    exact ⟨A, c, by rw [List.getElem?_append_right (by rw [h.1]; omega), h.1, hj0]; rfl, h3⟩
theorem RowsO.one {vs : List Value} {w : World} {B : Nat} {rows : List (List UInt8)} (h : RowsO w B vs rows) : ∀ u ∈ vs, u.oneCell' = true := by
  intro u hu
  obtain ⟨j, hj, rfl⟩ := List.mem_iff_getElem.1 hu
  obtain ⟨A, c, h1, _⟩ := h.2 j (rows[j]'(by rw [← h.1]; exact hj)) (List.getElem?_eq_getElem _)
  rw [List.getElem?_eq_getElem hj] at h1
  injection h1 with h1
  rw [h1]
  rfl
theorem RowsO.rd {w : World} {base : Nat} {vs : List Value} {rows : List (List UInt8)} (h : RowsO w base vs rows) : RowsAt w w.heap.size vs rows :=
  ⟨h.1, fun j r hj => let ⟨A, c, h1, h2⟩ := h.2 j r hj; ⟨A, c, h1, own_le h2, own_cap h2, by have := Rd.of_own h2; exact this⟩⟩

theorem byte_of {a : Int} (h : (Lit.int .u8 a).wf = true) : ∃ q : UInt8, a = (q.toNat : Int) := by
  have hb := bounds_u8 h
  refine ⟨UInt8.ofNat a.toNat, ?_⟩
  simp only [UInt8.toNat_ofNat']
  omega
theorem ofInt_u8 (n : UInt8) : BitVec.ofInt 8 (n.toNat : Int) = n.toBitVec := by
  apply BitVec.eq_of_toNat_eq
  simp
theorem wrap_u8 (n : UInt8) : IntKind.u8.wrap (n.toNat : Int) = (n.toNat : Int) := by
  have := n.toNat_lt
  simp only [IntKind.wrap, IntKind.signed, IntKind.bits]
  simp
  omega
theorem xor_u8 (a b : UInt8) : bits .xor .u8 (a.toNat : Int) (b.toNat : Int) = ((a ^^^ b).toNat : Int) := by
  show IntKind.u8.wrap (((BitVec.ofInt 8 (a.toNat : Int) ^^^ BitVec.ofInt 8 (b.toNat : Int)).toNat : Nat) : Int) = _
  rw [ofInt_u8, ofInt_u8, ← UInt8.toBitVec_xor]
  exact wrap_u8 _
theorem xor_same (x q : UInt8) (h : x ^^^ q = x) : q = 0 := by
  have : x ^^^ (x ^^^ q) = x ^^^ x := by rw [h]
  rwa [← UInt8.xor_assoc, UInt8.xor_self, UInt8.zero_xor] at this
/-- a seed with one byte changed does not open the commitment -/
theorem commit_one (bs : List UInt8) (k : Nat) (hk : k < bs.length) (q : UInt8) : (commitI bs == commitI (bs.set k (bs[k] ^^^ q))) = ((q.toNat : Int) == 0) := by
  have h := bytes_group [115, 101, 101, 100] bs (bs.set k (bs[k] ^^^ q)) (by simp) (k / 8) (fun i hi => by rw [List.getElem?_set_ne (by rintro rfl; exact hi rfl)])
  by_cases hq : q = 0
  · subst hq
    have e : bs[k] ^^^ 0 = bs[k] := UInt8.xor_zero
    rw [e, List.set_getElem_self]
    simp
  · have h1 : (commitI bs == commitI (bs.set k (bs[k] ^^^ q))) = false := beq_eq_false_iff_ne.2 fun e => by
      have e2 := h.1 e
      have e3 : bs[k]? = (bs.set k (bs[k] ^^^ q))[k]? := by rw [← e2]
      rw [List.getElem?_set_self hk, List.getElem?_eq_getElem hk] at e3
      injection e3 with e3
      exact hq (xor_same _ _ e3.symm)
    have h2 : ((q.toNat : Int) == 0) = false := beq_eq_false_iff_ne.2 fun e => hq (UInt8.toNat_inj.1 (by simpa using e))
    rw [h1, h2]
end Go.Proofs.Ytagjecbgbpjobaa
