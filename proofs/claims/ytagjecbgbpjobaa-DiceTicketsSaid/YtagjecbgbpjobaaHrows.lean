/- Slices of byte slices that came in, row by row. No program is named here. -/
import Derived.Test.YtagjecbgbpjobaaHbase
import Derived.Deep.Matrix
namespace Go.Proofs.Ytagjecbgbpjobaa.Hb
open Go Go.RowKit

/-- a slice of slices of numbers as the reader hands it: nil, or its rows up to its capacity -/
def IsRows (k : IntKind) (w : World) (a : Option Addr) (len cap : Nat) (A : Nat → Option Addr) (L C : Nat → Nat) (Z : Nat → List Int) : Prop :=
  (a = none ∧ len = 0 ∧ cap = 0) ∨
  ∃ x, a = some x ∧ len ≤ cap ∧ cap ≤ maxLen ∧ ∀ r, r < cap → w.cell? (x.add r) = some (.slice (A r) (L r) (C r)) ∧ L r ≤ C r ∧ C r ≤ maxLen ∧ (Z r).length = C r ∧ (∀ n ∈ Z r, (Lit.int k n).wf = true) ∧ (A r = none → C r = 0) ∧
    ∀ a', A r = some a' → 0 ≤ a'.block ∧ ∀ c, c < C r → w.cell? (a'.add c) = some (.int k ((Z r).getD c 0))

/-- a slice with n rows of bytes; all that it reads lies below block B -/
def RdRows (w : World) (B : Nat) (A : Option Addr) (n : Nat) (rows : List (List UInt8)) : Prop :=
  rows.length = n ∧ (0 < n → ∃ a : Addr, A = some a ∧ a.block < B ∧ ∀ j r, rows[j]? = some r → ∃ A' c', w.cell? (a.add j) = some (.slice A' r.length c') ∧ r.length ≤ c' ∧ c' ≤ maxLen ∧ Rd w B A' r.length (r.map bv))
section
variable {w w' : World} {B B' n : Nat} {A : Option Addr} {rows : List (List UInt8)}
theorem RdRows.below (h : RdRows w B A n rows) (hb : Below B w w') : RdRows w' B A n rows :=
  ⟨h.1, fun hn => let ⟨a, e, hl, hr⟩ := h.2 hn; ⟨a, e, hl, fun j r hj => let ⟨A', c', h1, h2, h3, h4⟩ := hr j r hj; ⟨A', c', (hb.cell (by rw [add_block]; exact hl)).trans h1, h2, h3, h4.below hb⟩⟩⟩
theorem RdRows.mono (h : RdRows w B A n rows) (hB : B ≤ B') : RdRows w B' A n rows :=
  ⟨h.1, fun hn => let ⟨a, e, hl, hr⟩ := h.2 hn; ⟨a, e, by omega, fun j r hj => let ⟨A', c', h1, h2, h3, h4⟩ := hr j r hj; ⟨A', c', h1, h2, h3, h4.mono hB⟩⟩⟩
theorem RdRows.later (h : RdRows w B A n rows) (hb : Below B w w') (hB : B ≤ B') : RdRows w' B' A n rows := (h.below hb).mono hB
theorem RdRows.at (h : RdRows w B A n rows) {k : Nat} (hk : k < n) : ∃ (a : Addr) (r : List UInt8) (A' : Option Addr) (c' : Nat), A = some a ∧ a.block < B ∧ rows[k]? = some r ∧ w.cell? (a.add k) = some (.slice A' r.length c') ∧ r.length ≤ c' ∧ c' ≤ maxLen ∧ Rd w B A' r.length (r.map bv) := by
  obtain ⟨a, e, hl, hr⟩ := h.2 (by omega)
  have hl' : k < rows.length := by rw [h.1]; exact hk
  obtain ⟨A', c', h1, h2, h3, h4⟩ := hr k rows[k] (List.getElem?_eq_getElem hl')
  exact ⟨a, rows[k], A', c', e, hl, List.getElem?_eq_getElem hl', h1, h2, h3, h4⟩
end
theorem rd_rows {w : World} {a : Option Addr} {len cap : Nat} {A : Nat → Option Addr} {L C : Nat → Nat} {Z : Nat → List Int} (h : IsRows .u8 w a len cap A L C Z) :
    ∃ rows : List (List UInt8), RdRows w w.heap.size a len rows ∧ len ≤ cap ∧ cap ≤ maxLen := by
  rcases h with ⟨rfl, rfl, rfl⟩ | ⟨x, rfl, hl, hm, hr⟩
  · exact ⟨[], ⟨rfl, fun h => absurd h (by omega)⟩, Nat.le_refl _, Nat.zero_le _⟩
  · have each : ∀ r, r < len → ∃ bs : List UInt8, bs.length = L r ∧ Rd w w.heap.size (A r) (L r) (bs.map bv) := fun r hrl => by
      obtain ⟨_, h2, h3, h4, h5, h6, h7⟩ := hr r (by omega)
      have hrow : (A r = none ∧ L r = 0 ∧ C r = 0 ∧ Z r = []) ∨ ∃ x, A r = some x ∧ L r ≤ C r ∧ C r ≤ maxLen ∧ (Z r).length = C r ∧ (∀ i, i < (Z r).length → w.cell? (x.add i) = some (.int .u8 ((Z r).getD i 0))) ∧ ∀ n ∈ Z r, (Lit.int .u8 n).wf = true := by
        cases hA : A r with
        | none => have := h6 hA; exact .inl ⟨rfl, by omega, this, List.eq_nil_of_length_eq_zero (by omega)⟩
        | some x' => exact .inr ⟨x', rfl, h2, h3, h4, fun i hi => (h7 x' hA).2 i (by omega), h5⟩
      obtain ⟨bs, hb, _⟩ := rd_bytes hrow
      exact ⟨bs, by simpa using hb.1, hb⟩
    obtain ⟨f, hf⟩ := Go.Deep.choose_lt each
    refine ⟨(List.range len).map f, ⟨by simp, fun hn => ⟨x, rfl, ?_, fun j r hj => ?_⟩⟩, hl, hm⟩
    · have := cell_lt (hr 0 (by omega)).1
      rwa [add_block] at this
    · rw [List.getElem?_map] at hj
      have hjl : j < len := by
        rcases Nat.lt_or_ge j len with h | h
        · exact h
        · rw [List.getElem?_eq_none (by simpa using h)] at hj; cases hj
      rw [List.getElem?_range hjl] at hj
      simp only [Option.map_some, Option.some.injEq] at hj
      subst hj
      obtain ⟨e1, e2⟩ := hf j hjl
      obtain ⟨h1, h2, h3, _⟩ := hr j (by omega)
      rw [e1]
      exact ⟨A j, C j, h1, h2, h3, e2⟩
end Go.Proofs.Ytagjecbgbpjobaa.Hb
