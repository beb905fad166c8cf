/- A string out of bytes that a slice reads, wherever it lies. No program is named here. -/
import Derived.Test.YtagjecbgbpjobaaHbase
import Derived.Laws.BytesArg
import Derived.Lib.BufferRead
namespace Go.Proofs.Ytagjecbgbpjobaa.Hb
open Go Go.RowKit

theorem conv_rd {P : Program} (w : World) (src e : TypeId) (hs : P.underlying src = some (.slice e)) (he : P.underlying e = some (.int .u8)) (dst : TypeId) (hd : P.underlying dst = some .string) (A : Option Addr) (n c : Nat) (bs : List UInt8) (B : Nat) (hr : Rd w B A n (bs.map bv)) :
    (convert src dst (.slice A n c)).run P w = .ok (.string ⟨bs.toArray⟩) w := by
  have hl : bs.length = n := by simpa using hr.1
  cases A with
  | none =>
    have h0 : n = 0 := by
      by_cases h : 0 < n
      · obtain ⟨a, ha, _⟩ := hr.2 h; cases ha
      · omega
    subst h0
    have hb : bs = [] := List.eq_nil_of_length_eq_zero hl
    subst hb
    exact Lib.run_convert_nil_bytes w src dst e c hs he hd
  | some a =>
    have hload : (loadCells a n).run P w = .ok ((bs.map fun b => (b.toNat : Int)).map (Value.int .u8)).toArray w := by
      have := run_loadCells_list (P := P) w a (bs.map bv) (fun j v hj => by
        have hjl : j < n := by have := (List.getElem?_eq_some_iff.1 hj).1; simp at this; omega
        obtain ⟨a', ha, _, hc⟩ := hr.2 (by omega)
        cases ha
        exact hc j v hj)
      rw [List.map_map]
      rw [List.length_map, hl] at this
      exact this
    rw [run_convert_bytes_string w src dst e _ n c hs he hd, run_bytesToString w _ n c _ hload, foldl_push_bytes]
    congr 2
    rw [List.map_map]
    have e2 : bs.map ((fun n : Int => UInt8.ofNat n.toNat) ∘ fun b : UInt8 => (b.toNat : Int)) = bs := by
      conv => rhs; rw [← List.map_id bs]
      apply List.map_congr_left
      intro b _
      simp
    rw [e2]
    simp [ByteArray.empty, ByteArray.emptyWithCapacity]
    try rfl
end Go.Proofs.Ytagjecbgbpjobaa.Hb
