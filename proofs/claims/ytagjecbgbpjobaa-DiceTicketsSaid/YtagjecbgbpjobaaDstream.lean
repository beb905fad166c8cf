/- What a stream is, and what New, Word, At and Seek answer. -/
import Derived.Test.YtagjecbgbpjobaaDmath
import Derived.Test.YtagjecbgbpjobaaDseq
import Derived.Test.YtagjecbgbpjobaaHbytes
import Derived.Test.YtagjecbgbpjobaaHquiet
namespace Go.Proofs.Ytagjecbgbpjobaa
open Go.RowKit Go.Shelf Hm Hb Dm Ds

/-- the function value of a stream -/
def strm (b : Nat) : Value := .func (.func 72) #[] #[.pointer (some ⟨b, 0, none⟩)]
/-- the number that a stream keeps -/
def hashI (ls bs : List UInt8) : Int := wrap64 (bytesM ls bs)

set_option maxRecDepth 100000 in
set_option maxHeartbeats 1000000 in
theorem stream_any (s : ByteArray) (hs : s.size ≤ 140737488351232) (A : Option Addr) (m c : Nat) (bs : List UInt8) (hm : m ≤ 140737488351232) (hmc : m ≤ c) (w : World) (hr : Rd w w.heap.size A m (bs.map bv)) :
    Calls Try.prog 56 #[.slice A m c, .string s] w fun e W' => ∃ b, e = .returned (strm b) ∧ w.heap.size ≤ b ∧ Boxed W' b 3 (.int .i64 (hashI s.data.toList bs)) ∧ Below w.heap.size w W' := by
  go_enter Try.func56, Try.ntmps56
  go_wp2_with fail
  refine (bytes_any s hs A m c bs hm hmc w hr).mono ?_
  rintro e W1 ⟨rfl, hB⟩
  have s1 := hB.size
  have bx := Boxed.new W1 3 (.int .i64 (hashI s.data.toList bs))
  obtain ⟨v, hv⟩ : ∃ v, v = bytesM s.data.toList bs := ⟨_, rfl⟩
  have HV := Lib.hid hv
  rw [← hv]
  clear hv
  go_wp2_with fail
  go_ret
  rw [HV.out]
  exact ⟨_, rfl, s1, bx, hB.alloc s1 _⟩

set_option maxRecDepth 100000 in
set_option maxHeartbeats 1000000 in
theorem word_any (h p : Int) (b : Nat) (w : World) (hb : Boxed w b 3 (.int .i64 h)) :
    Calls Try.prog 72 #[.int .i64 p, .pointer (some ⟨b, 0, none⟩)] w fun e W' => e = .returned (.int .u64 (wordI h p)) ∧ Below w.heap.size w W' := by
  have hc := hb.cell
  have bx := (boxed_rds w [iv h, iv p] 3).mono (B' := (w.alloc (.cells #[.int .i64 h, .int .i64 p] 3)).heap.size) (by simp)
  go_enter Try.func72, Try.ntmps72
  go_wp2_with fail
  refine (sum_any _ (by decide) _ 2 _ [h, p] (by omega) _ bx).mono ?_
  rintro e W1 ⟨rfl, hB⟩
  go_wp2_with fail
  go_ret
  exact ⟨rfl, ((Below.refl _ w).alloc (Nat.le_refl _) _).trans (hB.mono (by simp))⟩

set_option maxRecDepth 100000 in
set_option maxHeartbeats 1000000 in
/-- a word of a stream, asked for by the seed and the label -/
theorem wordAt_any (s : ByteArray) (hs : s.size ≤ 140737488351232) (A : Option Addr) (m c : Nat) (bs : List UInt8) (hm : m ≤ 140737488351232) (hmc : m ≤ c) (p : Int) (w : World) (hr : Rd w w.heap.size A m (bs.map bv)) :
    Calls Try.prog 22 #[.slice A m c, .string s, .int .i64 p] w fun e W' => e = .returned (.int .u64 (wordI (hashI s.data.toList bs) p)) ∧ Below w.heap.size w W' := by
  go_enter Try.func22, Try.ntmps22
  go_wp2_with fail
  refine (stream_any s hs A m c bs hm hmc w hr).mono ?_
  rintro e W1 ⟨b, rfl, hb, bx, hB⟩
  have h := word_any (hashI s.data.toList bs) p b W1 bx
  unfold strm
  go_wp2_with fail
  refine h.mono ?_
  rintro e W2 ⟨rfl, hB2⟩
  clear h
  go_wp2_with fail
  go_ret
  exact ⟨rfl, hB.trans (hB2.mono hB.size)⟩

/-- a die of the project: its block, the block of its stream's number, that number, its position -/
def Die (W : World) (p b : Nat) (h q : Int) : Prop := b < p ∧ W.heap[p]? = some (.cells #[strm b, .int .i64 q] 81 (0, 0)) ∧ Boxed W b 3 (.int .i64 h)
theorem Die.lt {W : World} {p b : Nat} {h q : Int} (d : Die W p b h q) : p < W.heap.size := (Array.getElem?_eq_some_iff.1 d.2.1).1
theorem Die.kept {W W' : World} {p b : Nat} {h q : Int} (d : Die W p b h q) (hp : W'.heap[p]? = W.heap[p]?) (hb : W'.heap[b]? = W.heap[b]?) : Die W' p b h q := ⟨d.1, hp.trans d.2.1, hb.trans d.2.2⟩
theorem Die.below {W W' : World} {p b B : Nat} {h q : Int} (d : Die W p b h q) (k : Below B W W') (hB : p < B) : Die W' p b h q := d.kept (k.block p hB) (k.block b (by have := d.1; omega))
theorem Die.but {W W' : World} {p b B r : Nat} {h q : Int} (d : Die W p b h q) (k : But B r W W') (hB : p < B) (hp : p ≠ r) (hb : b ≠ r) : Die W' p b h q := d.kept (k.block hB hp) (k.block (by have := d.1; omega) hb)
theorem Die.word {W : World} {p b : Nat} {h q : Int} (d : Die W p b h q) : W.cell? ⟨p, 0, none⟩ = some (strm b) := by simp [World.cell?, d.2.1]
theorem Die.at {W : World} {p b : Nat} {h q : Int} (d : Die W p b h q) : W.cell? ⟨p, 1, none⟩ = some (.int .i64 q) := by simp [World.cell?, d.2.1]
theorem Die.frozen {W : World} {p b : Nat} {h q : Int} (d : Die W p b h q) (k : Nat) : W.frozen? ⟨p, k, none⟩ = false := by simp [World.frozen?, d.2.1]
theorem Die.seek {W : World} {p b : Nat} {h q : Int} (d : Die W p b h q) (q' : Int) : Die (W.setCell ⟨p, 1, none⟩ (.int .i64 q')) p b h q' := by
  obtain ⟨h1, h2, h3⟩ := d
  obtain ⟨hlt, h2'⟩ := Array.getElem?_eq_some_iff.1 h2
  refine ⟨h1, ?_, (Below.heap_setCell _ _ _ _ (by show b ≠ p; omega)).trans h3⟩
  simp [World.setCell, Array.getElem?_modify, h2]

set_option maxRecDepth 100000 in
set_option maxHeartbeats 1000000 in
theorem new_any (s : ByteArray) (hs : s.size ≤ 140737488351232) (A : Option Addr) (m c : Nat) (bs : List UInt8) (hm : m ≤ 140737488351232) (hmc : m ≤ c) (w : World) (hr : Rd w w.heap.size A m (bs.map bv)) :
    Calls Try.prog 26 #[.slice A m c, .string s] w fun e W' => ∃ p b, e = .returned (.pointer (some ⟨p, 0, none⟩)) ∧ w.heap.size ≤ b ∧ W'.heap.size = p + 1 ∧ Die W' p b (hashI s.data.toList bs) 0 ∧ Below w.heap.size w W' := by
  go_enter Try.func26, Try.ntmps26
  go_wp2_with fail
  refine (stream_any s hs A m c bs hm hmc w hr).mono ?_
  rintro e W1 ⟨b, rfl, hb, bx, hB⟩
  have s1 := hB.size
  unfold strm
  go_wp2_with fail
  go_ret
  exact ⟨_, _, rfl, hb, by simp, ⟨bx.lt, World.alloc_heap_new _ _, bx.alloc _⟩, hB.alloc s1 _⟩

theorem at_any {p b : Nat} {h q : Int} (w : World) (d : Die w p b h q) :
    Calls Try.prog 38 #[.pointer (some ⟨p, 0, none⟩)] w fun e W' => e = .returned (.int .i64 q) ∧ w = W' := by
  have c1 := d.at
  go_enter Try.func38, Try.ntmps38
  go_wp2
  go_ret
  exact ⟨rfl, rfl⟩
theorem seek_any {p b : Nat} {h q : Int} (q' : Int) (w : World) (d : Die w p b h q) :
    Calls Try.prog 37 #[.pointer (some ⟨p, 0, none⟩), .int .i64 q'] w fun e W' => (∃ v, e = .returned v) ∧ Die W' p b h q' ∧ But w.heap.size p w W' := by
  have c1 := d.at
  have f1 := d.frozen 1
  have d2 := d.seek q'
  go_enter Try.func37, Try.ntmps37
  go_wp2
  go_end0
  exact ⟨⟨_, rfl⟩, d2, But.setCell _ _ _ _ _⟩
end Go.Proofs.Ytagjecbgbpjobaa
