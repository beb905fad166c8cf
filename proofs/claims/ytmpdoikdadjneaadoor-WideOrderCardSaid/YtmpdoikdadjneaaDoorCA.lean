/- Words for memory that the proofs of this seat share: what a slice of one-cell elements reads, what an append to a slice of the call's own leaves, what stays. No program is named here. -/
import Derived.WalkKit
import Derived.ProofKit
import Derived.Below
import Derived.OwnWalk
import Derived.Laws.OwnMore
import Derived.Laws.Rows
import Derived.Maps.AppendAt
import Derived.RangeFuncBox
import Derived.RangeFuncNested
import Derived.Lib.Hide
import Derived.OpenShut
import Derived.Lib.ConvBytes
import Derived.Test.YtmpdoikdadjneaaDoorRows
import Derived.KernelRfl
import Derived.Deep.QuietTactic
import Derived.BigQuiet
import Derived.WalkSmall
import Derived.Lib.Strings
import Derived.RangeFuncBound
import Derived.RangeFuncCalls
import Derived.RangeFuncLeaves
import Derived.Laws.Bits64b
namespace Go.Proofs.YtmpdoikdadjneaaDoor.Hb
open Go Go.RowKit

theorem ret_u64 {a b : Int} (h : a = b) : Ending.returned (.int .u64 a) = .returned (.int .u64 b) := by rw [h]
theorem ret_int {k : IntKind} {a b : Int} (h : a = b) : Ending.returned (.int k a) = .returned (.int k b) := by rw [h]
theorem ret_bool {a b : Bool} (h : a = b) : Ending.returned (.bool a) = .returned (.bool b) := by rw [h]
theorem add_block (a : Addr) (n : Nat) : (a.add n).block = a.block := by unfold Addr.add; split <;> rfl
theorem add_plain (b o j : Nat) : (⟨b, o, none⟩ : Addr).add j = ⟨b, o + j, none⟩ := by
  unfold Addr.add; split <;> simp_all

def iv (n : Int) : Value := .int .i64 n
def uv (n : Int) : Value := .int .u64 n
def bv (b : UInt8) : Value := .int .u8 (b.toNat : Int)
theorem iv_one (n : Int) : (iv n).oneCell' = true := rfl
theorem uv_one (n : Int) : (uv n).oneCell' = true := rfl
theorem bv_one (n : UInt8) : (bv n).oneCell' = true := rfl
theorem map_one {α : Type} (f : α → Value) (hf : ∀ x, (f x).oneCell' = true) (l : List α) : ∀ u ∈ l.map f, u.oneCell' = true := by
  intro u hu
  obtain ⟨x, _, rfl⟩ := List.mem_map.1 hu
  exact hf x

/-- A slice with address A and n elements of one cell each reads xs; what it reads lies below block B. -/
def Rd (w : World) (B : Nat) (A : Option Addr) (n : Nat) (xs : List Value) : Prop :=
  xs.length = n ∧ (0 < n → ∃ a : Addr, A = some a ∧ a.block < B ∧ ∀ j u, xs[j]? = some u → w.cell? (a.add j) = some u)

section
variable {w w' : World} {B B' n : Nat} {A : Option Addr} {xs : List Value}
theorem Rd.nil (w : World) (B : Nat) (A : Option Addr) : Rd w B A 0 [] := ⟨rfl, fun h => absurd h (by omega)⟩
theorem Rd.keep (h : Rd w B A n xs) (hk : ∀ p : Addr, p.block < B → w'.cell? p = w.cell? p) : Rd w' B A n xs :=
  ⟨h.1, fun hn => let ⟨a, e, hb, hc⟩ := h.2 hn; ⟨a, e, hb, fun j u hu => (hk _ (by rw [add_block]; exact hb)).trans (hc j u hu)⟩⟩
theorem Rd.below (h : Rd w B A n xs) (hb : Below B w w') : Rd w' B A n xs := h.keep fun _ hp => hb.cell hp
theorem Rd.mono (h : Rd w B A n xs) (hB : B ≤ B') : Rd w B' A n xs :=
  ⟨h.1, fun hn => let ⟨a, e, hb, hc⟩ := h.2 hn; ⟨a, e, by omega, hc⟩⟩
theorem Rd.later (h : Rd w B A n xs) (hb : Below B w w') (hB : B ≤ B') : Rd w' B' A n xs := (h.below hb).mono hB
theorem Rd.at (h : Rd w B A n xs) {k : Nat} (hk : k < n) : ∃ (a : Addr) (u : Value), A = some a ∧ a.block < B ∧ xs[k]? = some u ∧ w.cell? (a.add k) = some u := by
  obtain ⟨a, e, hb, hc⟩ := h.2 (by omega)
  have hl : k < xs.length := by rw [h.1]; exact hk
  exact ⟨a, xs[k], e, hb, List.getElem?_eq_getElem hl, hc k _ (List.getElem?_eq_getElem hl)⟩
theorem Rd.take (h : Rd w B A n xs) (m : Nat) (hm : m ≤ n) : Rd w B A m (xs.take m) := by
  refine ⟨by simp [h.1]; omega, fun h0 => ?_⟩
  obtain ⟨a, e, hb, hc⟩ := h.2 (by omega)
  refine ⟨a, e, hb, fun j u hu => ?_⟩
  rw [List.getElem?_take] at hu
  split at hu
  · exact hc j u hu
  · cases hu
theorem add_add (a : Addr) (i j : Nat) : (a.add i).add j = a.add (i + j) := by
  unfold Addr.add
  by_cases hi : i = 0 <;> by_cases hj : j = 0 <;> simp [hi, hj, Nat.add_assoc]
theorem Rd.cut (h : Rd w B A n xs) (lo hi cap : Nat) (h1 : lo ≤ hi) (h2 : hi ≤ n) (hc : n ≤ cap) :
    Rd w B (if cap = lo then A else A.map (·.add lo)) (hi - lo) ((xs.drop lo).take (hi - lo)) := by
  have hl := h.1
  refine ⟨by simp; omega, fun h0 => ?_⟩
  obtain ⟨a, rfl, hb, hx⟩ := h.2 (by omega)
  rw [if_neg (by omega)]
  refine ⟨a.add lo, rfl, by rw [add_block]; exact hb, fun j u hu => ?_⟩
  rw [List.getElem?_take] at hu
  split at hu
  · rw [List.getElem?_drop] at hu
    rw [add_add]
    exact hx _ u hu
  · cases hu
theorem Rd.cut' (h : Rd w B A n xs) (lo hi : Nat) (h1 : lo < hi) (h2 : hi ≤ n) : Rd w B (Option.map (fun x => x.add lo) A) (hi - lo) ((xs.drop lo).take (hi - lo)) := by
  have := h.cut lo hi (n + lo + 1) (by omega) h2 (by omega)
  rwa [if_neg (by omega)] at this
theorem Rd.cast {n' : Nat} {ys : List Value} (h : Rd w B A n xs) (hn : n = n') (hx : xs = ys) : Rd w B A n' ys := hn ▸ hx ▸ h
theorem Rd.of_own {base : Nat} {e : TypeId} {c : Nat} (h : w.ownsRow base e 1 (.slice A n c) n xs) : Rd w w.heap.size A n xs := by
  have hlt := h.lt
  refine ⟨by simpa using h.1, fun hn => ?_⟩
  rcases h.2 with ⟨hv, h0⟩ | ⟨g, cap, cur, hv, hr⟩
  · omega
  · injection hv with hA
    subst hA
    exact ⟨_, rfl, (hlt g rfl).2, h.cells (g := g) rfl⟩
theorem own_form {base : Nat} {e : TypeId} {size : Nat} {v : Value} (h : w.ownsRow base e size v n xs) : ∃ A c, v = .slice A n c := by
  rcases h.2 with ⟨rfl, rfl⟩ | ⟨g, cap, cur, rfl, _⟩
  · exact ⟨_, _, rfl⟩
  · exact ⟨_, _, rfl⟩
theorem own_cap {base : Nat} {e : TypeId} {size c : Nat} (h : w.ownsRow base e size (.slice A n c) n xs) : c ≤ maxLen := by
  rcases h.2 with ⟨hv, h0⟩ | ⟨g, cap, cur, hv, _, _, _, hc, _⟩
  · injection hv with h1 h2 h3; subst h3; exact Nat.zero_le _
  · injection hv with h1 h2 h3; subst h3; exact hc
theorem own_le {base : Nat} {e : TypeId} {size c : Nat} (h : w.ownsRow base e size (.slice A n c) n xs) : n ≤ c := by
  rcases h.2 with ⟨hv, h0⟩ | ⟨g, cap, cur, hv, _, _, hc, _⟩
  · omega
  · injection hv with h1 h2 h3; subst h3; exact hc
/-- what the call owns from 'base' on is kept where nothing below a greater number turns -/
theorem own_below {base : Nat} {e : TypeId} {size : Nat} {v : Value} (h : w.ownsRow base e size v n xs) (hb : Below B w w') (hB : w.heap.size ≤ B) : w'.ownsRow base e size v n xs := by
  have hlt := h.lt
  refine ⟨h.1, ?_⟩
  rcases h.2 with h2 | ⟨g, cap, cur, rfl, hg, hh, r⟩
  · exact .inl h2
  · exact .inr ⟨g, cap, cur, rfl, hg, by rw [hb.block g (by have := (hlt g rfl).2; omega)]; exact hh, r⟩
theorem own_base {base base' : Nat} {e : TypeId} {size : Nat} {v : Value} (h : w.ownsRow base e size v n xs) (hb : base' ≤ base) : w.ownsRow base' e size v n xs := by
  refine ⟨h.1, ?_⟩
  rcases h.2 with h2 | ⟨g, cap, cur, rfl, hg, r⟩
  · exact .inl h2
  · exact .inr ⟨g, cap, cur, rfl, by omega, r⟩
theorem own_cast {base : Nat} {e : TypeId} {size m : Nat} {v : Value} {ys : List Value} (h : w.ownsRow base e size v n xs) (hn : n = m) (hx : xs = ys) : w.ownsRow base e size v m ys := hn ▸ hx ▸ h
end

section
variable {P : Program} (w : World)
/-- append to a slice of the call's own of what another slice reads, be it nil, empty or not -/
theorem run_append_rd (base : Nat) (t ty e : TypeId) (i : TypeInfo) (z : Value) (bytes : Nat) (ht : P.underlying t = some (.slice e)) (hi : P.info? e = some i) (hz : i.zero = some z)
    (hsize : i.size = 1) (hby : i.bytes = bytes) (hzs : z.cells.size = 1)
    (v : Value) (n : Nat) (xs : List Value) (hown : w.ownsRow base e 1 v n xs)
    (B : Nat) (A : Option Addr) (m c : Nat) (news : List Value) (hr : Rd w B A m news) (h1 : ∀ u ∈ news, u.oneCell' = true)
    (h63 : n + m ≤ maxLen) (hbytes : (n + m) * bytes ≤ 140737488355328) (hbase : base ≤ w.heap.size) :
    ∃ v' w', (Builtin.append_ #[t, t] ty #[v, .slice A m c]).run P w = .ok v' w' ∧ w'.ownsRow base e 1 v' (n + m) (xs ++ news) ∧ w.grownBy w' v.ownBlock ∧
      (v'.ownBlock = v.ownBlock ∨ v'.ownBlock = some w.heap.size) := by
  by_cases hA : A = none
  · subst hA
    have hm : m = 0 := by
      by_cases h0 : 0 < m
      · obtain ⟨a, h, _⟩ := hr.2 h0; cases h
      · omega
    subst hm
    have hn : news = [] := List.eq_nil_of_length_eq_zero hr.1
    subst hn
    refine ⟨v, w, ?_, by simpa using hown, ⟨rfl, rfl, rfl, Nat.le_refl _, fun _ _ _ => rfl⟩, .inl rfl⟩
    rcases hown.2 with ⟨rfl, rfl⟩ | ⟨g, cap, cur, rfl, _, _, hnc, _⟩
    · simp [Builtin.append_, run_underlying ht, sizeOf, typeInfo, hi, Builtin.lenOf, Builtin.firstCells]
    · simp [Builtin.append_, run_underlying ht, sizeOf, typeInfo, hi, Builtin.lenOf, Builtin.firstCells, hnc, storeCells]
  · obtain ⟨a, rfl⟩ := Option.ne_none_iff_exists'.1 hA
    have hcells : ∀ j u, news[j]? = some u → w.cell? (a.add j) = some u := by
      intro j u hu
      have hj : j < news.length := (List.getElem?_eq_some_iff.1 hu).1
      obtain ⟨a', h, _, hc⟩ := hr.2 (by rw [hr.1] at hj; omega)
      injection h with h
      subst h
      exact hc j u hu
    obtain ⟨v', w', hrun, h2, h3, _, h5⟩ := run_append_own_at (P := P) w base t ty e i z 1 bytes ht hi hz hsize hby hzs (by decide) v n xs hown a m c news (by simpa using hr.1) hcells h1 h63 hbytes hbase
    exact ⟨v', w', hrun, h2, h3, h5⟩

theorem wpList_append_rd {ops : Array Oper} {rest : List Oper} {o : Oper} {a : Act} {Q : Exit → Act → World → Prop} (hgd : o.guard = none) (s x : Operand) (t : TypeId)
    (ho : o.op = .call { callee := .builtin .append, args := #[s, x], argTypes := #[t, t] })
    (base : Nat) (e : TypeId) (i : TypeInfo) (z : Value) (bytes : Nat) (ht : P.underlying t = some (.slice e)) (hi : P.info? e = some i) (hz : i.zero = some z)
    (hsize : i.size = 1) (hby : i.bytes = bytes) (hzs : z.cells.size = 1)
    (v : Value) (n : Nat) (xs : List Value) (hs : a.eval s = v) (hown : w.ownsRow base e 1 v n xs)
    (B : Nat) (A : Option Addr) (m c : Nat) (news : List Value) (hx : a.eval x = .slice A m c) (hr : Rd w B A m news) (h1 : ∀ u ∈ news, u.oneCell' = true)
    (h63 : n + m ≤ maxLen) (hbytes : (n + m) * bytes ≤ 140737488355328) (hbase : base ≤ w.heap.size)
    (h : ∀ A' c' w', w'.ownsRow base e 1 (.slice A' (n + m) c') (n + m) (xs ++ news) → w.grownBy w' v.ownBlock → ((Value.slice A' (n + m) c').ownBlock = v.ownBlock ∨ (Value.slice A' (n + m) c').ownBlock = some w.heap.size) → wpList P ops Q rest (a.put o.dst (.slice A' (n + m) c')) w') :
    wpList P ops Q (o :: rest) a w := by
  obtain ⟨v', w', hrun, h2, h3, h4⟩ := run_append_rd (P := P) w base t o.type e i z bytes ht hi hz hsize hby hzs v n xs hown B A m c news hr h1 h63 hbytes hbase
  obtain ⟨A', c', rfl⟩ := own_form h2
  refine wpList_plain hgd fun _ hK => ?_
  unfold Oper.wp execOp
  simp only [ho, resolve, invoke, builtin, Sem.run_bind, Sem.run_pure, Result.andThen_ok, List.map_toArray, List.map_cons, List.map_nil, hs, hx, hrun]
  exact hK _ _ (h A' c' w' h2 h3 h4)
end
/-- an append laid by the law above turns nothing below 'base' -/
theorem own_grown {w w' W : World} {base : Nat} {e : TypeId} {v : Value} {n : Nat} {xs : List Value} (hb : Below base W w) (hown : w.ownsRow base e 1 v n xs) (hg : w.grownBy w' v.ownBlock) (hB : base ≤ w.heap.size) : Below base W w' :=
  hb.grown hg hB fun k hk => (hown.lt k hk).1
theorem boxed_rd (w : World) (x : Value) (t : TypeId) : Rd (w.alloc (.cells #[x] t)) (w.heap.size + 1) (some ⟨w.heap.size, 0, none⟩) 1 [x] :=
  ⟨rfl, fun _ => ⟨_, rfl, by simp, fun j u hj => cell_one_new w x t j u hj⟩⟩
theorem boxed_rds (w : World) (xs : List Value) (t : TypeId) : Rd (w.alloc (.cells xs.toArray t)) (w.heap.size + 1) (some ⟨w.heap.size, 0, none⟩) xs.length xs := by
  refine ⟨rfl, fun _ => ⟨_, rfl, by simp, fun j u hj => ?_⟩⟩
  have hh := World.alloc_heap_new w (.cells xs.toArray t)
  rw [add_plain, cell_of_row _ _ _ _ _ _ hh]
  simpa using hj
theorem cell_lt {w : World} {p : Addr} {v : Value} (h : w.cell? p = some v) : p.block < w.heap.size := by
  by_cases hp : p.block < w.heap.size
  · exact hp
  · have hn : w.heap[p.block]? = none := Array.getElem?_eq_none (by omega)
    unfold World.cell? at h
    rw [hn] at h
    cases h
theorem getD_at (zs : List Int) (j : Nat) (h : j < zs.length) : zs.getD j 0 = zs[j] := by
  rw [List.getD_eq_getElem?_getD, List.getElem?_eq_getElem h]; rfl
/-- a slice of bytes that came in, as bytes -/
theorem rd_bytes {w : World} {a : Option Addr} {len cap : Nat} {zs : List Int}
    (h : (a = none ∧ len = 0 ∧ cap = 0 ∧ zs = []) ∨ ∃ x, a = some x ∧ len ≤ cap ∧ cap ≤ maxLen ∧ zs.length = cap ∧ (∀ i, i < zs.length → w.cell? (x.add i) = some (.int .u8 (zs.getD i 0))) ∧ ∀ n ∈ zs, (Lit.int .u8 n).wf = true) :
    ∃ bs : List UInt8, Rd w w.heap.size a len (bs.map bv) ∧ len ≤ cap ∧ cap ≤ maxLen := by
  rcases h with ⟨rfl, rfl, rfl, rfl⟩ | ⟨x, rfl, hl, hm, hz, hc, hw⟩
  · exact ⟨[], Rd.nil _ _ _, Nat.le_refl _, Nat.zero_le _⟩
  · refine ⟨(zs.take len).map fun n => UInt8.ofNat n.toNat, ⟨by simp; omega, fun hn => ⟨x, rfl, ?_, fun j u hj => ?_⟩⟩, hl, hm⟩
    · have h0 := hc 0 (by omega)
      have := cell_lt h0
      rwa [add_block] at this
    · rw [List.getElem?_map, List.getElem?_map, List.getElem?_take] at hj
      split at hj
      · rename_i hjl
        have hjz : j < zs.length := by omega
        rw [List.getElem?_eq_getElem hjz] at hj
        simp only [Option.map_some, Option.some.injEq] at hj
        rw [hc j hjz, getD_at zs j hjz, ← hj]
        have hb := bounds_u8 (hw zs[j] (List.getElem_mem hjz))
        unfold bv
        congr 2
        simp only [UInt8.toNat_ofNat']
        omega
      · simp at hj
/-- a slice of integers that came in -/
theorem rd_ints {w : World} {a : Option Addr} {len cap : Nat} {zs : List Int}
    (h : (a = none ∧ len = 0 ∧ cap = 0 ∧ zs = []) ∨ ∃ x, a = some x ∧ len ≤ cap ∧ cap ≤ maxLen ∧ zs.length = cap ∧ (∀ i, i < zs.length → w.cell? (x.add i) = some (.int .i64 (zs.getD i 0))) ∧ ∀ n ∈ zs, (Lit.int .i64 n).wf = true) :
    ∃ ys : List Int, Rd w w.heap.size a len (ys.map iv) ∧ (∀ y ∈ ys, -9223372036854775808 ≤ y ∧ y ≤ 9223372036854775807) ∧ len ≤ cap ∧ cap ≤ maxLen := by
  rcases h with ⟨rfl, rfl, rfl, rfl⟩ | ⟨x, rfl, hl, hm, hz, hc, hw⟩
  · exact ⟨[], Rd.nil _ _ _, by simp, Nat.le_refl _, Nat.zero_le _⟩
  · refine ⟨zs.take len, ⟨by simp; omega, fun hn => ⟨x, rfl, ?_, fun j u hj => ?_⟩⟩, fun y hy => bounds_i64 (hw y (List.mem_of_mem_take hy)), hl, hm⟩
    · have h0 := hc 0 (by omega)
      have := cell_lt h0
      rwa [add_block] at this
    · rw [List.getElem?_map, List.getElem?_take] at hj
      split at hj
      · rename_i hjl
        have hjz : j < zs.length := by omega
        rw [List.getElem?_eq_getElem hjz] at hj
        simp only [Option.map_some, Option.some.injEq] at hj
        rw [hc j hjz, getD_at zs j hjz, ← hj]
        rfl
      · simp at hj
/-- the bytes of a string, in new memory -/
theorem conv_bytes {P : Program} (w : World) (src dst e : TypeId) (s : ByteArray) (hm : s.size ≤ maxLen) (hs : P.underlying src = some .string) (hd : P.underlying dst = some (.slice e)) (he : P.underlying e = some (.int .u8)) :
    ∃ c W1, (convert src dst (.string s)).run P w = .ok (.slice (some ⟨w.heap.size, 0, none⟩) s.size c) W1 ∧ Rd W1 (w.heap.size + 1) (some ⟨w.heap.size, 0, none⟩) s.size (s.data.toList.map bv) ∧ Below w.heap.size w W1 ∧ W1.heap.size = w.heap.size + 1 ∧ s.size ≤ c ∧ c ≤ maxLen := by
  refine ⟨_, _, Lib.run_convert_string_bytes w src dst e s hs hd he, ⟨by simp, fun _ => ⟨_, rfl, by simp, fun j u hj => ?_⟩⟩, ⟨rfl, rfl, rfl, by rw [Lib.bytesWorld_size]; omega, fun k hk => Lib.bytesWorld_at_old w e s k hk⟩, Lib.bytesWorld_size w e s, grownCap_ge w s.size 0 e, grownCap_le_maxLen w s.size 0 e hm⟩
  have hjs : j < s.size := by
    have := (List.getElem?_eq_some_iff.1 hj).1
    simpa using this
  rw [add_plain, Nat.zero_add, Lib.bytesWorld_cell w e s j hjs, ← hj, List.getElem?_map]
  have hjl : j < s.data.toList.length := by simpa using hjs
  rw [List.getElem?_eq_getElem hjl]
  simp only [Option.map_some]
  unfold bv
  rw [List.getD_eq_getElem?_getD, List.getElem?_eq_getElem hjl]
  rfl
/-- what a range over a function must keep for an iterator that reads its box anew each round -/
def KeepBox (n₀ b : Nat) (W W' : World) : Prop := Below n₀ W W' ∧ W'.heap[b]? = W.heap[b]?
theorem keepBox_t {n₀ b : Nat} {A B C : World} (h : KeepBox n₀ b A B) (k : KeepBox n₀ b B C) : KeepBox n₀ b A C := ⟨h.1.trans k.1, k.2.trans h.2⟩
theorem keepBox_b {n₀ b : Nat} {w : World} (hn : n₀ ≤ w.heap.size) (hb : b < w.heap.size) (W : World) (l : Nat) (o o' : Obj) (hl : w.heap.size ≤ l) (h : W.heap[l]? = some o) (h1 : o.isCells = false) (h2 : o.isWalk = false) : KeepBox n₀ b W (W.putObj l o') :=
  ⟨belowK_b hn W l o o' hl h h1 h2, (grownBy_putObj' W l o').block b (by have := (Array.getElem?_eq_some_iff.1 h).1; omega) (fun e => by cases e; omega)⟩
theorem boxed_keep {n₀ b : Nat} {W W' : World} {t : TypeId} {v : Value} (h : Boxed W b t v) (k : KeepBox n₀ b W W') : Boxed W' b t v := k.2.trans h
end Go.Proofs.YtmpdoikdadjneaaDoor.Hb

/- What the program says of the types of the elements: one cell each. -/
namespace Go.Proofs.YtmpdoikdadjneaaDoor
open Go.RowKit Hb

theorem infoI : (Tryd.prog.info? 3).map (fun i => (i.zero, i.size, i.bytes)) = some (some (.int .i64 0), 1, 8) := by kernel_rfl
theorem infoU8 : (Tryd.prog.info? 5).map (fun i => (i.zero, i.size, i.bytes)) = some (some (.int .u8 0), 1, 1) := by kernel_rfl
theorem infoU64 : (Tryd.prog.info? 75).map (fun i => (i.zero, i.size, i.bytes)) = some (some (.int .u64 0), 1, 8) := by kernel_rfl

end Go.Proofs.YtmpdoikdadjneaaDoor

/- Words for what a call leaves of memory: reads alone; a row of the call's own. No function of the program is named here. -/
namespace Go.Proofs.YtmpdoikdadjneaaDoor
open Go.RowKit Hb

/-- reads in an open order: nothing turns but the count of draws -/
def Quiet (w w' : World) : Prop := ∃ k, w' = w.drewN k
theorem Quiet.below {w w' : World} (h : Quiet w w') (B : Nat) : Below B w w' := by
  obtain ⟨k, rfl⟩ := h
  exact below_drewN (Below.refl B w) k

/-- the result of a copy: a row of the call's own -/
def Fresh (w : World) (e : TypeId) (xs : List Value) (W : World) (v : Value) : Prop := W.ownsRow w.heap.size e 1 v xs.length xs ∧ Below w.heap.size w W
/-- a copy of some elements, as a slice that reads -/
theorem Fresh.rd {w W : World} {e : TypeId} {xs : List Value} {v : Value} (h : Fresh w e xs W v) : ∃ A c, v = .slice A xs.length c ∧ Rd W W.heap.size A xs.length xs ∧ W.ownsRow w.heap.size e 1 (.slice A xs.length c) xs.length xs ∧ Below w.heap.size w W ∧ xs.length ≤ c := by
  obtain ⟨A, c, rfl⟩ := own_form h.1
  refine ⟨A, c, rfl, Rd.of_own h.1, h.1, h.2, ?_⟩
  rcases h.1.2 with ⟨_, h0⟩ | ⟨g, cap, cur, hv, _, _, hn, _⟩
  · omega
  · injection hv with h1 h2 h3; omega
/-- a store into an element of a row of the call's own -/
theorem own_set {w : World} {base g n c k : Nat} {e : TypeId} {xs : List Value} (h : w.ownsRow base e 1 (.slice (some ⟨g, 0, none⟩) n c) n xs) (u : Value) :
    (w.setCell ⟨g, k, none⟩ u).ownsRow base e 1 (.slice (some ⟨g, 0, none⟩) n c) n (xs.set k u) ∧ Below base w (w.setCell ⟨g, k, none⟩ u) :=
  ⟨(h.stored k u).1, (Below.refl base w).setCell (p := ⟨g, k, none⟩) (h.lt g rfl).1 u⟩
end Go.Proofs.YtmpdoikdadjneaaDoor

/- A range over a function whose iterator writes ONE block that lay there before the loop (a method that moves its receiver's field): a contract for the iterator, told by how many rounds are over, and the law for the loop. No program is named here. -/
namespace Go.Proofs.YtmpdoikdadjneaaDoor.Ds
open Go Go.RowKit

/-- the streams, and of the blocks below B all but p, are as they were -/
structure But (B p : Nat) (w w' : World) : Prop where
  low : Below p w w'
  mid : ∀ k, p < k → k < B → w'.heap[k]? = w.heap[k]?

section
variable {B B' p : Nat} {a b c w w' : World}
theorem But.refl (B p : Nat) (w : World) : But B p w w := ⟨Below.refl _ _, fun _ _ _ => rfl⟩
theorem But.trans (h : But B p a b) (k : But B p b c) : But B p a c := ⟨h.low.trans k.low, fun i h1 h2 => (k.mid i h1 h2).trans (h.mid i h1 h2)⟩
theorem But.mono (h : But B p w w') (hB : B' ≤ B) : But B' p w w' := ⟨h.low, fun k h1 h2 => h.mid k h1 (by omega)⟩
theorem But.of_below (h : Below B w w') (hp : p ≤ B) : But B p w w' := ⟨h.mono hp, fun k _ h2 => h.block k h2⟩
theorem But.size (h : But B p w w') : w.heap.size ≤ w'.heap.size := h.low.size
theorem But.block (h : But B p w w') {k : Nat} (h1 : k < B) (h2 : k ≠ p) : w'.heap[k]? = w.heap[k]? := by
  by_cases hk : k < p
  · exact h.low.block k hk
  · exact h.mid k (by omega) h1
theorem But.later (h : But B p a b) (k : Below B' b c) (hB : B ≤ B') (hp : p ≤ B') : But B p a c := h.trans ((But.of_below k hp).mono hB)
theorem But.setCell (B p o : Nat) (w : World) (u : Value) : But B p w (w.setCell ⟨p, o, none⟩ u) :=
  ⟨(Below.refl p w).setCell (p := ⟨p, o, none⟩) (Nat.le_refl _) u, fun k h1 _ => Below.heap_setCell _ _ _ _ (by show k ≠ p; omega)⟩
theorem But.below (h : But B p w w') : Below p w w' := h.low
theorem But.boxed {q : Nat} {t : TypeId} {v : Value} (h : But B p w w') (hb : Boxed w q t v) (hq : q < B) (hne : q ≠ p) : Boxed w' q t v := (h.block hq hne).trans hb
end

/-- **THE ITERATOR's CONTRACT.** 'St k W': k elements have been handed over, and its own memory says so; 'Kp': what a round that goes on keeps for it; of what lay in a world it turns block p alone. -/
def SeqOwn (F : Fence) (n : Nat) (P : Program) (g : Nat) (bd lb : Array Value) (encs : Nat → Array Value) (N p : Nat) (Kp : World → World → Prop) (St : Nat → World → Prop) : Prop :=
  ∀ (l : Nat) (J Jx : Nat → World → Prop) (W : World), (∀ k A B, J k A → But A.heap.size p A B → J k B) →
    (∀ k W1, J k W1 → St (k + 1) W1 → k < N → YieldAt F (n - 1) P l (encs k) W1 fun e W' =>
      (e = .returned (.bool true) ∧ J (k + 1) W' ∧ Kp W1 W') ∨ (e = .returned (.bool false) ∧ Jx (k + 1) W')) →
    J 0 W → St 0 W →
    CallsIn F n P g (bd ++ #[.func (.yield l) #[] #[]] ++ lb) W fun e W' => (∃ v, e = .returned v) ∧ ((J N W' ∧ St N W') ∨ ∃ k, k < N ∧ Jx (k + 1) W')

/-- how the body of a round may be left -/
def leftBy (Kp : World → World → Prop) (I : Nat → World → Prop) (Ix : Code → Nat → World → Prop) (k : Nat) (W : World) : Exit → Act → World → Prop
  | .normal, _, W' => KeepsOthers W W' ∧ Kp W W' ∧ I k W'
  | .ret, _, W' => KeepsOthers W W' ∧ Ix .ret k W'
  | .exit id, _, W' => KeepsOthers W W' ∧ Ix (.exit id) k W'
  | .goto t, _, W' => KeepsOthers W W' ∧ Ix (.goto t) k W'
  | .panic _, _, _ => False
  | .outgrown, _, _ => False

theorem putObj_below {B l : Nat} (W : World) (o : Obj) (h : B ≤ l) : Below B W (W.putObj l o) :=
  ⟨rfl, rfl, rfl, by simp, fun k hk => World.putObj_heap_other (by omega)⟩

/-- **THE LOOP.** -/
theorem wpIn_rangeFunc_seq {F : Fence} {n : Nat} {P : Program} {g : Operand} {ps : Array Tmp} {assign body : Code} {Q : Exit → Act → World → Prop} {a : Act} {w : World}
    (hro : F.round = none) (h1 : 1 ≤ n) {gf : Nat} {bd lb : Array Value} (hg : a.eval g = .func (.func gf) bd lb) (hFg : F.fn gf) (eg : ∀ args w, (callFunc gf args).run P w = .ok (.enter gf args) w)
    {encs : Nat → Array Value} {N p : Nat} {Kp : World → World → Prop} {St : Nat → World → Prop} (hp : p < w.heap.size) (hseq : SeqOwn F (n - 1) P gf bd lb encs N p Kp St)
    (hKt : ∀ {A B C : World}, Kp A B → Kp B C → Kp A C) (hKb : ∀ A B : World, Below w.heap.size A B → Kp A B) (hSt : ∀ k A B, St k A → Below w.heap.size A B → St k B) (hs0 : St 0 w) (hps : ∀ k, (encs k).size = ps.size)
    (I : Nat → World → Prop) (Ix : Code → Nat → World → Prop) (hI : ∀ k A B, w.heap.size ≤ A.heap.size → I k A → But w.heap.size p A B → I k B) (hIx : ∀ c k A B, Ix c k A → Below w.heap.size A B → Ix c k B) (h0 : I 0 w) (a₁ : Nat → Act)
    (hassign : ∀ (l k : Nat) (W : World) (K : Act → World → Prop), K (a₁ k) W →
      assign.wpIn (F.inRound l) (n - 1 - 1) P (Exit.then K (fun _ _ _ => False)) { tmps := (ps.zip (encs k)).foldl (fun t (p, v) => t.setIfInBounds p v) a.tmps, defers := [] } W)
    (hbody : ∀ (l k : Nat) (W : World), w.heap.size ≤ W.heap.size → I k W → St (k + 1) W → k < N → body.wpIn (F.inRound l) (n - 1 - 1) P (leftBy Kp I Ix (k + 1) W) (a₁ k) W)
    (hdone : ∀ (D : Nat) (W : World), w.heap.size ≤ D → I N W → St N W → W.heap[D]? = some (.deferred (some [])) → Q .normal { a with defers := { target := .collected D, args := #[] } :: a.defers } W)
    (hstop : ∀ (D : Nat) (c : Code) (k : Nat) (W : World), w.heap.size ≤ D → k < N → Ix c (k + 1) W → W.heap[D]? = some (.deferred (some [])) → c.wpIn F n P Q { a with defers := { target := .collected D, args := #[] } :: a.defers } W) :
    (Code.rangeFunc g ps assign body).wpIn F n P Q a w := by
  refine wpIn_rangeFunc ?_
  intro fn hfn
  rw [hro]
  -- the loop's record lies at D + 1, the block for the rounds' deferred calls at D
  obtain ⟨D, hD⟩ : ∃ D, D = w.heap.size := ⟨_, rfl⟩
  obtain ⟨R, hR⟩ : ∃ R : LoopState → Option Code → Loop, R = fun st pe => { state := st, pending := pe, fn, tmps := a.tmps, params := ps, assign, body, defers := D } := ⟨_, rfl⟩
  obtain ⟨V, hV⟩ : ∃ V, (w.alloc (.deferred (some []))).alloc (.loop (R .ready none)) = V := ⟨_, rfl⟩
  rw [← hD] at hp hKb hSt hI hIx hbody hdone hstop
  have bV : Below D w V := by rw [← hV, hD]; exact ((Below.refl _ w).alloc (Nat.le_refl _) _).alloc (by simp) _
  have lV : V.heap[D + 1]? = some (.loop (R .ready none)) := by
    rw [← hV, hD]
    have h := World.alloc_heap_new (w.alloc (.deferred (some []))) (.loop (R .ready none))
    rwa [World.size_alloc] at h
  have dV : V.heap[D]? = some (.deferred (some [])) := by
    rw [← hV, hD]
    exact (Below.heap_alloc _ _ _ (by simp)).trans (World.alloc_heap_new w _)
  refine ⟨D + 1, [{ target := .collected D, args := #[] }], V, { target := .fn (.func gf) lb, args := bd ++ #[.func (.yield (D + 1)) #[] #[]] }, V, gf,
    bd ++ #[.func (.yield (D + 1)) #[] #[]] ++ lb, V, ?_, ?_, ?_, ?_, fun _ => h1, ?_⟩
  · rw [← hV, hR, hD]; exact run_enterLoop_outer _ _ _ _ _
  · simp only [resolve, hg]
    simp [go_sem]
  · intro f' hf'
    simp [Target.leads] at hf'
    subst hf'
    exact hFg
  · simp [invoke, go_sem, eg]
  have szb : ∀ {A : World}, A.heap[D + 1]? = some (.loop (R .ready none)) → D + 1 < A.heap.size := fun h => (Array.getElem?_eq_some_iff.1 h).1
  refine (hseq (D + 1) (fun k W => I k W ∧ W.heap[D + 1]? = some (.loop (R .ready none)) ∧ W.heap[D]? = some (.deferred (some [])))
    (fun k W => ∃ c, Ix c k W ∧ W.heap[D + 1]? = some (.loop (R .done (some c))) ∧ W.heap[D]? = some (.deferred (some []))) V ?_ ?_
    ⟨hI 0 w V (Nat.le_of_eq hD) h0 (But.of_below bV (by omega)), lV, dV⟩ (hSt 0 w V hs0 bV)).mono ?_
  · -- the iterator's own steps
    rintro k A B ⟨hi, hl, hd⟩ hAB
    have hs := szb hl
    exact ⟨hI k A B (by omega) hi (hAB.mono (by omega)), (hAB.block (by omega) (by omega)).trans hl, (hAB.block (by omega) (by omega)).trans hd⟩
  · -- a round
    rintro k W ⟨hi, hl, hd⟩ hst hk
    have hs := szb hl
    have hy := run_yield (P := P) (args := encs k) hl (by rw [hR]; exact hps k)
    rw [hR] at hy
    refine ⟨fn, _, assign, body, hy, roundIn_of_wpIn hfn (hassign _ k W _ ⟨_, run_beginRound hl (by rw [hR]), ?_⟩)⟩
    obtain ⟨W2, hW2⟩ : ∃ W2, W.putObj (D + 1) (.loop { R .ready none with state := .busy }) = W2 := ⟨_, rfl⟩
    have b2 : Below D W W2 := by rw [← hW2]; exact putObj_below W _ (by omega)
    have l2 : W2.heap[D + 1]? = some (.loop { R .ready none with state := .busy }) := by rw [← hW2]; exact World.putObj_heap_same hs
    have d2 : W2.heap[D]? = some (.deferred (some [])) := by rw [← hW2]; exact (World.putObj_heap_other (by omega)).trans hd
    rw [hW2]
    have s2 := b2.size
    refine wpIn_mono (hbody _ k W2 (by omega) (hI k W W2 (by omega) hi (But.of_below b2 (by omega))) (hSt _ W W2 hst b2) hk) ?_
    -- the round's end, whatever way it is left
    have fin : ∀ (j : Option Code) (W3 : World), KeepsOthers W2 W3 → ∃ W4, W4 = W3.putObj (D + 1) (.loop (R (if j.isNone then .ready else .done) j)) ∧ (Instr.endRound (D + 1) j).run P W3 = .ok (.bool j.isNone) W4 ∧
        Below D W3 W4 ∧ D + 1 < W3.heap.size ∧ W4.heap[D + 1]? = some (.loop (R (if j.isNone then .ready else .done) j)) ∧ W4.heap[D]? = some (.deferred (some [])) := fun j W3 hk3 => by
      have l3 := hk3.same _ _ l2 rfl
      have s3 := (Array.getElem?_eq_some_iff.1 l3).1
      have he := run_endRound (P := P) j l3
      refine ⟨_, rfl, ?_, putObj_below W3 _ (by omega), s3, World.putObj_heap_same s3, (World.putObj_heap_other (by omega)).trans (hk3.same _ _ d2 rfl)⟩
      rw [hR] at he ⊢
      exact he
    rintro e a3 W3 hq
    cases e with
    | normal =>
      obtain ⟨hk3, hkp, hi3⟩ := hq
      obtain ⟨W4, e4, hr, b4, s3, l4, d4⟩ := fin none W3 hk3
      subst e4
      exact ⟨_, _, hr, .inl ⟨rfl, ⟨hI _ _ _ (by omega) hi3 (But.of_below b4 (by omega)), l4, d4⟩, hKt (hKt (hKb _ _ b2) hkp) (hKb _ _ b4)⟩⟩
    | ret =>
      obtain ⟨hk3, hi3⟩ := hq
      obtain ⟨W4, e4, hr, b4, s3, l4, d4⟩ := fin (some .ret) W3 hk3
      subst e4
      exact ⟨_, _, hr, .inr ⟨rfl, .ret, hIx _ _ _ _ hi3 b4, l4, d4⟩⟩
    | exit id =>
      obtain ⟨hk3, hi3⟩ := hq
      obtain ⟨W4, e4, hr, b4, s3, l4, d4⟩ := fin (some (.exit id)) W3 hk3
      subst e4
      exact ⟨_, _, hr, .inr ⟨rfl, .exit id, hIx _ _ _ _ hi3 b4, l4, d4⟩⟩
    | goto t =>
      obtain ⟨hk3, hi3⟩ := hq
      obtain ⟨W4, e4, hr, b4, s3, l4, d4⟩ := fin (some (.goto t)) W3 hk3
      subst e4
      exact ⟨_, _, hr, .inr ⟨rfl, .goto t, hIx _ _ _ _ hi3 b4, l4, d4⟩⟩
    | panic ch => exact hq.elim
    | outgrown => exact hq.elim
  · -- behind the iterator
    rintro e W2 ⟨⟨v, rfl⟩, (⟨⟨hi, hl, hd⟩, hst⟩ | ⟨k, hk, c, hi, hl, hd⟩)⟩
    · have hs := szb hl
      have he := run_endLoop (P := P) hl (by rw [hR]; simp)
      rw [hR] at he
      have b4 : ∀ o, Below D W2 (W2.putObj (D + 1) o) := fun o => putObj_below W2 o (by omega)
      exact ⟨none, _, he, hdone D _ (Nat.le_refl _) (hI _ _ _ (by omega) hi (But.of_below (b4 _) (by omega))) (hSt _ _ _ hst (b4 _)) ((World.putObj_heap_other (by omega)).trans hd)⟩
    · have he := run_endLoop (P := P) hl (by rw [hR]; simp)
      rw [hR] at he
      have b4 : ∀ o, Below D W2 (W2.putObj (D + 1) o) := fun o => putObj_below W2 o (by omega)
      exact ⟨some c, _, he, hstop D c k _ (Nat.le_refl _) hk (hIx c _ _ _ hi (b4 _)) ((World.putObj_heap_other (by omega)).trans hd)⟩

/-! ### two results that lie in boxes -/
theorem run_loadVar_one {P : Program} {w : World} {ty : TypeId} {d : TypeDesc} {a : Addr} {v : Value} (hu : P.underlying ty = some d) (hd : (match d with | .struct _ | .array _ _ => true | _ => false) = false) (h : w.cell? a = some v) :
    (loadVar ty a).run P w = .ok v w := by
  have hagg : (isAgg ty).run P w = .ok false w := by
    unfold isAgg
    rw [Sem.run_bind, run_underlying hu w]
    cases d <;> simp_all
  simp [loadVar, Sem.run_bind, hagg, run_load, h]
theorem results_cell2 {P : Program} {fn : Func} {p u : Tmp} {t t' : TypeId} {d d' : TypeDesc} {a b : Addr} {x y : Value} (tmps : Array Value) (w : World) (h : fn.results = #[.cell p t, .cell u t'])
    (hp : tmps.getD p undef = .pointer (some a)) (hu : tmps.getD u undef = .pointer (some b)) (h1 : P.underlying t = some d) (h2 : P.underlying t' = some d')
    (k1 : (match d with | .struct _ | .array _ _ => true | _ => false) = false) (k2 : (match d' with | .struct _ | .array _ _ => true | _ => false) = false)
    (hx : w.cell? a = some x) (hy : w.cell? b = some y) : (results fn tmps).run P w = .ok (.tuple #[x, y]) w := by
  have hp' : tmps[p]?.getD undef = .pointer (some a) := by simpa using hp
  have hu' : tmps[u]?.getD undef = .pointer (some b) := by simpa using hu
  simp [results, h, hp', hu', asAddr, Sem.run_bind, Result.andThen, run_loadVar_one h1 k1 hx, run_loadVar_one h2 k2 hy]
end Go.Proofs.YtmpdoikdadjneaaDoor.Ds

/- The plain arithmetic of package share: quotas and remainders, the order of the remainders, division digit by digit, the comparison of fractions. No program is named here. -/
namespace Go.Proofs.YtmpdoikdadjneaaDoor.Sm
open Go Go.RowKit

/-! ## division by two digits of 32 bits -/
/-- one digit: u * 2^32 + v divided by y = y1 * 2^32 + y0 -/
structure Dig (u v y1 y0 : Nat) : Prop where
  hu : u < y1 * 4294967296 + y0
  hv : v < 4294967296
  h1 : 2147483648 ≤ y1
  h2 : y1 < 4294967296
  h0 : y0 < 4294967296
/-- the guess q and its rest r: u = q * y1 + r, and q is not too small -/
def Guess (u v y1 y0 q r : Nat) : Prop := u = q * y1 + r ∧ (u * 4294967296 + v) / (y1 * 4294967296 + y0) ≤ q
theorem Dig.y_pos {u v y1 y0 : Nat} (h : Dig u v y1 y0) : 0 < y1 * 4294967296 + y0 := by have := h.h1; omega
theorem Dig.lt {u v y1 y0 : Nat} (h : Dig u v y1 y0) : (u * 4294967296 + v) / (y1 * 4294967296 + y0) < 4294967296 := by
  rw [Nat.div_lt_iff_lt_mul h.y_pos]
  have h1 := h.hu; have h2 := h.hv
  omega
theorem Dig.start {u v y1 y0 : Nat} (h : Dig u v y1 y0) : Guess u v y1 y0 (u / y1) (u % y1) := by
  have hy := h.h1
  refine ⟨(Nat.div_add_mod' u y1).symm, ?_⟩
  rw [Nat.le_div_iff_mul_le (by omega)]
  generalize hq : (u * 4294967296 + v) / (y1 * 4294967296 + y0) = q
  have h1 : q * (y1 * 4294967296 + y0) ≤ u * 4294967296 + v := by rw [← hq]; exact Nat.div_mul_le_self _ _
  have h2 : q * (y1 * 4294967296 + y0) = q * y1 * 4294967296 + q * y0 := by rw [Nat.mul_add, Nat.mul_assoc]
  have h3 := h.hv
  generalize q * y1 = a at *
  omega
theorem Dig.guess_lt {u v y1 y0 q r : Nat} (h : Dig u v y1 y0) (g : Guess u v y1 y0 q r) : q < 8589934594 := by
  have h1 := g.1; have h2 := h.h1; have h3 := h.hu; have h4 := h.h2; have h5 := h.h0
  have h6 : q * 2147483648 ≤ q * y1 := Nat.mul_le_mul_left _ h2
  generalize q * y1 = a at *
  omega
/-- the test holds: the guess is too great -/
theorem Dig.down {u v y1 y0 q r : Nat} (h : Dig u v y1 y0) (g : Guess u v y1 y0 q r) (ht : 4294967296 ≤ q ∨ 4294967296 * r + v < q * y0) :
    0 < q ∧ Guess u v y1 y0 (q - 1) (r + y1) := by
  have hlt : (u * 4294967296 + v) / (y1 * 4294967296 + y0) < q := by
    rcases ht with h1 | h1
    · exact Nat.lt_of_lt_of_le h.lt h1
    · rw [Nat.div_lt_iff_lt_mul h.y_pos, Nat.mul_add, ← Nat.mul_assoc]
      have h2 := g.1
      generalize q * y1 = a at *
      generalize q * y0 = b at *
      omega
  have h0 : 0 < q := Nat.lt_of_le_of_lt (Nat.zero_le _) hlt
  refine ⟨h0, ?_, Nat.le_sub_one_of_lt hlt⟩
  have h2 := g.1
  obtain ⟨p, rfl⟩ : ∃ p, q = p + 1 := ⟨q - 1, by omega⟩
  rw [Nat.add_mul] at h2
  simp only [Nat.add_sub_cancel]
  omega
/-- the test does not hold, or the rest is past a digit: the guess is the quotient -/
theorem Dig.done {u v y1 y0 q r : Nat} (h : Dig u v y1 y0) (g : Guess u v y1 y0 q r) (ht : q * y0 ≤ 4294967296 * r + v) :
    q = (u * 4294967296 + v) / (y1 * 4294967296 + y0) := by
  refine Nat.le_antisymm ?_ g.2
  rw [Nat.le_div_iff_mul_le h.y_pos, Nat.mul_add, ← Nat.mul_assoc]
  have h2 := g.1
  generalize q * y1 = a at *
  generalize q * y0 = b at *
  omega
theorem Dig.past {u v y1 y0 q r : Nat} (h : Dig u v y1 y0) (g : Guess u v y1 y0 q r) (hr : 4294967296 ≤ r) :
    q = (u * 4294967296 + v) / (y1 * 4294967296 + y0) := by
  refine h.done g ?_
  have hq : q < 4294967296 := by
    by_cases hq : q < 4294967296
    · exact hq
    · have h1 := g.1; have h2 := h.hu; have h3 := h.h0
      have h4 : 4294967296 * y1 ≤ q * y1 := Nat.mul_le_mul_right _ (by omega)
      generalize q * y1 = a at *
      omega
  have h3 := h.h0
  have h4 : q * y0 ≤ q * 4294967296 := Nat.mul_le_mul_left _ (by omega)
  omega
/-- the two digits together -/
theorem two_digits (V Y : Nat) (hY : 0 < Y) :
    V / Y = (V / 4294967296) / Y * 4294967296 + ((V / 4294967296) % Y * 4294967296 + V % 4294967296) / Y ∧
    V % Y = ((V / 4294967296) % Y * 4294967296 + V % 4294967296) % Y := by
  generalize hA : V / 4294967296 = A
  generalize hB : V % 4294967296 = B
  have hV : V = A * 4294967296 + B := by omega
  have hd := Nat.div_add_mod' A Y
  generalize A / Y = a at *
  generalize A % Y = r at *
  have e : V = (r * 4294967296 + B) + Y * (a * 4294967296) := by
    rw [hV, ← hd, Nat.add_mul, Nat.mul_comm Y, Nat.mul_right_comm a Y]; omega
  rw [e]
  constructor
  · rw [Nat.add_mul_div_left _ _ hY]; omega
  · rw [Nat.add_mul_mod_self_left]

theorem div_final {v y s U v1 v0 Y q1 u2 q0 r : Nat} (hV : v * 2 ^ s = (U * 4294967296 + v1) * 4294967296 + v0) (hv0 : v0 < 4294967296) (hY : Y = y * 2 ^ s) (hy : 0 < Y)
    (h1 : q1 = (U * 4294967296 + v1) / Y) (h2 : u2 = (U * 4294967296 + v1) % Y) (h3 : q0 = (u2 * 4294967296 + v0) / Y) (h4 : r = (u2 * 4294967296 + v0) % Y) :
    q1 * 4294967296 + q0 = v / y ∧ r / 2 ^ s = v % y := by
  have hp : 0 < 2 ^ s := Nat.pow_pos (by decide)
  have e1 : v / y = (v * 2 ^ s) / Y := by rw [hY, Nat.mul_div_mul_right _ _ hp]
  have e2 : v % y * 2 ^ s = (v * 2 ^ s) % Y := by rw [hY, Nat.mul_mod_mul_right]
  have e3 : (v * 2 ^ s) / 4294967296 = U * 4294967296 + v1 := by rw [hV]; omega
  have e4 : (v * 2 ^ s) % 4294967296 = v0 := by rw [hV]; omega
  obtain ⟨t1, t2⟩ := two_digits (v * 2 ^ s) Y hy
  rw [e3, e4, ← h1, ← h2] at t1
  rw [e3, e4, ← h2] at t2
  constructor
  · rw [e1, t1, h3]
  · rw [← e2, ← h4] at t2
    rw [← t2, Nat.mul_div_cancel _ hp]
/-- the digits of the dividend, brought to the front -/
theorem div_digits (hi lo s : Nat) (hs : s ≤ 63) : (hi * 18446744073709551616 + lo) * 2 ^ s = (hi * 2 ^ s + lo / 2 ^ (64 - s)) * 18446744073709551616 + lo * 2 ^ s % 18446744073709551616 := by
  have hp : 2 ^ s * 2 ^ (64 - s) = 18446744073709551616 := by rw [← Nat.pow_add, show s + (64 - s) = 64 from by omega]
  have h1 := Nat.div_add_mod (lo * 2 ^ s) 18446744073709551616
  have h2 : lo * 2 ^ s / 18446744073709551616 = lo / 2 ^ (64 - s) := by
    rw [← hp, Nat.mul_comm lo, Nat.mul_div_mul_left _ _ (Nat.pow_pos (by decide))]
  rw [h2] at h1
  rw [Nat.add_mul, Nat.add_mul, Nat.mul_right_comm]
  omega
theorem div_or (hi lo s : Nat) (hs : 1 ≤ s) (hs2 : s ≤ 63) (hl : lo < 18446744073709551616) (h : hi * 2 ^ s + 2 ^ s ≤ 18446744073709551616) :
    bits .or .u64 (IntKind.u64.wrap ((hi : Int) * 2 ^ s)) ((lo : Int) / 2 ^ (64 - s)) = ((hi * 2 ^ s + lo / 2 ^ (64 - s) : Nat) : Int) := by
  have hp : 2 ^ s * 2 ^ (64 - s) = 18446744073709551616 := by rw [← Nat.pow_add, show s + (64 - s) = 64 from by omega]
  have e1 : (hi : Int) * 2 ^ s = ((hi * 2 ^ s : Nat) : Int) := by push_cast; rfl
  have e2 : (lo : Int) / 2 ^ (64 - s) = ((lo / 2 ^ (64 - s) : Nat) : Int) := by push_cast; rfl
  have h3 : lo / 2 ^ (64 - s) < 2 ^ s := by
    rw [Nat.div_lt_iff_lt_mul (Nat.pow_pos (by decide)), hp]; exact hl
  have h4 : 0 < 2 ^ s := Nat.pow_pos (by decide)
  rw [e1, e2, IntKind.wrap_u64, show ((hi * 2 ^ s : Nat) : Int) % 18446744073709551616 = ((hi * 2 ^ s : Nat) : Int) from by omega, bits_or_u64_nat _ _ (by omega) (by omega)]
  have e3 := Nat.shiftLeft_add_eq_or_of_lt (b := lo / 2 ^ (64 - s)) (i := s) h3 hi
  rw [Nat.shiftLeft_eq] at e3
  rw [← e3]
theorem mask32 (a : Nat) (ha : a < 18446744073709551616) : bits .and .u64 (a : Int) 4294967295 = ((a % 4294967296 : Nat) : Int) := by
  have h := bits_and_u64_nat a 4294967295 ha (by omega)
  have e : a &&& 4294967295 = a % 4294967296 := Nat.and_two_pow_sub_one_eq_mod a 32
  rw [e] at h
  exact h
theorem castP (a s : Nat) : (a : Int) * 2 ^ s = ((a * 2 ^ s : Nat) : Int) := by push_cast; rfl
theorem wrapL (a : Nat) : IntKind.u64.wrap (a : Int) = ((a % 18446744073709551616 : Nat) : Int) := by rw [IntKind.wrap_u64]; omega
/-- all that a division by two digits begins with -/
theorem div_setup (hi lo y s : Nat) (hh : hi < y) (hy : y ≤ 1152921504606846976) (hl : lo < 18446744073709551616) (hs : s ≤ 63) (hY1 : 9223372036854775808 ≤ y * 2 ^ s) (hY2 : y * 2 ^ s < 18446744073709551616) :
    ∃ Y U L y1 y0 v1 v0 q p : Nat, Y = y * 2 ^ s ∧ Y < 18446744073709551616 ∧ 0 < Y ∧ (y : Int) * 2 ^ s = (Y : Int) ∧
      bits .or .u64 (IntKind.u64.wrap ((hi : Int) * 2 ^ s)) ((lo : Int) / 2 ^ (64 - s)) = (U : Int) ∧ IntKind.u64.wrap ((lo : Int) * 2 ^ s) = (L : Int) ∧
      (Y : Int) / 4294967296 = (y1 : Int) ∧ bits .and .u64 (Y : Int) 4294967295 = (y0 : Int) ∧ (L : Int) / 4294967296 = (v1 : Int) ∧ bits .and .u64 (L : Int) 4294967295 = (v0 : Int) ∧
      Y = y1 * 4294967296 + y0 ∧ Dig U v1 y1 y0 ∧ (hi * 18446744073709551616 + lo) * 2 ^ s = (U * 4294967296 + v1) * 4294967296 + v0 ∧ v0 < 4294967296 ∧ U < 18446744073709551616 ∧ L < 18446744073709551616 ∧
      (U : Int).tdiv (y1 : Int) = (q : Int) ∧ (q : Int) * (y1 : Int) = (p : Int) ∧ p ≤ U ∧ q ≤ U ∧ Guess U v1 y1 y0 q (U - p) ∧ U - p < 4294967296 := by
  obtain ⟨Y, hY⟩ : ∃ Y, Y = y * 2 ^ s := ⟨_, rfl⟩
  have hYp : Y ≤ y * 2 ^ 63 := by rw [hY]; exact Nat.mul_le_mul_left _ (Nat.pow_le_pow_right (by decide) hs)
  rw [← hY] at hY1 hY2
  have hs1 : 1 ≤ s := by
    by_cases h : 1 ≤ s
    · exact h
    · have : s = 0 := by omega
      subst this
      omega
  have hv := div_digits hi lo s hs
  have hhi : hi * 2 ^ s + 2 ^ s ≤ Y := by
    rw [hY, ← Nat.succ_mul]
    exact Nat.mul_le_mul_right _ hh
  have hor := div_or hi lo s hs1 hs hl (by omega)
  obtain ⟨U, hU⟩ : ∃ U, U = hi * 2 ^ s + lo / 2 ^ (64 - s) := ⟨_, rfl⟩
  have hUY : U < Y := by
    have hp : 2 ^ s * 2 ^ (64 - s) = 18446744073709551616 := by rw [← Nat.pow_add, show s + (64 - s) = 64 from by omega]
    have h3 : lo / 2 ^ (64 - s) < 2 ^ s := by
      rw [Nat.div_lt_iff_lt_mul (Nat.pow_pos (by decide)), hp]; exact hl
    omega
  rw [← hU] at hor hv
  have hL2 : lo * 2 ^ s % 18446744073709551616 < 18446744073709551616 := Nat.mod_lt _ (by decide)
  have f2 := wrapL (lo * 2 ^ s)
  generalize lo * 2 ^ s % 18446744073709551616 = L at *
  have hD : Dig U (L / 4294967296) (Y / 4294967296) (Y % 4294967296) := ⟨by omega, by omega, by omega, by omega, by omega⟩
  have hst := hD.start
  have hm := Nat.div_add_mod' U (Y / 4294967296)
  have hm2 := Nat.mod_lt U (show 0 < Y / 4294967296 by have := hD.h1; omega)
  have e : U % (Y / 4294967296) = U - U / (Y / 4294967296) * (Y / 4294967296) := by omega
  rw [e] at hst
  refine ⟨Y, U, L, Y / 4294967296, Y % 4294967296, L / 4294967296, L % 4294967296, U / (Y / 4294967296), U / (Y / 4294967296) * (Y / 4294967296), hY, hY2, by omega, by rw [castP, hY], hor, by rw [castP, f2],
    by omega, mask32 Y hY2, by omega, mask32 L hL2, by omega, hD, ?_, by omega, by omega, hL2, ?_, (Int.natCast_mul _ _).symm, ?_, Nat.div_le_self _ _, hst, ?_⟩
  · rw [hv]; omega
  · rw [Int.tdiv_eq_ediv_of_nonneg (by omega)]; exact (Int.natCast_ediv _ _).symm
  · omega
  · have := hD.h2; omega
/-- what is left behind a digit, in words of 64 bits -/
theorem div_rest {U v q Y u : Nat} (hY : Y < 18446744073709551616) (hY0 : 0 < Y) (hq : q = (U * 4294967296 + v) / Y) (hu : u = (U * 4294967296 + v) % Y) :
    IntKind.u64.wrap (IntKind.u64.wrap (IntKind.u64.wrap ((U : Int) * 4294967296) + (v : Int)) - IntKind.u64.wrap ((q : Int) * (Y : Int))) = (u : Int) := by
  have h1 := Nat.div_add_mod' (U * 4294967296 + v) Y
  have h2 := Nat.mod_lt (U * 4294967296 + v) hY0
  rw [← hq, ← hu] at h1
  rw [← hu] at h2
  rw [← Int.natCast_mul]
  generalize q * Y = c at *
  simp only [IntKind.wrap_u64]
  omega
theorem Dig.next {U v1 y1 y0 v0 Y u : Nat} (h : Dig U v1 y1 y0) (hY : Y = y1 * 4294967296 + y0) (hv : v0 < 4294967296) (hu : u = (U * 4294967296 + v1) % Y) : Dig u v0 y1 y0 :=
  ⟨by rw [← hY, hu]; exact Nat.mod_lt _ (by rw [hY]; exact h.y_pos), hv, h.h1, h.h2, h.h0⟩
/-- the guess that a digit begins with -/
theorem Dig.first {u v y1 y0 : Nat} (h : Dig u v y1 y0) : ∃ q p : Nat, (u : Int).tdiv (y1 : Int) = (q : Int) ∧ (q : Int) * (y1 : Int) = (p : Int) ∧ p ≤ u ∧ q ≤ u ∧ Guess u v y1 y0 q (u - p) ∧ u - p < 4294967296 := by
  have hst := h.start
  have hm := Nat.div_add_mod' u y1
  have hm2 := Nat.mod_lt u (show 0 < y1 by have := h.h1; omega)
  have e : u % y1 = u - u / y1 * y1 := by omega
  rw [e] at hst
  refine ⟨u / y1, u / y1 * y1, ?_, (Int.natCast_mul _ _).symm, ?_, Nat.div_le_self _ _, hst, ?_⟩
  · rw [Int.tdiv_eq_ediv_of_nonneg (by omega)]; exact (Int.natCast_ediv _ _).symm
  · omega
  · have := h.h2; omega
theorem div_top {hi lo y q q0 : Nat} (hh : hi < y) (hl : lo < 18446744073709551616) (h : q * 4294967296 + q0 = (hi * 18446744073709551616 + lo) / y) : IntKind.u64.wrap (IntKind.u64.wrap ((q : Int) * 4294967296) + (q0 : Int)) = ((q * 4294967296 + q0 : Nat) : Int) := by
  have h1 : (hi * 18446744073709551616 + lo) / y < 18446744073709551616 := by
    rw [Nat.div_lt_iff_lt_mul (by omega)]
    have := Nat.mul_le_mul_left 18446744073709551616 (show hi + 1 ≤ y from hh)
    omega
  simp only [IntKind.wrap_u64]
  omega
/-! ## the reference's division, bit by bit -/
def DivSt (A b d j a q r : Nat) : Prop := a = A % 2 ^ j ∧ q * d + r = A / 2 ^ j * b ∧ r < d ∧ q ≤ 1152921504606846976
theorem DivSt.start {A b d : Nat} (hA : A ≤ 1152921504606846976) (hd : 0 < d) : DivSt A b d 61 A 0 0 := by
  refine ⟨(Nat.mod_eq_of_lt (by omega)).symm, ?_, hd, by omega⟩
  rw [Nat.div_eq_of_lt (by omega)]
  simp
theorem bit_split (A i : Nat) : A / 2 ^ i = 2 * (A / 2 ^ (i + 1)) + (if 2 ^ i ≤ A % 2 ^ (i + 1) then 1 else 0) ∧ A % 2 ^ i = A % 2 ^ (i + 1) - (if 2 ^ i ≤ A % 2 ^ (i + 1) then 2 ^ i else 0) := by
  have hp : 0 < 2 ^ i := Nat.pow_pos (by decide)
  have hp2 : 2 ^ (i + 1) = 2 ^ i * 2 := Nat.pow_succ ..
  generalize 2 ^ i = p at *
  rw [hp2]
  have h1 := Nat.div_add_mod A (p * 2)
  have h2 := Nat.mod_lt A (show 0 < p * 2 by omega)
  generalize A / (p * 2) = x at *
  generalize A % (p * 2) = y at *
  have e1 : p * 2 * x = p * (2 * x) := Nat.mul_assoc ..
  split
  · have e : A = (y - p) + p * (2 * x + 1) := by rw [Nat.mul_add, Nat.mul_one]; omega
    rw [e, Nat.add_mul_div_left _ _ hp, Nat.add_mul_mod_self_left, Nat.div_eq_of_lt (by omega), Nat.mod_eq_of_lt (by omega)]
    omega
  · have e : A = y + p * (2 * x) := by omega
    rw [e, Nat.add_mul_div_left _ _ hp, Nat.add_mul_mod_self_left, Nat.div_eq_of_lt (by omega), Nat.mod_eq_of_lt (by omega)]
    omega
/-- one round: what is doubled, and the divisor's part that comes in with a bit -/
theorem DivSt.zero {A b d i a q r : Nat} (h : DivSt A b d (i + 1) a q r) (hb : a < 2 ^ i) (q' r' : Nat)
    (he : q' * d + r' = (2 * q) * d + 2 * r) (hr : r' < d) (hq : q' ≤ 1152921504606846976) : DivSt A b d i a q' r' := by
  obtain ⟨rfl, h2, h3, h4⟩ := h
  obtain ⟨e1, e2⟩ := bit_split A i
  rw [if_neg (by omega)] at e1 e2
  refine ⟨by omega, ?_, hr, hq⟩
  rw [he, e1, Nat.add_zero, Nat.mul_assoc, Nat.mul_assoc, ← Nat.mul_add, h2]
theorem DivSt.one {A b d i a q r : Nat} (h : DivSt A b d (i + 1) a q r) (hb : 2 ^ i ≤ a) (q' r' : Nat)
    (he : q' * d + r' = (2 * q) * d + 2 * r + b) (hr : r' < d) (hq : q' ≤ 1152921504606846976) : DivSt A b d i (a - 2 ^ i) q' r' := by
  obtain ⟨rfl, h2, h3, h4⟩ := h
  obtain ⟨e1, e2⟩ := bit_split A i
  rw [if_pos hb] at e1 e2
  refine ⟨by omega, ?_, hr, hq⟩
  rw [he, e1, Nat.add_mul, Nat.one_mul, Nat.mul_assoc, Nat.mul_assoc, ← Nat.mul_add, h2]
theorem DivSt.over0 {A b d i a q r : Nat} (hd : 0 < d) (h : DivSt A b d (i + 1) a q r) (hb : a < 2 ^ i) (q' r' : Nat)
    (he : q' * d + r' = (2 * q) * d + 2 * r) (hq : 1152921504606846976 < q') : 1152921504606846976 < A * b / d := by
  obtain ⟨rfl, h2, h3, h4⟩ := h
  obtain ⟨e1, e2⟩ := bit_split A i
  rw [if_neg (by omega), Nat.add_zero] at e1
  have h5 : q' * d ≤ A * b := by
    have : q' * d ≤ A / 2 ^ i * b := by rw [e1, Nat.mul_assoc, ← h2, Nat.mul_add, ← Nat.mul_assoc]; omega
    exact Nat.le_trans this (Nat.mul_le_mul_right _ (Nat.div_le_self _ _))
  exact Nat.lt_of_lt_of_le hq ((Nat.le_div_iff_mul_le hd).2 h5)
theorem DivSt.over1 {A b d i a q r : Nat} (hd : 0 < d) (h : DivSt A b d (i + 1) a q r) (hb : 2 ^ i ≤ a) (q' r' : Nat)
    (he : q' * d + r' = (2 * q) * d + 2 * r + b) (hq : 1152921504606846976 < q') : 1152921504606846976 < A * b / d := by
  obtain ⟨rfl, h2, h3, h4⟩ := h
  obtain ⟨e1, e2⟩ := bit_split A i
  rw [if_pos hb] at e1
  have h5 : q' * d ≤ A * b := by
    have : q' * d ≤ A / 2 ^ i * b := by rw [e1, Nat.add_mul, Nat.one_mul, Nat.mul_assoc, ← h2, Nat.mul_add, ← Nat.mul_assoc]; omega
    exact Nat.le_trans this (Nat.mul_le_mul_right _ (Nat.div_le_self _ _))
  exact Nat.lt_of_lt_of_le hq ((Nat.le_div_iff_mul_le hd).2 h5)
theorem DivSt.stop {A b d a q r : Nat} (h : DivSt A b d 0 a q r) : q = A * b / d ∧ r = A * b % d ∧ A * b / d ≤ 1152921504606846976 := by
  obtain ⟨_, h2, h3, h4⟩ := h
  rw [Nat.pow_zero, Nat.div_one] at h2
  have hd : 0 < d := by omega
  have e : A * b = r + d * q := by rw [← h2, Nat.mul_comm d]; omega
  rw [e, Nat.add_mul_div_left _ _ hd, Nat.add_mul_mod_self_left, Nat.div_eq_of_lt h3, Nat.mod_eq_of_lt h3]
  omega

/-! ## the comparison of fractions -/
def cmp4 (a b c d : Nat) : Int := if a * d < c * b then -1 else if c * b < a * d then 1 else 0
theorem cmp4_whole_lt {a b c d : Nat} (hb : 0 < b) (hd : 0 < d) (h : a / b < c / d) : cmp4 a b c d = -1 := by
  unfold cmp4
  rw [if_pos]
  have h1 : a < (a / b + 1) * b := by rw [Nat.add_mul, Nat.one_mul]; have := Nat.div_add_mod' a b; have := Nat.mod_lt a hb; omega
  have h2 : c / d * d ≤ c := Nat.div_mul_le_self c d
  have h3 : (a / b + 1) * b * d ≤ c * b := by
    have : (a / b + 1) * d ≤ c := Nat.le_trans (Nat.mul_le_mul_right _ h) h2
    rw [Nat.mul_right_comm]
    exact Nat.mul_le_mul_right _ this
  exact Nat.lt_of_lt_of_le (Nat.mul_lt_mul_of_pos_right h1 hd) h3
theorem cmp4_swap (a b c d : Nat) : cmp4 c d a b = -cmp4 a b c d := by
  unfold cmp4
  by_cases h1 : a * d < c * b
  · rw [if_neg (by omega), if_pos h1, if_pos h1]; rfl
  · by_cases h2 : c * b < a * d
    · rw [if_pos h2, if_neg h1, if_pos h2]
    · rw [if_neg h2, if_neg h1, if_neg h1, if_neg h2]; rfl
theorem cmp4_whole_gt {a b c d : Nat} (hb : 0 < b) (hd : 0 < d) (h : c / d < a / b) : cmp4 a b c d = 1 := by
  have := cmp4_whole_lt hd hb h
  rw [cmp4_swap] at this
  omega
theorem cmp4_rest {a b c d : Nat} (h : a / b = c / d) : cmp4 a b c d = cmp4 (a % b) b (c % d) d := by
  have h1 := Nat.div_add_mod' a b
  have h2 := Nat.div_add_mod' c d
  rw [← h] at h2
  generalize a / b = k at *
  generalize a % b = p at *
  generalize c % d = q at *
  unfold cmp4
  have e1 : a * d = k * (b * d) + p * d := by rw [← h1, Nat.add_mul, Nat.mul_assoc]
  have e2 : c * b = k * (b * d) + q * b := by rw [← h2, Nat.add_mul, Nat.mul_assoc, Nat.mul_comm d b]
  rw [e1, e2]
  simp only [Nat.add_lt_add_iff_left]
theorem cmp4_flip {a b c d : Nat} : cmp4 a b c d = -cmp4 b a d c := by
  rw [← cmp4_swap]
  unfold cmp4
  rw [Nat.mul_comm a d, Nat.mul_comm c b]
theorem cmp4_00 {b d : Nat} : cmp4 0 b 0 d = 0 := by simp [cmp4]
theorem cmp4_0p {b c d : Nat} (hb : 0 < b) (hc : 0 < c) : cmp4 0 b c d = -1 := by
  unfold cmp4; rw [if_pos (by rw [Nat.zero_mul]; exact Nat.mul_pos hc hb)]
theorem cmp4_p0 {a b d : Nat} (ha : 0 < a) (hd : 0 < d) : cmp4 a b 0 d = 1 := by
  have := cmp4_0p (d := b) hd ha
  rw [cmp4_swap] at this
  omega
theorem cmp4_range (a b c d : Nat) : cmp4 a b c d = -1 ∨ cmp4 a b c d = 0 ∨ cmp4 a b c d = 1 := by
  unfold cmp4; split
  · exact .inl rfl
  · split
    · exact .inr (.inr rfl)
    · exact .inr (.inl rfl)
theorem cmp4_mul {k a b : Nat} : cmp4 a b (k * a) (k * b) = 0 := by
  unfold cmp4
  have : a * (k * b) = k * a * b := by rw [← Nat.mul_assoc, Nat.mul_comm a k]
  rw [if_neg (by omega), if_neg (by omega)]
theorem cmp4_le {a b c d : Nat} : cmp4 a b c d ≤ 0 ↔ a * d ≤ c * b := by
  unfold cmp4
  by_cases h1 : a * d < c * b
  · rw [if_pos h1]; constructor <;> intro _ <;> omega
  · by_cases h2 : c * b < a * d
    · rw [if_neg h1, if_pos h2]; constructor <;> intro _ <;> omega
    · rw [if_neg h1, if_neg h2]; constructor <;> intro _ <;> omega
theorem frac_trans {a b c d e f : Nat} (hd : 0 < d) (h1 : a * d ≤ c * b) (h2 : c * f ≤ e * d) : a * f ≤ e * b := by
  have e1 : a * f * d ≤ e * b * d := by
    calc a * f * d = a * d * f := Nat.mul_right_comm ..
      _ ≤ c * b * f := Nat.mul_le_mul_right _ h1
      _ = c * f * b := Nat.mul_right_comm ..
      _ ≤ e * d * b := Nat.mul_le_mul_right _ h2
      _ = e * b * d := Nat.mul_right_comm ..
  exact Nat.le_of_mul_le_mul_right e1 hd
theorem cmp4_trans {a b c d e f : Nat} (hd : 0 < d) (h1 : cmp4 a b c d ≤ 0) (h2 : cmp4 c d e f ≤ 0) : cmp4 a b e f ≤ 0 :=
  cmp4_le.2 (frac_trans hd (cmp4_le.1 h1) (cmp4_le.1 h2))
theorem cmp4_trans' {a b c d e f : Nat} (hd : 0 < d) (h1 : 0 ≤ cmp4 a b c d) (h2 : 0 ≤ cmp4 c d e f) : 0 ≤ cmp4 a b e f := by
  have := cmp4_trans (a := e) (b := f) (c := c) (d := d) (e := a) (f := b) hd (by rw [cmp4_swap]; omega) (by rw [cmp4_swap]; omega)
  rw [cmp4_swap] at this
  omega
/-- by the two halves of the products -/
theorem cmp4_halves (a b c d K : Nat) (hK : 0 < K) : cmp4 a b c d = if a * d / K < c * b / K then -1 else if c * b / K < a * d / K then 1 else if a * d % K < c * b % K then -1 else if c * b % K < a * d % K then 1 else 0 := by
  unfold cmp4
  have h1 := Nat.div_add_mod' (a * d) K
  have h2 := Nat.div_add_mod' (c * b) K
  have h3 := Nat.mod_lt (a * d) hK
  have h4 := Nat.mod_lt (c * b) hK
  have hdiv : ∀ x y : Nat, x / K < y / K → x < y := fun x y h => by
    by_cases hxy : x < y
    · exact hxy
    · have := Nat.div_le_div_right (c := K) (show y ≤ x by omega); omega
  generalize a * d = x at *
  generalize c * b = y at *
  by_cases hl : x / K < y / K
  · rw [if_pos hl, if_pos (hdiv _ _ hl)]
  · rw [if_neg hl]
    by_cases hg : y / K < x / K
    · have := hdiv _ _ hg
      rw [if_pos hg, if_neg (by omega), if_pos this]
    · have he : x / K = y / K := by omega
      rw [if_neg hg]
      rw [he] at h1
      generalize y / K * K = z at *
      by_cases hm : x % K < y % K
      · rw [if_pos hm, if_pos (by omega)]
      · by_cases hm' : y % K < x % K
        · rw [if_neg hm, if_pos hm', if_neg (by omega), if_pos (by omega)]
        · rw [if_neg hm, if_neg hm', if_neg (by omega), if_neg (by omega)]
end Go.Proofs.YtmpdoikdadjneaaDoor.Sm
