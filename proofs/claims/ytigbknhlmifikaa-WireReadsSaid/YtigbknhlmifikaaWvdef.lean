/- A value of the call's own in memory: its box, its rows; what becomes of them. -/
import Derived.Test.YtigbknhlmifikaaWenc
namespace Go.Proofs.Ytigbknhlmifikaa
open Go.RowKit Hb Wm

def Box5 (W : World) (p : Nat) (c0 c1 c2 c3 c4 : Value) : Prop := W.heap[p]? = some (.cells #[c0, c1, c2, c3, c4] 28 (0, 0))
section
variable {W W' : World} {p : Nat} {c0 c1 c2 c3 c4 : Value}
theorem Box5.lt (h : Box5 W p c0 c1 c2 c3 c4) : p < W.heap.size := (Array.getElem?_eq_some_iff.1 h).1
theorem Box5.cell0 (h : Box5 W p c0 c1 c2 c3 c4) : W.cell? ⟨p, 0, none⟩ = some c0 := by simp [World.cell?, show W.heap[p]? = _ from h]
theorem Box5.cell1 (h : Box5 W p c0 c1 c2 c3 c4) : W.cell? ⟨p, 1, none⟩ = some c1 := by simp [World.cell?, show W.heap[p]? = _ from h]
theorem Box5.cell2 (h : Box5 W p c0 c1 c2 c3 c4) : W.cell? ⟨p, 2, none⟩ = some c2 := by simp [World.cell?, show W.heap[p]? = _ from h]
theorem Box5.cell3 (h : Box5 W p c0 c1 c2 c3 c4) : W.cell? ⟨p, 3, none⟩ = some c3 := by simp [World.cell?, show W.heap[p]? = _ from h]
theorem Box5.cell4 (h : Box5 W p c0 c1 c2 c3 c4) : W.cell? ⟨p, 4, none⟩ = some c4 := by simp [World.cell?, show W.heap[p]? = _ from h]
theorem Box5.fz (h : Box5 W p c0 c1 c2 c3 c4) (i : Nat) : W.frozen? ⟨p, i, none⟩ = false := by simp [World.frozen?, show W.heap[p]? = _ from h]
theorem Box5.kept {row : Option Nat} (h : Box5 W p c0 c1 c2 c3 c4) (hg : W.grownBy W' row) (hne : some p ≠ row) : Box5 W' p c0 c1 c2 c3 c4 := (hg.block p h.lt hne).trans h
theorem Box5.below {B : Nat} (h : Box5 W p c0 c1 c2 c3 c4) (hB : Below B W W') (hp : p < B) : Box5 W' p c0 c1 c2 c3 c4 := (hB.block p hp).trans h
theorem Box5.new (W : World) (c0 c1 c2 c3 c4 : Value) : Box5 (W.alloc (.cells #[c0, c1, c2, c3, c4] 28)) W.heap.size c0 c1 c2 c3 c4 := World.alloc_heap_new W _
theorem Box5.set (h : Box5 W p c0 c1 c2 c3 c4) (i : Nat) (u : Value) : (W.setCell ⟨p, i, none⟩ u).heap[p]? = some (.cells (#[c0, c1, c2, c3, c4].setIfInBounds i u) 28 (0, 0)) := by
  have hlt := h.lt
  have hk : W.heap[p] = .cells #[c0, c1, c2, c3, c4] 28 (0, 0) := (Array.getElem?_eq_some_iff.1 h).2
  show (W.heap.modify p _)[p]? = _
  rw [Array.getElem?_eq_getElem (by rw [Array.size_modify]; exact hlt), Array.getElem_modify_self, hk]
  rfl
theorem Box5.set1 (h : Box5 W p c0 c1 c2 c3 c4) (u : Value) : Box5 (W.setCell ⟨p, 1, none⟩ u) p c0 u c2 c3 c4 := h.set 1 u
theorem Box5.set2 (h : Box5 W p c0 c1 c2 c3 c4) (u : Value) : Box5 (W.setCell ⟨p, 2, none⟩ u) p c0 c1 u c3 c4 := h.set 2 u
theorem Box5.set3 (h : Box5 W p c0 c1 c2 c3 c4) (u : Value) : Box5 (W.setCell ⟨p, 3, none⟩ u) p c0 c1 c2 u c4 := h.set 3 u
theorem Box5.set4 (h : Box5 W p c0 c1 c2 c3 c4) (u : Value) : Box5 (W.setCell ⟨p, 4, none⟩ u) p c0 c1 c2 c3 u := h.set 4 u
end
theorem Box5.not_row {W : World} {p : Nat} {c0 c1 c2 c3 c4 : Value} (h : Box5 W p c0 c1 c2 c3 c4) {e : TypeId} (he : 28 ≠ e) {base size k : Nat} {v : Value} {xs : List Value} (hr : W.ownsRow base e size v k xs) : some p ≠ v.ownBlock := by
  rcases hr.2 with ⟨rfl, _⟩ | ⟨g, cap, cur, rfl, _, hgb, _⟩
  · simp [Value.ownBlock]
  · intro e'
    obtain rfl : p = g := by simpa [Value.ownBlock] using e'
    have := (show W.heap[p]? = _ from h).symm.trans hgb
    simp at this
    exact he this.2
theorem Box5.ad {W : World} {p : Nat} {c0 c1 c2 c3 c4 : Value} (h : Box5 W p c0 c1 c2 c3 c4) (o : Obj) : Box5 (W.alloc o).drew p c0 c1 c2 c3 c4 := (h.kept (World.grownBy_alloc W o none) (by simp) : Box5 (W.alloc o) p c0 c1 c2 c3 c4)
theorem u8_byte (n : Int) : ∃ q : UInt8, IntKind.u8.wrap n = (q.toNat : Int) := by
  rw [IntKind.wrap_u8]
  refine ⟨UInt8.ofNat (n % 256).toNat, ?_⟩
  simp
  omega
/-- a slice of one-cell elements of type e that begins its block, marked or not -/
def TRow (w : World) (base : Nat) (e : TypeId) (A : Option Addr) (n c : Nat) (xs : List Value) : Prop :=
  xs.length = n ∧ n ≤ c ∧ c ≤ maxLen ∧ ((A = none ∧ n = 0) ∨ ∃ (g : Nat) (cur : Array Value) (fr : Nat × Nat), A = some ⟨g, 0, none⟩ ∧ base ≤ g ∧ w.heap[g]? = some (.cells cur e fr) ∧ cur.toList.take n = xs)
section
variable {w W : World} {base n c : Nat} {e : TypeId} {A : Option Addr} {xs : List Value}
theorem TRow.of_own (h : w.ownsRow base e 1 (.slice A n c) n xs) : TRow w base e A n c xs := by
  refine ⟨by simpa using h.1, own_le h, own_cap h, ?_⟩
  rcases h.2 with ⟨hv, h0⟩ | ⟨g, cap, cur, hv, hb, hg, _, _, _, ht⟩
  · injection hv with h1 h2 h3; exact .inl ⟨h1, h0⟩
  · injection hv with h1 h2 h3
    exact .inr ⟨g, cur, _, h1, hb, hg, by rwa [Nat.mul_one] at ht⟩
theorem TRow.nil (w : World) (base : Nat) (e : TypeId) : TRow w base e none 0 0 [] := ⟨rfl, Nat.le_refl _, Nat.zero_le _, .inl ⟨rfl, rfl⟩⟩
theorem TRow.rd (h : TRow w base e A n c xs) : Rd w w.heap.size A n xs := by
  obtain ⟨hl, _, _, h⟩ := h
  refine ⟨hl, fun hn => ?_⟩
  rcases h with ⟨_, h0⟩ | ⟨g, cur, fr, rfl, hb, hg, ht⟩
  · omega
  · refine ⟨_, rfl, (Array.getElem?_eq_some_iff.1 hg).1, fun j u hj => ?_⟩
    rw [add_plain, Nat.zero_add, cell_of_row _ _ _ _ _ _ hg, ← hj, ← ht, List.getElem?_take, if_pos (by have := (List.getElem?_eq_some_iff.1 hj).1; omega)]
    simp
theorem TRow.below {C : Nat} (h : TRow w base e A n c xs) (hB : Below C w W) (hC : w.heap.size ≤ C) : TRow W base e A n c xs := by
  obtain ⟨hl, h1, h2, h⟩ := h
  refine ⟨hl, h1, h2, ?_⟩
  rcases h with h | ⟨g, cur, fr, rfl, hb, hg, ht⟩
  · exact .inl h
  · exact .inr ⟨g, cur, fr, rfl, hb, (hB.block g (by have := (Array.getElem?_eq_some_iff.1 hg).1; omega)).trans hg, ht⟩
theorem TRow.lower {base' : Nat} (h : TRow w base e A n c xs) (hb : base' ≤ base) : TRow w base' e A n c xs := by
  obtain ⟨hl, h1, h2, h⟩ := h
  refine ⟨hl, h1, h2, ?_⟩
  rcases h with h | ⟨g, cur, fr, rfl, hb', hg, ht⟩
  · exact .inl h
  · exact .inr ⟨g, cur, fr, rfl, by omega, hg, ht⟩
/-- the one block that may have turned holds elements of another type -/
theorem TRow.kept {g' : Nat} {cur' : Array Value} {e' : TypeId} {fr' : Nat × Nat} (h : TRow w base e A n c xs) (hg : w.grownBy W (some g')) (hg' : w.heap[g']? = some (.cells cur' e' fr')) (he : e ≠ e') : TRow W base e A n c xs := by
  obtain ⟨hl, h1, h2, h⟩ := h
  refine ⟨hl, h1, h2, ?_⟩
  rcases h with h | ⟨g, cur, fr, rfl, hb, hgg, ht⟩
  · exact .inl h
  · refine .inr ⟨g, cur, fr, rfl, hb, (hg.block g (Array.getElem?_eq_some_iff.1 hgg).1 (fun e1 => ?_)).trans hgg, ht⟩
    cases e1
    rw [hgg] at hg'
    simp at hg'
    exact he hg'.2.1
theorem TRow.kept_none (h : TRow w base e A n c xs) (hg : w.grownBy W none) : TRow W base e A n c xs := by
  obtain ⟨hl, h1, h2, h⟩ := h
  refine ⟨hl, h1, h2, ?_⟩
  rcases h with h | ⟨g, cur, fr, rfl, hb, hgg, ht⟩
  · exact .inl h
  · exact .inr ⟨g, cur, fr, rfl, hb, (hg.block g (Array.getElem?_eq_some_iff.1 hgg).1 (by simp)).trans hgg, ht⟩
theorem TRow.kept_row {b m s : Nat} {e' : TypeId} {x : Value} {l : List Value} (h : TRow w base e A n c xs) (hx : w.ownsRow b e' s x m l) (hg : w.grownBy W x.ownBlock) (he : e ≠ e') : TRow W base e A n c xs := by
  rcases hx.2 with ⟨rfl, _⟩ | ⟨g, cap, cur, rfl, _, hgb, _⟩
  · exact h.kept_none hg
  · exact h.kept hg hgb he
end
/-- a value of the call's own -/
structure RvOwn (w : World) (base : Nat) (r : RV) (v : VV) : Prop where
  k : r.k = (v.k : Int)
  u : r.u = (v.u : Int)
  n : r.n = v.n
  b : TRow w base 5 r.A r.m r.c (v.b.map bv)
  l : TRow w base 3 r.A' r.m' r.c' (v.l.map iv)
def OwnVs (w : World) (base : Nat) (x : Value) (n : Nat) (vs : List VV) : Prop :=
  ∃ rs : List RV, w.ownsRow base 28 5 x n (rs.flatMap RV.cells) ∧ rs.length = n ∧ vs.length = n ∧ ∀ (j : Nat) (r : RV) (v : VV), rs[j]? = some r → vs[j]? = some v → RvOwn w base r v
structure _root_.Go.Proofs.Ytigbknhlmifikaa.Wm.VV.canon (v : VV) : Prop where
  ok : v.ok
  u : v.k ≠ 0 → v.u = 0
  n : v.k ≠ 1 → v.k ≠ 2 → v.n = 0
  n2 : v.k = 2 → v.n = 0 ∨ v.n = 1
  b : v.k ≠ 3 → v.k ≠ 4 → v.b = []
  l : v.k ≠ 5 → v.l = []
theorem own_ne {W : World} {b b' : Nat} {e e' : TypeId} {s s' : Nat} {x y : Value} {n m : Nat} {l l' : List Value} (he : e ≠ e') (h : W.ownsRow b e s x n l) (h' : W.ownsRow b' e' s' y m l') : x.ownBlock = none ∨ x.ownBlock ≠ y.ownBlock := by
  rcases h.2 with ⟨rfl, _⟩ | ⟨g, cap, cur, rfl, _, hg, _⟩
  · exact .inl rfl
  · refine .inr fun e1 => ?_
    rcases h'.2 with ⟨rfl, _⟩ | ⟨g', cap', cur', rfl, _, hg', _⟩
    · cases e1
    · have : g = g' := by simpa [Value.ownBlock] using e1
      subst this
      rw [hg] at hg'
      simp at hg'
      exact he hg'.2
theorem RvOwn.below {w W : World} {base C : Nat} {r : RV} {v : VV} (h : RvOwn w base r v) (hB : Below C w W) (hC : w.heap.size ≤ C) : RvOwn W base r v :=
  ⟨h.k, h.u, h.n, h.b.below hB hC, h.l.below hB hC⟩
theorem RvOwn.base {w : World} {base base' : Nat} {r : RV} {v : VV} (h : RvOwn w base r v) (hb : base' ≤ base) : RvOwn w base' r v := ⟨h.k, h.u, h.n, h.b.lower hb, h.l.lower hb⟩
theorem RvOwn.kept {W W' : World} {base b n : Nat} {r : RV} {v : VV} {x : Value} {l : List Value} (h : RvOwn W base r v) (hx : W.ownsRow b 28 5 x n l) (hg : W.grownBy W' x.ownBlock) : RvOwn W' base r v :=
  ⟨h.k, h.u, h.n, h.b.kept_row hx hg (by decide), h.l.kept_row hx hg (by decide)⟩
/-- the box behind the switch holds a value in its own form -/
def VRel (wr wx : World) : Prop := ∃ (r : RV) (v : VV), (v.canon ∧ v.b.length ≤ 9 ∧ v.l.length ≤ 4) ∧ Box5 wx wr.heap.size (.int .i64 r.k) (.int .u64 r.u) (.int .i64 r.n) (.slice r.A r.m r.c) (.slice r.A' r.m' r.c') ∧ RvOwn wx wr.heap.size r v ∧ Below wr.heap.size wr wx
theorem own_grown5 {w w' W : World} {base size : Nat} {e : TypeId} {v : Value} {n : Nat} {xs : List Value} (hb : Below base W w) (hown : w.ownsRow base e size v n xs) (hg : w.grownBy w' v.ownBlock) (hB : base ≤ w.heap.size) : Below base W w' :=
  hb.grown hg hB fun k hk => (hown.lt k hk).1
theorem vk0 (wr : World) (X : Int) (h0 : 0 ≤ X) (h1 : X < 18446744073709551616) : VRel wr (wr.alloc (.cells #[.int .i64 0, .int .u64 X, .int .i64 0, .slice none 0 0, .slice none 0 0] 28)) :=
  ⟨⟨0, X, 0, none, 0, 0, none, 0, 0⟩, ⟨0, X.toNat, 0, [], []⟩, ⟨⟨⟨by simp, by simp only; omega, by simp, by simp, by simp, by simp⟩, by simp, by simp, by simp, by simp, by simp⟩, by simp, by simp⟩, Box5.new wr _ _ _ _ _,
    ⟨rfl, by simp only; omega, rfl, TRow.nil _ _ _, TRow.nil _ _ _⟩, (Below.refl _ _).alloc (Nat.le_refl _) _⟩
theorem vk1 (wr : World) (X : Int) (h0 : -9223372036854775808 ≤ X) (h1 : X ≤ 9223372036854775807) : VRel wr (wr.alloc (.cells #[.int .i64 1, .int .u64 0, .int .i64 X, .slice none 0 0, .slice none 0 0] 28)) :=
  ⟨⟨1, 0, X, none, 0, 0, none, 0, 0⟩, ⟨1, 0, X, [], []⟩, ⟨⟨⟨by simp, by simp, ⟨h0, h1⟩, by simp, by simp, by simp⟩, by simp, by simp, by simp, by simp, by simp⟩, by simp, by simp⟩, Box5.new wr _ _ _ _ _,
    ⟨rfl, rfl, rfl, TRow.nil _ _ _, TRow.nil _ _ _⟩, (Below.refl _ _).alloc (Nat.le_refl _) _⟩
theorem vk34 (wo wr : World) (k : Nat) (hk : k = 3 ∨ k = 4) (bs : List UInt8) (A : Option Addr) (j c : Nat) (hbs : bs.length = j) (hj : j ≤ 9) (hb : Box5 wr wo.heap.size (.int .i64 k) (.int .u64 0) (.int .i64 0) (.slice A j c) (.slice none 0 0))
    (ho : wr.ownsRow wo.heap.size 5 1 (.slice A j c) j (bs.map bv)) (hB : Below wo.heap.size wo wr) : VRel wo wr :=
  ⟨⟨k, 0, 0, A, j, c, none, 0, 0⟩, ⟨k, 0, 0, bs, []⟩, ⟨⟨⟨by simp only; omega, by simp, by simp, by simp only; omega, by simp, by simp⟩, fun _ => rfl, fun _ _ => rfl, by simp only; omega, fun h3 h4 => by simp only at h3 h4; omega, fun _ => rfl⟩, by simp only; omega, by simp⟩, hb,
    ⟨rfl, rfl, rfl, TRow.of_own ho, TRow.nil _ _ _⟩, hB⟩
theorem vk5 (wo wr : World) (ls : List Int) (A : Option Addr) (j c : Nat) (hls : ls.length = j) (hj : j ≤ 4) (hll : ∀ y ∈ ls, -9223372036854775808 ≤ y ∧ y ≤ 9223372036854775807) (hb : Box5 wr wo.heap.size (.int .i64 5) (.int .u64 0) (.int .i64 0) (.slice none 0 0) (.slice A j c))
    (ho : wr.ownsRow wo.heap.size 3 1 (.slice A j c) j (ls.map iv)) (hB : Below wo.heap.size wo wr) : VRel wo wr :=
  ⟨⟨5, 0, 0, none, 0, 0, A, j, c⟩, ⟨5, 0, 0, [], ls⟩, ⟨⟨⟨by simp, by simp, by simp, by simp, by simp only; omega, hll⟩, fun _ => rfl, fun _ _ => rfl, by simp, fun _ _ => rfl, by simp⟩, by simp, by simp only; omega⟩, hb,
    ⟨rfl, rfl, rfl, TRow.nil _ _ _, TRow.of_own ho⟩, hB⟩
theorem snoc_all {P : Int → Prop} {l : List Int} {q : Int} (h : ∀ y ∈ l, P y) (hq : P q) : ∀ y ∈ l ++ [q], P y := fun y hy => by
  rcases List.mem_append.1 hy with h1 | h1
  · exact h y h1
  · rw [List.mem_singleton.1 h1]; exact hq
theorem vk2 (wr : World) (X : Int) (h : X = 0 ∨ X = 1) : VRel wr (wr.alloc (.cells #[.int .i64 2, .int .u64 0, .int .i64 X, .slice none 0 0, .slice none 0 0] 28)) :=
  ⟨⟨2, 0, X, none, 0, 0, none, 0, 0⟩, ⟨2, 0, X, [], []⟩, ⟨⟨⟨by simp, by simp, by simp only; omega, by simp, by simp, by simp⟩, by simp, by simp, fun _ => h, by simp, by simp⟩, by simp, by simp⟩, Box5.new wr _ _ _ _ _,
    ⟨rfl, rfl, rfl, TRow.nil _ _ _, TRow.nil _ _ _⟩, (Below.refl _ _).alloc (Nat.le_refl _) _⟩
theorem shr_u (z : Int) (n : Nat) : 0 ≤ IntKind.u64.wrap z / 2 ^ n ∧ IntKind.u64.wrap z / 2 ^ n < 18446744073709551616 := by
  rw [Hm.wrapU]
  have h0 := Hm.UI_nonneg (Hm.BI z)
  have h1 := Hm.UI_lt (Hm.BI z)
  have hp : (0 : Int) < 2 ^ n := Int.pow_pos (by decide)
  refine ⟨Int.ediv_nonneg h0 (by omega), Int.lt_of_le_of_lt (Int.ediv_le_self _ h0) h1⟩
theorem shr_i (z : Int) (n : Nat) (h1 : -9223372036854775808 ≤ z) (h2 : z ≤ 9223372036854775807) : -9223372036854775808 ≤ z / 2 ^ n ∧ z / 2 ^ n ≤ 9223372036854775807 := by
  have hp : (1 : Int) ≤ 2 ^ n := Int.pow_pos (by decide)
  rcases Int.le_total 0 z with h | h
  · exact ⟨by have := Int.ediv_nonneg h (show (0 : Int) ≤ 2 ^ n by omega); omega, Int.le_trans (Int.ediv_le_self _ h) h2⟩
  · refine ⟨?_, ?_⟩
    · rw [Int.le_ediv_iff_mul_le (by omega)]
      have : -9223372036854775808 * (2 : Int) ^ n ≤ -9223372036854775808 * 1 := Int.mul_le_mul_of_nonpos_left (by decide) hp
      omega
    · have : z / 2 ^ n ≤ 0 := Int.ediv_nonpos_of_nonpos_of_neg h (by omega)
      omega
theorem OwnVs.snoc {wr wc w2 : World} {base i : Nat} {x x' : Value} {vs : List VV} {rs : List RV} {r : RV} {v : VV} {tmp : Obj}
    (hox : wr.ownsRow base 28 5 x i (rs.flatMap RV.cells)) (hrl : rs.length = i) (hvl : vs.length = i)
    (hall : ∀ (j : Nat) (r : RV) (v : VV), rs[j]? = some r → vs[j]? = some v → RvOwn wr base r v) (hBW : Below wr.heap.size wr wc) (hr : RvOwn wc wr.heap.size r v) (hb : base ≤ wr.heap.size)
    (hown' : w2.ownsRow base 28 5 x' (i + 1) (rs.flatMap RV.cells ++ r.cells)) (hgrow : (wc.alloc tmp).grownBy w2 x.ownBlock) : OwnVs w2 base x' (i + 1) (vs ++ [v]) := by
  have hox2 : (wc.alloc tmp).ownsRow base 28 5 x i (rs.flatMap RV.cells) := (own_below hox hBW (Nat.le_refl _)).alloc _
  have ha := (Below.refl wc.heap.size wc).alloc (Nat.le_refl _) tmp
  refine ⟨rs ++ [r], by simpa using hown', by simp [hrl], by simp [hvl], fun j r' v' hr' hv' => ?_⟩
  by_cases hj : j < i
  · rw [List.getElem?_append_left (by omega)] at hr' hv'
    exact (((hall j r' v' hr' hv').below hBW (Nat.le_refl _)).below ha (Nat.le_refl _)).kept hox2 hgrow
  · have hj2 : j < (rs ++ [r]).length := (List.getElem?_eq_some_iff.1 hr').1
    have hji : j = i := by simp [hrl] at hj2; omega
    subst hji
    rw [List.getElem?_append_right (by omega), hrl, Nat.sub_self] at hr'
    rw [List.getElem?_append_right (by omega), hvl, Nat.sub_self] at hv'
    obtain rfl := Option.some.inj hr'
    obtain rfl := Option.some.inj hv'
    exact ((hr.base hb).below ha (Nat.le_refl _)).kept hox2 hgrow
theorem infoV : (Try.prog.info? 28).map (fun i => (i.zero, i.size, i.bytes)) = some (some (.agg #[.int .i64 0, .int .u64 0, .int .i64 0, .slice none 0 0, .slice none 0 0]), 5, 72) := by kernel_rfl
theorem tdiv6 {z : Int} (h1 : -9223372036854775808 ≤ z) (h2 : z ≤ 9223372036854775807) : -9223372036854775808 ≤ z.tdiv 6 ∧ z.tdiv 6 ≤ 9223372036854775807 := by
  rcases Int.le_total 0 z with h | h
  · rw [Int.tdiv_eq_ediv_of_nonneg h]; omega
  · have e : z.tdiv 6 = -((-z).tdiv 6) := by rw [Int.neg_tdiv]; omega
    rw [e, Int.tdiv_eq_ediv_of_nonneg (by omega)]; omega
theorem around_b (n : Int) (m : Nat) (M : Int) (hM : M = (m : Int)) (hn : -9223372036854775808 ≤ n ∧ n ≤ 9223372036854775807) (hm : 1 ≤ m) (w : World) :
    Calls Try.prog 19 #[.int .i64 n, .int .i64 M] w fun e w' => (∃ k : Nat, e = .returned (.int .i64 k) ∧ k < m) ∧ w = w' := by
  subst hM
  refine (around_any n m hn (by omega) w).mono ?_
  rintro e w' ⟨rfl, rfl⟩
  have h := aroundI_range n m (by omega)
  exact ⟨⟨(aroundI n m).toNat, by rw [Int.toNat_of_nonneg h.1], by omega⟩, rfl⟩

end Go.Proofs.Ytigbknhlmifikaa
