/- What the methods of a Writer do: each appends the encoding of its argument; Done copies. -/
import Derived.Test.YtagjecbgbpjobaaWbits
import Derived.Test.YtagjecbgbpjobaaHquiet
import Derived.Outline
import Derived.Lib.AppendStr
import Derived.Lib.SliceRun
namespace Go.Proofs.Ytagjecbgbpjobaa
open Go.RowKit Hb Wm

/-- the writer in block p holds xs -/
def Wr (W : World) (p : Nat) (xs : List UInt8) : Prop := ∃ v, Boxed W p 66 v ∧ W.ownsRow p 5 1 v xs.length (xs.map bv)
theorem Wr.lt {W : World} {p : Nat} {xs : List UInt8} (h : Wr W p xs) : p < W.heap.size := let ⟨_, hb, _⟩ := h; hb.lt
theorem Wr.below {W W' : World} {p : Nat} {xs : List UInt8} (h : Wr W p xs) {B : Nat} (hB : Below B W W') (hs : W.heap.size ≤ B) : Wr W' p xs := by
  obtain ⟨v, hb, ho⟩ := h
  exact ⟨v, (hB.block p (by have := hb.lt; omega)).trans hb, own_below ho hB hs⟩
theorem Wr.new (W : World) : Wr (W.alloc (.cells #[.slice none 0 0] 66)) W.heap.size [] := ⟨_, Boxed.new W _ _, World.ownsRow_nil _ _ _ _⟩
/-- a writer behind an append and the store of what it gives -/
theorem Wr.app {W w1 : World} {p : Nat} {xs ys : List UInt8} {v v' : Value} {tmp : Obj} {n : Nat}
    (hb : Boxed W p 66 v) (ho : W.ownsRow p 5 1 v xs.length (xs.map bv))
    (hown' : w1.ownsRow p 5 1 v' n (ys.map bv)) (hn : n = ys.length) (hgrow : (W.alloc tmp).grownBy w1 v.ownBlock) :
    Wr (w1.setCell ⟨p, 0, none⟩ v') p ys ∧ Below p W (w1.setCell ⟨p, 0, none⟩ v') := by
  subst hn
  obtain ⟨-, h2, h3, -, h5⟩ := hb.appended (by decide) ho (Nat.le_of_lt hb.lt) (Nat.le_refl _) hown' hgrow
  exact ⟨⟨_, h2, h3⟩, h5⟩
theorem Wr.app2 {W w1 : World} {p : Nat} {xs ys : List UInt8} {v v' : Value} {n : Nat}
    (hb : Boxed W p 66 v) (ho : W.ownsRow p 5 1 v xs.length (xs.map bv))
    (hown' : w1.ownsRow p 5 1 v' n (ys.map bv)) (hn : n = ys.length) (hgrow : W.grownBy w1 v.ownBlock) :
    Wr (w1.setCell ⟨p, 0, none⟩ v') p ys ∧ Below p W (w1.setCell ⟨p, 0, none⟩ v') := by
  subst hn
  have hv1 : Boxed w1 p 66 v := hb.kept hgrow (hb.not_row (by decide) ho)
  refine ⟨⟨v', hv1.set v', hown'.kept (grownBy_setCell' w1 p v') (.inr (hv1.not_row (by decide) hown').symm)⟩, ?_⟩
  exact ((Below.refl p W).grown hgrow (Nat.le_of_lt hb.lt) fun k hk => (ho.lt k hk).1).setCell (p := ⟨p, 0, none⟩) (Nat.le_refl _) v'

set_option maxRecDepth 100000 in
set_option maxHeartbeats 1000000 in
theorem w_uint (p n : Nat) (N : Int) (hN : N = (n : Int)) (xs : List UInt8) (hn : n < 18446744073709551616) (hx : xs.length ≤ 1000000) (w : World) (h : Wr w p xs) :
    Calls Try.prog 62 #[.pointer (some ⟨p, 0, none⟩), .int .u64 N] w fun e W => e = .returned (.tuple #[]) ∧ Wr W p (xs ++ vu n) ∧ Below p w W := by
  subst hN
  obtain ⟨i0, hi, hz0, hz1, hz2⟩ := info_parts infoU8
  go_enter Try.func62, Try.ntmps62
  go_wp2
  go_loopw [1] (fun nv wr => ∃ (m : Nat) (pre : List UInt8), nv = .int .u64 m ∧ m ≤ n ∧ vu n = pre ++ vu m ∧ Wr wr p (xs ++ pre) ∧ Below p w wr) (fun nv _ => (intOf nv).toNat)
  case atStart => exact ⟨n, [], rfl, Nat.le_refl _, rfl, by simpa using h, Below.refl _ _⟩
  case round =>
    obtain ⟨m, pre, rfl, hm, hvu, hW, hB⟩ := hrel
    have hpre : (xs ++ pre).length ≤ 1000010 := by
      have h1 := vu_len10 hn
      rw [hvu, List.length_append] at h1
      rw [List.length_append]; omega
    obtain ⟨ys, hys⟩ : ∃ ys, ys = xs ++ pre := ⟨_, rfl⟩
    rw [← hys] at hpre hW
    have HY := Lib.hid hys
    have HV := Lib.hid hvu
    clear hvu hys
    obtain ⟨v, hbox, hown⟩ := hW
    obtain ⟨A, c, rfl⟩ := own_form hown
    have hcell := hbox.cell
    have hfz := hbox.frozen
    have hplt := hbox.lt
    by_cases hge : 128 ≤ m
    · go_wp2_with (at_builtin; refine wpList_append_own _ rfl _ _ 22 rfl p 5 i0 (.int .u8 0) 1 1 Try.underlying22 hi hz0 hz1 hz2 rfl (by decide) (.slice A ys.length c) ys.length _ rfl (hown.alloc _) ⟨wr.heap.size, 0, none⟩ 1 1 [.int .u8 (bits .or .u8 ((m : Int) % 256) 128)] rfl rfl (cell_one_new _ _ _) (by simp [Value.oneCell']) (by unfold maxLen; omega) (by omega) (by simp; omega) ?_; intro v' w1 hown' hgrow _; obtain ⟨g', cap', rfl⟩ := ownsRow_succ hown'; have hb1 := (hbox.alloc _).kept hgrow (hbox.not_row (by decide) hown); have hc1 := hb1.cell; have hf1 := hb1.frozen; obtain ⟨hw1, hB1⟩ := Wr.app (ys := ys ++ [UInt8.ofNat (m % 128 + 128)]) hbox hown (own_cast hown' rfl (by rw [List.map_append, or8]; simp [bv]; omega)) (by simp) hgrow)
      go_roundw
      case rel => exact ⟨m / 128, pre ++ [UInt8.ofNat (m % 128 + 128)], by go_num, by omega, by rw [HV.out, vu_big hge]; simp, by rw [← List.append_assoc, ← HY.out]; exact hw1, hB.trans hB1⟩
      case measure => simp [intOf]; omega
    · go_wp2_with (at_builtin; refine wpList_append_own _ rfl _ _ 22 rfl p 5 i0 (.int .u8 0) 1 1 Try.underlying22 hi hz0 hz1 hz2 rfl (by decide) (.slice A ys.length c) ys.length _ rfl (hown.alloc _) ⟨wr.heap.size, 0, none⟩ 1 1 [.int .u8 (m : Int)] rfl rfl (cell_one_new _ _ _) (by simp [Value.oneCell']) (by unfold maxLen; omega) (by omega) (by simp; omega) ?_; intro v' w1 hown' hgrow _; obtain ⟨g', cap', rfl⟩ := ownsRow_succ hown'; have hb1 := (hbox.alloc _).kept hgrow (hbox.not_row (by decide) hown); have hc1 := hb1.cell; have hf1 := hb1.frozen; obtain ⟨hw1, hB1⟩ := Wr.app (ys := ys ++ [UInt8.ofNat m]) hbox hown (own_cast hown' rfl (by rw [List.map_append]; simp [bv]; omega)) (by simp) hgrow)
      go_end0
      exact ⟨rfl, by rw [HV.out, vu_small (by omega), ← List.append_assoc, ← HY.out]; exact hw1, hB.trans hB1⟩

theorem zz_walk (n : Int) (h1 : -9223372036854775808 ≤ n) (h2 : n ≤ 9223372036854775807) : bits .xor .u64 (IntKind.u64.wrap (IntKind.u64.wrap n * 2)) (IntKind.u64.wrap (n / 9223372036854775808)) = (zz n : Int) := by
  simp only [Hm.wrapU, Hm.UI_BI]
  unfold zz
  by_cases h : n < 0
  · rw [if_pos h, show n / 9223372036854775808 = -1 from by omega]
    rw [show (n % 18446744073709551616 * 2) % 18446744073709551616 = ((2 * n + 18446744073709551616).toNat : Int) from by omega]
    rw [show (-1 : Int) % 18446744073709551616 = 18446744073709551615 from by decide, xor_ones _ (by omega)]
    omega
  · rw [if_neg h, show n / 9223372036854775808 = 0 from by omega]
    rw [show (n % 18446744073709551616 * 2) % 18446744073709551616 = ((2 * n).toNat : Int) from by omega]
    rw [show (0 : Int) % 18446744073709551616 = 0 from by decide, xor_zero _ (by omega)]
set_option maxRecDepth 100000 in
set_option maxHeartbeats 1000000 in
theorem w_int (p : Nat) (n : Int) (xs : List UInt8) (h1 : -9223372036854775808 ≤ n) (h2 : n ≤ 9223372036854775807) (hx : xs.length ≤ 1000000) (w : World) (h : Wr w p xs) :
    Calls Try.prog 43 #[.pointer (some ⟨p, 0, none⟩), .int .i64 n] w fun e W => e = .returned (.tuple #[]) ∧ Wr W p (xs ++ vu (zz n)) ∧ Below p w W := by
  have hz := zz_lt h1 h2
  go_enter Try.func43, Try.ntmps43
  go_wp2_with fail
  refine (w_uint p (zz n) _ (zz_walk n h1 h2) xs hz hx w h).mono ?_
  rintro e W ⟨rfl, hW, hB⟩
  go_wp2_with fail
  go_end0
  exact ⟨rfl, hW, hB⟩

set_option maxRecDepth 100000 in
set_option maxHeartbeats 1000000 in
theorem w_raw (p : Nat) (A : Option Addr) (m c : Nat) (bs : List UInt8) (xs : List UInt8) (hm : m ≤ 1000000) (hx : xs.length ≤ 1000000) (w : World) (h : Wr w p xs) (hr : Rd w p A m (bs.map bv)) :
    Calls Try.prog 42 #[.pointer (some ⟨p, 0, none⟩), .slice A m c] w fun e W => e = .returned (.tuple #[]) ∧ Wr W p (xs ++ (vu m ++ bs)) ∧ Below p w W := by
  obtain ⟨i0, hi, hz0, hz1, hz2⟩ := info_parts infoU8
  have hml : bs.length = m := by simpa using hr.1
  have h10 := vu_len10 (n := m) (by omega)
  go_enter Try.func42, Try.ntmps42
  go_wp2_with fail
  refine (w_uint p m _ rfl xs (by omega) hx w h).mono ?_
  rintro e W ⟨rfl, hW, hB⟩
  have hr1 := hr.below hB
  obtain ⟨ys, hys⟩ : ∃ ys, ys = xs ++ vu m := ⟨_, rfl⟩
  rw [← hys] at hW
  have hyl : ys.length ≤ 1000010 := by rw [hys, List.length_append]; omega
  have HY := Lib.hid hys
  have HM := Lib.hid hml
  clear hys hml
  obtain ⟨v, hbox, hown⟩ := hW
  obtain ⟨A', c', rfl⟩ := own_form hown
  have hcell := hbox.cell
  have hfz := hbox.frozen
  have hplt := hbox.lt
  go_wp2_with (at_builtin; refine wpList_append_rd _ rfl _ _ 22 rfl p 5 i0 (.int .u8 0) 1 Try.underlying22 hi hz0 hz1 hz2 rfl (.slice A' ys.length c') ys.length _ rfl hown p A m c _ rfl hr1 (map_one _ bv_one _) (by unfold maxLen; omega) (by omega) (by omega) ?_; intro A1 c1 w1 hown1 hgrow _; have hb1 := hbox.kept hgrow (hbox.not_row (by decide) hown); have hc1 := hb1.cell; have hf1 := hb1.frozen; obtain ⟨hw1, hB1⟩ := Wr.app2 (ys := ys ++ bs) hbox hown (own_cast hown1 rfl (by rw [List.map_append])) (by rw [List.length_append, HM.out]) hgrow)
  go_end0
  exact ⟨rfl, by rw [← List.append_assoc, ← HY.out]; exact hw1, hB.trans hB1⟩

theorem encI_len : ∀ (l : List Int), (∀ y ∈ l, -9223372036854775808 ≤ y ∧ y ≤ 9223372036854775807) → (encI l).length ≤ 10 * l.length
  | [], _ => by simp [encI]
  | y :: l, h => by
    have h1 := encI_len l fun z hz => h z (by simp [hz])
    have h2 := h y (by simp)
    have h3 := vu_len10 (zz_lt h2.1 h2.2)
    simp only [encI, List.flatMap_cons, List.length_append, List.length_cons] at h1 ⊢
    omega
set_option maxRecDepth 100000 in
set_option maxHeartbeats 1000000 in
theorem clone_any (A : Option Addr) (m c : Nat) (bs : List UInt8) (hm : m ≤ 100000000) (hmc : m ≤ c) (w : World) (hr : Rd w w.heap.size A m (bs.map bv)) :
    Calls Try.prog 63 #[.slice A m c] w fun e W => ∃ A' c', e = .returned (.slice A' m c') ∧ W.ownsRow w.heap.size 5 1 (.slice A' m c') m (bs.map bv) ∧ Below w.heap.size w W := by
  obtain ⟨i0, hi, hz0, hz1, hz2⟩ := info_parts infoU8
  have hml : bs.length = m := by simpa using hr.1
  have HM := Lib.hid hml
  clear hml
  have q : ∀ (w : World) (a : Option Addr) (n c n' c' : Nat), (binOp .eql 22 (.slice a n c) (.slice none n' c')).run Try.prog w = .ok (.bool a.isNone) w := fun w a n c n' c' => Lib.run_eql_slice_nil w _ _ a n c n' c' Try.underlying22
  cases A with
  | none =>
    obtain rfl : m = 0 := by
      by_cases h : 0 < m
      · obtain ⟨a, ha, _⟩ := hr.2 h; cases ha
      · omega
    have hbs : bs = [] := List.eq_nil_of_length_eq_zero HM.out
    subst hbs
    go_enter Try.func63, Try.ntmps63
    go_wp2
    go_ret
    exact ⟨_, _, rfl, World.ownsRow_nil _ _ _ _, Below.refl _ _⟩
  | some a =>
    go_enter Try.func63, Try.ntmps63
    go_wp2_with (at_builtin; refine wpList_append_rd _ rfl _ _ 22 rfl w.heap.size 5 i0 (.int .u8 0) 1 Try.underlying22 hi hz0 hz1 hz2 rfl _ 0 [] rfl (World.ownsRow_made w #[] 0 (Nat.le_refl _) (Nat.zero_le _) rfl) w.heap.size (some a) m c (bs.map bv) rfl (hr.below ((Below.refl _ w).alloc (Nat.le_refl _) _)) (map_one _ bv_one _) (by unfold maxLen; omega) (by omega) (by simp) ?_; intro A1 c1 w1 hown hg _; simp only [Nat.zero_add, List.nil_append] at hown)
    go_ret
    exact ⟨_, _, rfl, hown, ((Below.refl _ w).alloc (Nat.le_refl _) _).grown hg (by simp) (by intro k hk; cases hk; exact Nat.le_refl _)⟩

set_option maxRecDepth 100000 in
set_option maxHeartbeats 1000000 in
theorem w_done (p : Nat) (xs : List UInt8) (hx : xs.length ≤ 100000000) (w : World) (h : Wr w p xs) :
    Calls Try.prog 45 #[.pointer (some ⟨p, 0, none⟩)] w fun e W => ∃ A c, e = .returned (.slice A xs.length c) ∧ W.ownsRow w.heap.size 5 1 (.slice A xs.length c) xs.length (xs.map bv) ∧ Wr W p xs ∧ Below w.heap.size w W := by
  have h' := h
  obtain ⟨v, hbox, hown⟩ := h
  obtain ⟨A', c', rfl⟩ := own_form hown
  have hcell := hbox.cell
  have hcc := own_le hown
  have hr := Rd.of_own hown
  go_enter Try.func45, Try.ntmps45
  go_wp2_with fail
  refine (clone_any A' xs.length c' xs hx hcc w hr).mono ?_
  rintro e W ⟨A1, c1, rfl, ho, hB⟩
  go_wp2_with fail
  go_ret
  exact ⟨_, _, rfl, ho, h'.below hB (Nat.le_refl _), hB⟩
end Go.Proofs.Ytagjecbgbpjobaa
