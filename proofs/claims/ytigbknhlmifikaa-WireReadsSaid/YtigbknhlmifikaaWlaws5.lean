/- The law WireOwn, walked. -/
import Derived.Test.YtigbknhlmifikaaWlaws4
namespace Go.Proofs.Ytigbknhlmifikaa
open Go.RowKit Hb Wm

theorem own_some {W : World} {base n c : Nat} {e : TypeId} {A : Option Addr} {xs : List Value} (h : W.ownsRow base e 1 (.slice A n c) n xs) (hn : 0 < n) : ∃ g, A = some ⟨g, 0, none⟩ := by
  rcases h.2 with ⟨_, h0⟩ | ⟨g, cap, cur, hv, _⟩
  · omega
  · injection hv with h1 h2 h3; exact ⟨g, h1⟩
/-- nothing that was there has turned, but the blocks of S -/
structure But (S : Nat → Prop) (w W : World) : Prop where
  size : w.heap.size ≤ W.heap.size
  block : ∀ k, k < w.heap.size → ¬ S k → W.heap[k]? = w.heap[k]?
theorem But.below {S : Nat → Prop} {w W W' : World} (h : But S w W) {B : Nat} (hB : Below B W W') (hs : w.heap.size ≤ B) : But S w W' :=
  ⟨Nat.le_trans h.size hB.size, fun k hk hS => (hB.block k (by omega)).trans (h.block k hk hS)⟩
theorem But.grown {S : Nat → Prop} {w W W' : World} {row : Option Nat} (h : But S w W) (hg : W.grownBy W' row) (hr : ∀ k, row = some k → S k ∨ w.heap.size ≤ k) : But S w W' :=
  ⟨Nat.le_trans h.size hg.size, fun k hk hS => (hg.block k (Nat.lt_of_lt_of_le hk h.size) (fun e => by
    rcases hr k e.symm with h1 | h1
    · exact hS h1
    · omega)).trans (h.block k hk hS)⟩
theorem But.refl (S : Nat → Prop) (w : World) : But S w w := ⟨Nat.le_refl _, fun _ _ _ => rfl⟩
theorem Wr.but {W W' : World} {p : Nat} {xs : List UInt8} {S : Nat → Prop} (h : Wr W p xs) (hb : But S W W') (hS : ∀ k, S k → k < p) : Wr W' p xs := by
  obtain ⟨v, hbx, ho⟩ := h
  refine ⟨v, (hb.block p hbx.lt (fun hs => by have := hS p hs; omega)).trans hbx, ?_⟩
  have hlt := ho.lt
  refine ⟨ho.1, ?_⟩
  rcases ho.2 with h0 | ⟨g, cap, cur, rfl, hg, hh, rest⟩
  · exact .inl h0
  · exact .inr ⟨g, cap, cur, rfl, hg, (hb.block g (hlt g rfl).2 (fun hs => by have := hS g hs; omega)).trans hh, rest⟩
/-- a row whose block lies from base on is kept where a block below base turns -/
theorem own_above {W W' : World} {base b n m s s' : Nat} {e e' : TypeId} {v x : Value} {xs ys : List Value} (h : W.ownsRow base e s v n xs) (hx : W.ownsRow b e' s' x m ys) (hg : W.grownBy W' x.ownBlock) (hlt : ∀ k, x.ownBlock = some k → k < base) : W'.ownsRow base e s v n xs :=
  h.kept hg (by
    by_cases h0 : v.ownBlock = none
    · exact .inl h0
    · refine .inr fun e1 => ?_
      obtain ⟨k, hk⟩ := Option.ne_none_iff_exists'.1 h0
      have h1 := (h.lt k hk).1
      have h2 := hlt k (by rw [← e1]; exact hk)
      omega)
theorem below_row {W W' : World} {b n s : Nat} {e : TypeId} {x : Value} {ys : List Value} {B : Nat} (hx : W.ownsRow b e s x n ys) (hg : W.grownBy W' x.ownBlock) (hb : B ≤ b) (hB : B ≤ W.heap.size) : Below B W W' :=
  (Below.refl B W).grown hg hB fun k hk => by have := (hx.lt k hk).1; omega

theorem Rr.row {W W' : World} {p : Nat} {Q : Nat → Prop} {s : St} {row : Option Nat} (h : Rr W p Q s) (hg : W.grownBy W' row) (hr : ∀ k, row = some k → ¬ Q k ∧ k ≠ p) : Rr W' p Q s := by
  cases row with
  | none => exact h.below ⟨hg.os, hg.tape, hg.output, hg.size, fun k hk => hg.block k hk (by simp)⟩ (Nat.le_refl _)
  | some q => exact h.grown hg (fun k hk e => (hr q rfl).1 (e ▸ hk)) (fun e => (hr q rfl).2 e.symm)

set_option maxRecDepth 100000 in
set_option maxHeartbeats 4000000 in
theorem WireOwn_walk (w : World) (a0 : Option Addr) (n0 c0 : Nat) (bs : List UInt8) (r0 : Rd w w.heap.size a0 n0 (bs.map bv)) (h0 : n0 ≤ c0) (hc0 : c0 ≤ maxLen) (a1 : Option Addr) (n1 c1 : Nat) (xs : List Int) (r1 : Rd w w.heap.size a1 n1 (xs.map iv)) (bd : ∀ y ∈ xs, -9223372036854775808 ≤ y ∧ y ≤ 9223372036854775807) (h1 : n1 ≤ c1) (hc1 : c1 ≤ maxLen) :
    Calls Try.prog 9 #[.slice a0 n0 c0, .slice a1 n1 c1] w fun e W' => e = .returned (.bool true) ∧ Below w.heap.size w W' := by
  obtain ⟨i0, hi, hz0, hz1, hz2⟩ := info_parts infoU8
  go_enter Try.func9, Try.ntmps9
  go_wp2_with fail
  refine (few_t a0 n0 c0 bs h0 hc0 30 (by omega) _ rfl w r0).mono ?_
  obtain ⟨ob, hob⟩ : ∃ ob, ob = bs.take 30 := ⟨_, rfl⟩
  rw [← hob]
  rintro e W1 ⟨A1, m1, d1, rfl, hm1, hl1, hmd1, hd1, R1, o1, B1⟩
  have HOB := Lib.hid hob
  have HL1 := Lib.hid hl1
  clear hob hl1
  have s1 := B1.size
  have r1' := r1.later B1 s1
  go_wp2_with fail
  refine (ints_t a1 n1 c1 xs h1 hc1 10 (by omega) _ rfl W1 r1').mono ?_
  obtain ⟨nb, hnb⟩ : ∃ nb, nb = xs.take 10 := ⟨_, rfl⟩
  have hnbd : ∀ y ∈ nb, -9223372036854775808 ≤ y ∧ y ≤ 9223372036854775807 := by rw [hnb]; exact fun y hy => bd y (List.mem_of_mem_take hy)
  rw [← hnb]
  rintro e W2 ⟨A2, m2, d2, rfl, hm2, hl2, hmd2, hd2, R2, o2, hB⟩
  have HNB := Lib.hid hnb
  have HL2 := Lib.hid hl2
  clear hnb hl2
  have B2 := B1.trans (hB.mono s1)
  have s2 := B2.size
  have z2 := hB.size
  have R1' := R1.later hB z2
  have o1' := own_below o1 hB (Nat.le_refl _)
  have HND := Lib.hid hnbd
  have hg1 : ∀ k, (Value.slice A1 m1 d1).ownBlock = some k → k < W1.heap.size := fun k hk => (o1.lt k hk).2
  have hg2 : ∀ k, (Value.slice A2 m2 d2).ownBlock = some k → k < W2.heap.size := fun k hk => (o2.lt k hk).2
  have HG1 := Lib.hid hg1
  have HG2 := Lib.hid hg2
  clear hB hnbd R1 o1 hg1 hg2 r1'
  have BY := (Below.refl W2.heap.size W2).alloc (Nat.le_refl _) (.cells #[.slice none 0 0] 32)
  go_wp2_with fail
  refine (w_raw W2.heap.size A1 m1 d1 ob [] (by omega) (by decide) _ (Wr.new W2) (R1'.below BY)).mono ?_
  rintro e W3 ⟨rfl, hW, hB⟩
  replace BY := BY.trans hB
  clear hB
  have hl10 := vu_len10 (n := m1) (by omega)
  go_wp2_with fail
  refine (w_ints W2.heap.size A2 m2 d2 nb _ (by omega) HND.out (by simp [← HL1.out]; omega) W3 hW (R2.below BY)).mono ?_
  clear hW
  rintro e W4 ⟨rfl, hW, hB⟩
  replace BY := BY.trans hB
  clear hB
  obtain ⟨es, hes⟩ : ∃ es, es = [] ++ (vu m1 ++ ob) ++ (vu m2 ++ encI nb) := ⟨_, rfl⟩
  have hesl : es.length ≤ 1000 := by
    have h2 := encI_len nb HND.out
    have h3 := vu_len10 (n := m2) (by omega)
    rw [hes]
    simp [← HL1.out]
    have := HL2.out
    omega
  rw [← hes] at hW
  have HES := Lib.hid hes
  have o1'' := own_below o1' BY (Nat.le_refl _)
  have o2'' := own_below o2 BY (Nat.le_refl _)
  have B4 := B2.trans (BY.mono s2)
  have s4 := B4.size
  have z4 := BY.size
  clear hes BY o1' o2 R1' R2 hl10
  have hp4 := hW.lt
  go_wp2_with fail
  refine (w_done W2.heap.size es (by omega) W4 hW).mono ?_
  rintro e W5 ⟨A3, c3, rfl, o3, -, hB5⟩
  have R3 := Rd.of_own o3
  have l3 := own_le o3
  have s5 := hB5.size
  have o15 := own_below o1'' hB5 (Nat.le_refl _)
  have o25 := own_below o2'' hB5 (Nat.le_refl _)
  have B5 := B4.trans (hB5.mono s4)
  have hg3 : ∀ k, (Value.slice A3 es.length c3).ownBlock = some k → k < W5.heap.size := fun k hk => (o3.lt k hk).2
  have HG3 := Lib.hid hg3
  clear o1'' o2'' hg3
  go_wp2_with (at_builtin; refine wpList_append_rd _ rfl _ _ 24 rfl W5.heap.size 5 i0 (.int .u8 0) 1 Try.underlying24 hi hz0 hz1 hz2 rfl _ 0 [] rfl (World.ownsRow_made W5 #[] 0 (Nat.le_refl _) (Nat.zero_le _) rfl) W5.heap.size A3 es.length c3 (es.map bv) rfl (R3.below ((Below.refl _ W5).alloc (Nat.le_refl _) _)) (map_one _ bv_one _) (by unfold maxLen; omega) (by omega) (by simp) ?_; intro A4 c4 W6 o4 hg4 _; simp only [Nat.zero_add, List.nil_append] at o4)
  have hB6 : Below W5.heap.size W5 W6 := ((Below.refl _ W5).alloc (Nat.le_refl _) _).grown hg4 (by simp) (by intro k hk; cases hk; exact Nat.le_refl _)
  have o16 := own_below o15 hB6 (Nat.le_refl _)
  have o26 := own_below o25 hB6 (Nat.le_refl _)
  have o36 := own_below o3 hB6 (Nat.le_refl _)
  have s6 := hB6.size
  have B6 := B5.trans (hB6.mono (by omega))
  have hbut : But (fun k => (Value.slice A1 m1 d1).ownBlock = some k ∨ (Value.slice A2 m2 d2).ownBlock = some k) W4 W6 := ((But.refl _ W4).below hB5 (Nat.le_refl _)).below hB6 s5
  clear o15 o25 o3 R3 hg4 hB5 hB6
  go_wp2_with fail
  go_loopw [10] (fun ix wr => ∃ (k : Nat) (ys : List Value), k ≤ m1 ∧ ix = .int .i64 k ∧ wr.ownsRow w.heap.size 5 1 (.slice A1 m1 d1) m1 ys ∧ W6.grownBy wr (Value.slice A1 m1 d1).ownBlock) (fun ix _ => m1 - (intOf ix).toNat)
  case atStart => exact ⟨0, _, Nat.zero_le _, rfl, o16, grown_refl _ _⟩
  case round =>
   obtain ⟨k, ys, hk, rfl, hys, hgk⟩ := hrel
   by_cases hkm : k < m1
   · obtain ⟨g, rfl⟩ := own_some hys (by omega)
     have hfz := hys.frozenAt k
     have hyl : ys.length = m1 := by simpa using hys.1
     obtain ⟨y, hcl⟩ : ∃ y, wr.cell? ⟨g, k, none⟩ = some y := ⟨ys[k]'(by omega), by rw [hys.cellAt k (by omega), List.getElem?_eq_getElem (by omega)]⟩
     have hst := (hys.stored k (.int .u8 7)).1
     have hg2 := grown_trans hgk (grown_set wr g k (.int .u8 7))
     have i0' : (0 : Int) ≤ (k : Int) := Int.natCast_nonneg _
     have i1' : (k : Int) < (m1 : Int) := by omega
     have HST := Lib.hid hst
     have HGG := Lib.hid hg2
     clear hst hg2 hgk hyl hys
     go_wp2_with fail
     go_roundw
     case rel => exact ⟨k + 1, _, by omega, by go_num, HST.out, HGG.out⟩
     case measure => simp [intOf]; omega
   · clear hys
     obtain ⟨W7, rfl⟩ : ∃ W7 : World, W7 = wr := ⟨_, rfl⟩
     have o27 := own_above o26 o16 hgk (fun k hk => HG1.out k hk)
     have o37 := own_above o36 o16 hgk (fun k hk => by have := HG1.out k hk; omega)
     have o47 := own_above o4 o16 hgk (fun k hk => by have := HG1.out k hk; omega)
     have hbut7 := hbut.grown hgk (fun k hk => .inl (.inl hk))
     have B7 := B6.trans (below_row o16 hgk (Nat.le_refl _) B6.size)
     have z7 := hgk.size
     clear o16 o26 o36 o4 hbut hgk B6
     go_wp2_with fail
     go_loopw [11] (fun ix wr => ∃ (k : Nat) (ys : List Value), k ≤ m2 ∧ ix = .int .i64 k ∧ wr.ownsRow W1.heap.size 3 1 (.slice A2 m2 d2) m2 ys ∧ W7.grownBy wr (Value.slice A2 m2 d2).ownBlock) (fun ix _ => m2 - (intOf ix).toNat)
     case atStart => exact ⟨0, _, Nat.zero_le _, rfl, o27, grown_refl _ _⟩
     case round =>
      obtain ⟨k, ys, hk, rfl, hys, hgk⟩ := hrel
      by_cases hkm : k < m2
      · obtain ⟨g, rfl⟩ := own_some hys (by omega)
        have hfz := hys.frozenAt k
        have hyl : ys.length = m2 := by simpa using hys.1
        obtain ⟨y, hcl⟩ : ∃ y, wr.cell? ⟨g, k, none⟩ = some y := ⟨ys[k]'(by omega), by rw [hys.cellAt k (by omega), List.getElem?_eq_getElem (by omega)]⟩
        have hst := (hys.stored k (.int .i64 7)).1
        have hg2 := grown_trans hgk (grown_set wr g k (.int .i64 7))
        have i0' : (0 : Int) ≤ (k : Int) := Int.natCast_nonneg _
        have i1' : (k : Int) < (m2 : Int) := by omega
        have HST := Lib.hid hst
        have HGG := Lib.hid hg2
        clear hst hg2 hgk hyl hys
        go_wp2_with fail
        go_roundw
        case rel => exact ⟨k + 1, _, by omega, by go_num, HST.out, HGG.out⟩
        case measure => simp [intOf]; omega
      · clear hys
        obtain ⟨W8, rfl⟩ : ∃ W8 : World, W8 = wr := ⟨_, rfl⟩
        have o38 := own_above o37 o27 hgk (fun k hk => by have := HG2.out k hk; omega)
        have o48 := own_above o47 o27 hgk (fun k hk => by have := HG2.out k hk; omega)
        have hbut8 := hbut7.grown hgk (fun k hk => .inl (.inr hk))
        have B8 := B7.trans (below_row o27 hgk s1 B7.size)
        have z8 := hgk.size
        clear o27 o37 o47 hbut7 hgk B7
        go_wp2_with fail
        go_loopw [12] (fun ix wr => ∃ (k : Nat) (ys : List Value), k ≤ es.length ∧ ix = .int .i64 k ∧ wr.ownsRow W4.heap.size 5 1 (.slice A3 es.length c3) es.length ys ∧ W8.grownBy wr (Value.slice A3 es.length c3).ownBlock) (fun ix _ => es.length - (intOf ix).toNat)
        case atStart => exact ⟨0, _, Nat.zero_le _, rfl, o38, grown_refl _ _⟩
        case round =>
         obtain ⟨k, ys, hk, rfl, hys, hgk⟩ := hrel
         by_cases hkm : k < es.length
         · obtain ⟨g, rfl⟩ := own_some hys (by omega)
           have hfz := hys.frozenAt k
           have hyl : ys.length = es.length := by simpa using hys.1
           obtain ⟨y, hcl⟩ : ∃ y, wr.cell? ⟨g, k, none⟩ = some y := ⟨ys[k]'(by omega), by rw [hys.cellAt k (by omega), List.getElem?_eq_getElem (by omega)]⟩
           have hst := (hys.stored k (.int .u8 9)).1
           have hg2 := grown_trans hgk (grown_set wr g k (.int .u8 9))
           have i0' : (0 : Int) ≤ (k : Int) := Int.natCast_nonneg _
           have i1' : (k : Int) < (es.length : Int) := by omega
           have HST := Lib.hid hst
           have HGG := Lib.hid hg2
           clear hst hg2 hgk hyl hys
           go_wp2_with fail
           go_roundw
           case rel => exact ⟨k + 1, _, by omega, by go_num, HST.out, HGG.out⟩
           case measure => simp [intOf]; omega
         · clear hys
           obtain ⟨W9, rfl⟩ : ∃ W9 : World, W9 = wr := ⟨_, rfl⟩
           have o49 := own_above o48 o38 hgk (fun k hk => HG3.out k hk)
           have hbut9 := hbut8.grown hgk (fun k hk => .inr (o38.lt k hk).1)
           have B9 := B8.trans (below_row o38 hgk s4 B8.size)
           have hW9 := hW.but hbut9 (fun k hk => by
             rcases hk with h | h
             · have := HG1.out k h; omega
             · exact HG2.out k h)
           have z9 := hgk.size
           clear o38 o48 hbut8 hbut9 hgk B8
           go_wp2_with fail
           refine (w_done W2.heap.size es (by omega) W9 hW9).mono ?_
           rintro e W10 ⟨A5, c5, rfl, o5, -, hB⟩
           have R5 := Rd.of_own o5
           have o410 := own_below o49 hB (Nat.le_refl _)
           have R4 := Rd.of_own o410
           have l4 := own_le o410
           have B10 := B9.trans (hB.mono B9.size)
           clear hB o49 hW9
           go_wp2_with fail
           refine (same_bytes_t A5 A4 es.length c5 es.length c4 es es W10.heap.size (by unfold maxLen; omega) W10 R5 R4 rfl).mono ?_
           rintro e W11 ⟨rfl, hq⟩
           have R411 := R4.below (hq.below W10.heap.size)
           have hz11 := (hq.below 0).size
           have B11 := B10.trans (hq.below w.heap.size)
           have s11 := B11.size
           clear hq R5 R4 o5
           have R4' := R411.mono hz11
           go_wp2_with (at_builtin; refine wpList_append_rd _ rfl _ _ 24 rfl W11.heap.size 5 i0 (.int .u8 0) 1 Try.underlying24 hi hz0 hz1 hz2 rfl _ 0 [] rfl (World.ownsRow_made W11 #[] 0 (Nat.le_refl _) (Nat.zero_le _) rfl) W11.heap.size A4 es.length c4 (es.map bv) rfl (R4'.below ((Below.refl _ W11).alloc (Nat.le_refl _) _)) (map_one _ bv_one _) (by unfold maxLen; omega) (by omega) (by simp) ?_; intro A6 c6 W12 o6 hg6 _; simp only [Nat.zero_add, List.nil_append] at o6)
           have hB12 : Below W11.heap.size W11 W12 := ((Below.refl _ W11).alloc (Nat.le_refl _) _).grown hg6 (by simp) (by intro k hk; cases hk; exact Nat.le_refl _)
           have B12 := B11.trans (hB12.mono s11)
           have s12 := B12.size
           have R6 := Rd.of_own o6
           have l6 := own_le o6
           have HG6 := Lib.hid (show ∀ k, (Value.slice A6 es.length c6).ownBlock = some k → k < W12.heap.size from fun k hk => (o6.lt k hk).2)
           clear hB12 hg6 R4' R411
           go_wp2_with fail
           refine (r_read A6 es.length c6 es (by omega) l6 W12 R6).mono ?_
           rintro e W13 ⟨p, rfl, hp, hR, hB⟩
           have o613 := own_below o6 hB (Nat.le_refl _)
           have B13 := B12.trans (hB.mono s12)
           clear hB o6 R6
           go_wp2_with fail
           go_loopw [15] (fun ix wr => ∃ (k : Nat) (ys : List Value), k ≤ es.length ∧ ix = .int .i64 k ∧ wr.ownsRow W11.heap.size 5 1 (.slice A6 es.length c6) es.length ys ∧ W13.grownBy wr (Value.slice A6 es.length c6).ownBlock) (fun ix _ => es.length - (intOf ix).toNat)
           case atStart => exact ⟨0, _, Nat.zero_le _, rfl, o613, grown_refl _ _⟩
           case round =>
            obtain ⟨k, ys, hk, rfl, hys, hgk⟩ := hrel
            by_cases hkm : k < es.length
            · obtain ⟨g, rfl⟩ := own_some hys (by omega)
              have hfz := hys.frozenAt k
              have hyl : ys.length = es.length := by simpa using hys.1
              obtain ⟨y, hcl⟩ : ∃ y, wr.cell? ⟨g, k, none⟩ = some y := ⟨ys[k]'(by omega), by rw [hys.cellAt k (by omega), List.getElem?_eq_getElem (by omega)]⟩
              have hst := (hys.stored k (.int .u8 255)).1
              have hg2 := grown_trans hgk (grown_set wr g k (.int .u8 255))
              have i0' : (0 : Int) ≤ (k : Int) := Int.natCast_nonneg _
              have i1' : (k : Int) < (es.length : Int) := by omega
              have HST := Lib.hid hst
              have HGG := Lib.hid hg2
              clear hst hg2 hgk hyl hys
              go_wp2_with fail
              go_roundw
              case rel => exact ⟨k + 1, _, by omega, by go_num, HST.out, HGG.out⟩
              case measure => simp [intOf]; omega
            · clear hys
              obtain ⟨W14, rfl⟩ : ∃ W14 : World, W14 = wr := ⟨_, rfl⟩
              have hR14 := hR.row hgk (fun k hk => by have := HG6.out k hk; exact ⟨fun h => by unfold Between at h; omega, by omega⟩)
              have B14 := B13.trans (below_row o613 hgk s11 B13.size)
              have hraw : rR (0, es) = (ob, 0, vu m2 ++ encI nb) := by
                have h := rR_round ob (by rw [← HL1.out]; omega) (vu m2 ++ encI nb)
                rw [← HL1.out] at h
                rw [HES.out, List.nil_append]
                exact h
              have hints : rL (0, vu m2 ++ encI nb) = (nb, 0, []) := by
                have h := rL_round nb (by rw [← HL2.out]; omega) HND.out []
                rw [← HL2.out, List.append_nil] at h
                exact h
              have HRAW := Lib.hid hraw
              have HINTS := Lib.hid hints
              have hr2l : (vu m2 ++ encI nb).length ≤ 1000000 := by
                have h2 := encI_len nb HND.out
                have h3 := vu_len10 (n := m2) (by omega)
                have := HL2.out
                rw [List.length_append]
                omega
              clear o613 hgk hraw hints
              go_wp2_with fail
              refine (r_raw p _ _ (by simp only; omega) W14 hR14).mono ?_
              rw [HRAW.out]
              rintro e W15 ⟨v7, rfl, o7, hR15, hG⟩
              obtain ⟨A7, c7, rfl⟩ := own_form o7
              have hpl := hR14.lt
              have B15 := B14.trans (below_of_grown hG B14.size (by omega))
              have z15 := hG.size
              obtain ⟨m7, hm7⟩ : ∃ m7, m7 = ob.length := ⟨_, rfl⟩
              have hm7b : m7 ≤ 30 := by rw [hm7, ← HL1.out]; omega
              simp only at o7
              rw [← hm7] at o7
              simp only [← hm7]
              clear hm7 hG hR14
              go_wp2_with fail
              go_loopw [17] (fun ix wr => ∃ (k : Nat) (ys : List Value), k ≤ m7 ∧ ix = .int .i64 k ∧ wr.ownsRow W14.heap.size 5 1 (.slice A7 m7 c7) m7 ys ∧ W15.grownBy wr (Value.slice A7 m7 c7).ownBlock) (fun ix _ => m7 - (intOf ix).toNat)
              case atStart => exact ⟨0, _, Nat.zero_le _, rfl, o7, grown_refl _ _⟩
              case round =>
               obtain ⟨k, ys, hk, rfl, hys, hgk⟩ := hrel
               by_cases hkm : k < m7
               · obtain ⟨g, rfl⟩ := own_some hys (by omega)
                 have hfz := hys.frozenAt k
                 have hyl : ys.length = m7 := by simpa using hys.1
                 obtain ⟨y, hcl⟩ : ∃ y, wr.cell? ⟨g, k, none⟩ = some y := ⟨ys[k]'(by omega), by rw [hys.cellAt k (by omega), List.getElem?_eq_getElem (by omega)]⟩
                 have hst := (hys.stored k (.int .u8 1)).1
                 have hg2 := grown_trans hgk (grown_set wr g k (.int .u8 1))
                 have i0' : (0 : Int) ≤ (k : Int) := Int.natCast_nonneg _
                 have i1' : (k : Int) < (m7 : Int) := by omega
                 have HST := Lib.hid hst
                 have HGG := Lib.hid hg2
                 clear hst hg2 hgk hyl hys
                 go_wp2_with fail
                 go_roundw
                 case rel => exact ⟨k + 1, _, by omega, by go_num, HST.out, HGG.out⟩
                 case measure => simp [intOf]; omega
               · clear hys
                 obtain ⟨W16, rfl⟩ : ∃ W16 : World, W16 = wr := ⟨_, rfl⟩
                 have hR16 := hR15.row hgk (fun k hk => by have := (o7.lt k hk).1; exact ⟨fun h => by unfold Between at h; omega, by omega⟩)
                 have B16 := B15.trans (below_row o7 hgk B14.size B15.size)
                 clear o7 hgk hR15
                 go_wp2_with fail
                 refine (r_ints p _ _ (by simp only; omega) W16 hR16).mono ?_
                 rw [HINTS.out]
                 rintro e W17 ⟨v8, rfl, o8, hR17, hG⟩
                 obtain ⟨A8, c8, rfl⟩ := own_form o8
                 have B17 := B16.trans (below_of_grown hG B16.size (by omega))
                 have R8 := Rd.of_own o8
                 have r17 := r1.later B17 B17.size
                 have hpl7 := hR17.lt
                 clear hG hR16 o8
                 simp only at R8
                 obtain ⟨m8, hm8⟩ : ∃ m8, m8 = nb.length := ⟨_, rfl⟩
                 have hm8b : m8 ≤ 10 := by rw [hm8, ← HL2.out]; omega
                 rw [← hm8] at R8
                 simp only [← hm8]
                 clear hm8
                 go_wp2_with fail
                 refine (ints_t a1 n1 c1 xs h1 hc1 10 (by omega) _ rfl W17 r17).mono ?_
                 rw [← HNB.out]
                 rintro e W18 ⟨A9, m9, c9, rfl, hm9, hl9, -, -, R9, -, hB⟩
                 have R818 := R8.later hB hB.size
                 have hR18 := hR17.below hB (Nat.le_refl _)
                 have B18 := B17.trans (hB.mono B17.size)
                 clear hB hl9 R8 hR17
                 go_wp2_with fail
                 refine (same_ints_t A8 A9 m8 c8 m9 c9 nb nb W18.heap.size (by unfold maxLen; omega) W18 R818 R9 rfl).mono ?_
                 rintro e W19 ⟨rfl, hq⟩
                 have hR19 := hR18.below (hq.below W18.heap.size) (Nat.le_refl _)
                 have B19 := B18.trans (hq.below w.heap.size)
                 clear hq R818 R9 hR18
                 go_wp2_with fail
                 refine (r_end p _ _ W19 hR19).mono ?_
                 rintro e W20 ⟨rfl, rfl⟩
                 go_wp2_with fail
                 refine (lives_from w _ B19).mono ?_
                 rintro e W20 ⟨rfl, B20⟩
                 go_wp2_with fail
                 go_ret
                 exact ⟨rfl, B20⟩
end Go.Proofs.Ytigbknhlmifikaa
