/- The law ShareOrder, walked. -/
import Derived.Test.YtedjmpifkgonhaaSlaws1
namespace Go.Proofs.Ytedjmpifkgonhaa
open Go.RowKit Hb Sm Sx
open Go.Sort (grow)

theorem grow_below (w : World) (q : Nat) (os : Array Obj) (B : Nat) (hB : B ≤ w.heap.size) : Below B w (grow (w.drewN q) os) :=
  (below_drewN (Below.refl B w) q).trans ⟨rfl, rfl, rfl, by simp [grow], fun k hk => Go.Sort.heap_grow_old _ _ (by show k < w.heap.size; omega)⟩
theorem comp_t (a b c d : Nat) (A B C D : Int) (hA : A = (a : Int)) (hB : B = (b : Int)) (hC : C = (c : Int)) (hD : D = (d : Int)) (ha : a ≤ 1152921504606846976) (hb : 0 < b ∧ b ≤ 1152921504606846976) (hc : c ≤ 1152921504606846976) (hd : 0 < d ∧ d ≤ 1152921504606846976) (r : Int) (hr : r = cmp4 a b c d) (w : World) :
    Calls Try.prog 24 #[.int .i64 A, .int .i64 B, .int .i64 C, .int .i64 D] w fun e w' => e = .returned (.tuple #[.int .i64 r, .int .i64 0]) ∧ ∃ q os, w' = grow (w.drewN q) os := by
  subst hA hB hC hD hr
  have h := scompare a b c d w
  have hok : okComp a b c d = true := by
    unfold okComp isFr isLg
    simp only [Bool.and_eq_true, decide_eq_true_eq]
    omega
  unfold compS at h
  rw [if_pos hok] at h
  simp only [Int.toNat_natCast] at h
  exact h.mono fun _ _ ⟨he, os, hw⟩ => ⟨he, 0, os, by rw [hw]; rfl⟩
theorem own_cell {w : World} {base n c g : Nat} {xs : List Nat} (h : w.ownsRow base 3 1 (.slice (some ⟨g, 0, none⟩) n c) n (xs.map nv)) (k : Nat) (hk : k < n) : w.cell? ⟨g, k, none⟩ = some (.int .i64 (xs.getD k 0 : Nat)) := by
  have hl : (xs.map nv).length = n := by simpa using h.1
  have hl' : xs.length = n := by simpa using hl
  rw [h.cellAt k (by omega), map_at xs k (by omega)]
theorem list3 {xs : List Nat} (h : xs.length = 3) : ∃ a b c, xs = [a, b, c] := by
  match xs, h with
  | [a, b, c], _ => exact ⟨a, b, c, rfl⟩

set_option maxRecDepth 100000 in
set_option maxHeartbeats 8000000 in
theorem ShareOrder_walk (w : World) (A0 : Option Addr) (len0 cap0 : Nat) (l : List Int) (hr : Rd w w.heap.size A0 len0 (l.map iv)) (hz : ∀ y ∈ l, -9223372036854775808 ≤ y ∧ y ≤ 9223372036854775807) (hnc : len0 ≤ cap0) (hc : cap0 ≤ maxLen) (a1 : Int) (w1 : (Lit.int .i64 a1).wf = true) :
    Calls Try.prog 10 #[.slice A0 len0 cap0, .int .i64 a1] w fun e W' => e = .returned (.bool true) ∧ Below w.heap.size w W' := by
  obtain ⟨i0, hi, hz0, hz1, hz2⟩ := info_parts infoI
  unfold maxLen at hc
  have hl : l.length = len0 := by simpa using hr.1
  have HL := Lib.hid hl
  have HZ := Lib.hid hz
  clear hl hz
  have hmx : Try.prog.follows .mixedOrders = true := by kernel_rfl
  go_enter Try.func10, Try.ntmps10
  go_wp2_with fail
  go_loopw [5, 6, 7, 8, 9] (fun nv' dv ix _ _ wr => ∃ (k : Nat) (ns ds : List Nat) (A1 : Option Addr) (c1 : Nat) (A2 : Option Addr) (c2 : Nat), k ≤ 3 ∧ nv' = .slice A1 k c1 ∧ dv = .slice A2 k c2 ∧ ix = .int .i64 k ∧ Hid ((∀ x ∈ ns, x < 1073741824) ∧ (∀ x ∈ ds, 0 < x ∧ x ≤ 1073741824)) ∧ wr.ownsRow w.heap.size 3 1 (.slice A1 k c1) k (ns.map nv) ∧ wr.ownsRow w.heap.size 3 1 (.slice A2 k c2) k (ds.map nv) ∧ Apart (.slice A1 k c1) (.slice A2 k c2) ∧ Below w.heap.size w wr) (fun _ _ ix _ _ _ => 3 - (intOf ix).toNat)
  case atStart => exact ⟨0, [], [], none, 0, none, 0, by omega, rfl, rfl, rfl, ⟨by simp, by simp⟩, World.ownsRow_nil _ _ _ _, World.ownsRow_nil _ _ _ _, Apart.none, Below.refl _ _⟩
  case round =>
    obtain ⟨k, ns, ds, A1, c1, A2, c2, hk3, rfl, rfl, rfl, HN, ho1, ho2, hap, hB⟩ := hrel
    by_cases hlt : k < 3
    · have hs := hB.size
      have HB := Lib.hid hB
      have HAP := Lib.hid hap
      have O1 := Lib.hid ho1
      have O2 := Lib.hid ho2
      have hrw := hr.below hB
      clear ho1 ho2 hap hB
      by_cases hin : 2 * k + 1 < len0
      · obtain ⟨j, hj⟩ : ∃ j, j = 2 * k := ⟨_, rfl⟩
        obtain ⟨jj, hjj⟩ : ∃ jj, jj = j + 1 := ⟨_, rfl⟩
        have e1 : 2 * (k : Int) = (j : Int) := by omega
        have e3 : (j : Int) + 1 = (jj : Int) := by omega
        obtain ⟨a, rfl, -, hx⟩ := Rd.int hrw j (by omega)
        obtain ⟨_, e, -, hy⟩ := Rd.int hrw jj (by omega)
        injection e with e
        subst e
        obtain ⟨x, hxd⟩ : ∃ x, x = l.getD j 0 := ⟨_, rfl⟩
        obtain ⟨y, hyd⟩ : ∃ y, y = l.getD jj 0 := ⟨_, rfl⟩
        rw [← hxd] at hx
        rw [← hyd] at hy
        have hxb : -9223372036854775808 ≤ x ∧ x ≤ 9223372036854775807 := by
          refine HZ.out x ?_
          rw [hxd, List.getD_eq_getElem?_getD, List.getElem?_eq_getElem (by rw [HL.out]; omega)]
          exact List.getElem_mem _
        have hyb : -9223372036854775808 ≤ y ∧ y ≤ 9223372036854775807 := by
          refine HZ.out y ?_
          rw [hyd, List.getD_eq_getElem?_getD, List.getElem?_eq_getElem (by rw [HL.out]; omega)]
          exact List.getElem_mem _
        have hjl : jj < len0 := by omega
        have hj4 : j ≤ 4 := by omega
        have hj5 : jj ≤ 5 := by omega
        have i1 : (jj : Int) < (len0 : Int) := by omega
        have i2 : (j : Int) < (len0 : Int) := by omega
        clear hxd hyd hj hin hrw hjj
        go_wp2_with fail
        refine (around3 x 1073741824 _ rfl hxb (by omega) wr).mono ?_
        rintro e W ⟨⟨u, rfl, hu, -⟩, rfl⟩
        clear hx hxb
        go_wp2_with (at_builtin; refine wpList_append_rd _ rfl _ _ 23 rfl w.heap.size 3 i0 (.int .i64 0) 8 Try.underlying23 hi hz0 hz1 hz2 rfl (.slice A1 k c1) k _ rfl (O1.out.alloc _) (wr.heap.size + 1) (some ⟨wr.heap.size, 0, none⟩) 1 1 [nv u] rfl (boxed_rd wr (nv u) 3) (fun u hu => by rw [List.mem_singleton.1 hu]; rfl) (by unfold maxLen; omega) (by omega) (by simp; omega) ?_; intro A3 c3 W2 ho3 hg3 hb3; have ho2 := O2.out.alloc (.cells #[nv u] 3); have ho4 := ho2.kept hg3 (HAP.out.sym.ne); have hB3 := own_grown (HB.out.alloc hs (.cells #[nv u] 3)) (O1.out.alloc _) hg3 (by simp; omega); have hs3 := hB3.size; have hap3 := HAP.out.grow ho2 hb3 (by simp); have P3 := Lib.hid ho3; have P4 := Lib.hid ho4; have PB := Lib.hid hB3; have PA := Lib.hid hap3; clear ho2 ho3 ho4 hB3 hap3 hg3 hb3)
        refine (around3 y 1073741824 _ rfl hyb (by omega) W2).mono ?_
        rintro e W ⟨⟨v', rfl, hv', -⟩, rfl⟩
        obtain ⟨v, hv⟩ : ∃ v, v = v' + 1 := ⟨_, rfl⟩
        have e2 : 1 + (v' : Int) = (v : Int) := by omega
        have HN2 := Lib.hid (show (∀ x ∈ ns ++ [u], x < 1073741824) ∧ (∀ x ∈ ds ++ [v], 0 < x ∧ x ≤ 1073741824) from ⟨fun x hx => by
          rcases List.mem_append.1 hx with h | h
          · exact HN.out.1 x h
          · rw [List.mem_singleton.1 h]; exact hu, fun x hx => by
          rcases List.mem_append.1 hx with h | h
          · exact HN.out.2 x h
          · rw [List.mem_singleton.1 h]; omega⟩)
        have hv3 : v ≤ 1073741824 := by omega
        clear hv hv'
        go_wp2_with (at_builtin; refine wpList_append_rd _ rfl _ _ 23 rfl w.heap.size 3 i0 (.int .i64 0) 8 Try.underlying23 hi hz0 hz1 hz2 rfl (.slice A2 k c2) k _ rfl (P4.out.alloc _) (W2.heap.size + 1) (some ⟨W2.heap.size, 0, none⟩) 1 1 [nv v] rfl (boxed_rd W2 (nv v) 3) (fun u hu => by rw [List.mem_singleton.1 hu]; rfl) (by unfold maxLen; omega) (by omega) (by simp; omega) ?_; intro A4 c4 W5 ho5 hg5 hb5; have ho6 := (P3.out.alloc (.cells #[nv v] 3)).kept hg5 (PA.out.ne); have hap5 := (PA.out.sym.grow (P3.out.alloc (.cells #[nv v] 3)) hb5 (by simp)).sym; have hB5 := own_grown (PB.out.alloc hs3 (.cells #[nv v] 3)) (P4.out.alloc _) hg5 (by simp; omega); have P5 := Lib.hid ho5; have P6 := Lib.hid ho6; have PB5 := Lib.hid hB5; have PA5 := Lib.hid hap5; clear ho5 ho6 hB5 hap5 hg5 hb5)
        go_roundw
        case rel => exact ⟨k + 1, ns ++ [u], ds ++ [v], A3, c3, A4, c4, by omega, rfl, rfl, by go_num, HN2, own_cast P6.out rfl (by rw [List.map_append]; rfl), own_cast P5.out rfl (by rw [List.map_append]; rfl), PA5.out, PB5.out⟩
        case measure => simp [intOf]; omega
      · have d1 : decide (2 * (k : Int) + 1 < (len0 : Int)) = false := decide_eq_false (by omega)
        clear hin hrw
        go_wp2_with fail
        refine (around3 0 1073741824 _ rfl (by omega) (by omega) wr).mono ?_
        rintro e W ⟨⟨u, rfl, hu, -⟩, rfl⟩
        go_wp2_with (at_builtin; refine wpList_append_rd _ rfl _ _ 23 rfl w.heap.size 3 i0 (.int .i64 0) 8 Try.underlying23 hi hz0 hz1 hz2 rfl (.slice A1 k c1) k _ rfl (O1.out.alloc _) (wr.heap.size + 1) (some ⟨wr.heap.size, 0, none⟩) 1 1 [nv u] rfl (boxed_rd wr (nv u) 3) (fun u hu => by rw [List.mem_singleton.1 hu]; rfl) (by unfold maxLen; omega) (by omega) (by simp; omega) ?_; intro A3 c3 W2 ho3 hg3 hb3; have ho2 := O2.out.alloc (.cells #[nv u] 3); have ho4 := ho2.kept hg3 (HAP.out.sym.ne); have hB3 := own_grown (HB.out.alloc hs (.cells #[nv u] 3)) (O1.out.alloc _) hg3 (by simp; omega); have hs3 := hB3.size; have hap3 := HAP.out.grow ho2 hb3 (by simp); have P3 := Lib.hid ho3; have P4 := Lib.hid ho4; have PB := Lib.hid hB3; have PA := Lib.hid hap3; clear ho2 ho3 ho4 hB3 hap3 hg3 hb3)
        refine (around3 0 1073741824 _ rfl (by omega) (by omega) W2).mono ?_
        rintro e W ⟨⟨v', rfl, hv', -⟩, rfl⟩
        obtain ⟨v, hv⟩ : ∃ v, v = v' + 1 := ⟨_, rfl⟩
        have e2 : 1 + (v' : Int) = (v : Int) := by omega
        have HN2 := Lib.hid (show (∀ x ∈ ns ++ [u], x < 1073741824) ∧ (∀ x ∈ ds ++ [v], 0 < x ∧ x ≤ 1073741824) from ⟨fun x hx => by
          rcases List.mem_append.1 hx with h | h
          · exact HN.out.1 x h
          · rw [List.mem_singleton.1 h]; exact hu, fun x hx => by
          rcases List.mem_append.1 hx with h | h
          · exact HN.out.2 x h
          · rw [List.mem_singleton.1 h]; omega⟩)
        have hv3 : v ≤ 1073741824 := by omega
        clear hv hv'
        go_wp2_with (at_builtin; refine wpList_append_rd _ rfl _ _ 23 rfl w.heap.size 3 i0 (.int .i64 0) 8 Try.underlying23 hi hz0 hz1 hz2 rfl (.slice A2 k c2) k _ rfl (P4.out.alloc _) (W2.heap.size + 1) (some ⟨W2.heap.size, 0, none⟩) 1 1 [nv v] rfl (boxed_rd W2 (nv v) 3) (fun u hu => by rw [List.mem_singleton.1 hu]; rfl) (by unfold maxLen; omega) (by omega) (by simp; omega) ?_; intro A4 c4 W5 ho5 hg5 hb5; have ho6 := (P3.out.alloc (.cells #[nv v] 3)).kept hg5 (PA.out.ne); have hap5 := (PA.out.sym.grow (P3.out.alloc (.cells #[nv v] 3)) hb5 (by simp)).sym; have hB5 := own_grown (PB.out.alloc hs3 (.cells #[nv v] 3)) (P4.out.alloc _) hg5 (by simp; omega); have P5 := Lib.hid ho5; have P6 := Lib.hid ho6; have PB5 := Lib.hid hB5; have PA5 := Lib.hid hap5; clear ho5 ho6 hB5 hap5 hg5 hb5)
        go_roundw
        case rel => exact ⟨k + 1, ns ++ [u], ds ++ [v], A3, c3, A4, c4, by omega, rfl, rfl, by go_num, HN2, own_cast P6.out rfl (by rw [List.map_append]; rfl), own_cast P5.out rfl (by rw [List.map_append]; rfl), PA5.out, PB5.out⟩
        case measure => simp [intOf]; omega
    · obtain rfl : k = 3 := by omega
      obtain ⟨g, rfl, hg, -⟩ := own_some ho1 (by omega)
      obtain ⟨h, rfl, hh, -⟩ := own_some ho2 (by omega)
      obtain ⟨n0, n1, n2, rfl⟩ := list3 (show ns.length = 3 by simpa using ho1.1)
      obtain ⟨d0, d1, d2, rfl⟩ := list3 (show ds.length = 3 by simpa using ho2.1)
      have hn : n0 < 1073741824 ∧ n1 < 1073741824 ∧ n2 < 1073741824 := ⟨HN.out.1 n0 (by simp), HN.out.1 n1 (by simp), HN.out.1 n2 (by simp)⟩
      have hd : (0 < d0 ∧ d0 ≤ 1073741824) ∧ (0 < d1 ∧ d1 ≤ 1073741824) ∧ (0 < d2 ∧ d2 ≤ 1073741824) := ⟨HN.out.2 d0 (by simp), HN.out.2 d1 (by simp), HN.out.2 d2 (by simp)⟩
      clear HN hap hlt hk3
      obtain ⟨hn0, hn1, hn2⟩ := hn
      obtain ⟨hd0, hd1, hd2⟩ := hd
      have B0 := Lib.hid hB
      have O1 := Lib.hid ho1
      have O2 := Lib.hid ho2
      have hs := hB.size
      have x0 := own_cell ho1 0 (by omega)
      have x1 := own_cell ho1 1 (by omega)
      have x2 := own_cell ho1 2 (by omega)
      have y0 := own_cell ho2 0 (by omega)
      have y1 := own_cell ho2 1 (by omega)
      have y2 := own_cell ho2 2 (by omega)
      have hgl := (ho1.lt g rfl).2
      have hhl := (ho2.lt h rfl).2
      simp only [List.getD_cons_zero, List.getD_cons_succ] at x0 x1 x2 y0 y1 y2
      clear ho1 ho2 hB
      clear hr
      go_wp2_with fail
      refine (around3 a1 1000 _ rfl (bounds_i64 w1) (by omega) wr).mono ?_
      rintro e W ⟨⟨k', rfl, hk', -⟩, rfl⟩
      obtain ⟨k, hk⟩ : ∃ k, k = k' + 1 := ⟨_, rfl⟩
      have e1 : 1 + (k' : Int) = (k : Int) := by omega
      have hk0 : 0 < k := by omega
      have hk2 : k ≤ 1000 := by omega
      clear hk hk'
      obtain ⟨p, hp⟩ : ∃ p, p = k * n0 := ⟨_, rfl⟩
      obtain ⟨q, hq⟩ : ∃ q, q = k * d0 := ⟨_, rfl⟩
      have f1 : (k : Int) * (n0 : Int) = (p : Int) := by rw [hp]; exact (Int.natCast_mul _ _).symm
      have f2 : (k : Int) * (d0 : Int) = (q : Int) := by rw [hq]; exact (Int.natCast_mul _ _).symm
      have hp2 : p ≤ 1073741824000 := by rw [hp]; exact Nat.le_trans (Nat.mul_le_mul hk2 (Nat.le_of_lt hn0)) (by omega)
      have hq2 : q ≤ 1073741824000 := by rw [hq]; exact Nat.le_trans (Nat.mul_le_mul hk2 hd0.2) (by omega)
      have hq0 : 0 < q := by rw [hq]; exact Nat.mul_pos hk0 hd0.1
      obtain ⟨ab, hab⟩ : ∃ r, r = cmp4 n0 d0 n1 d1 := ⟨_, rfl⟩
      obtain ⟨bc, hbc⟩ : ∃ r, r = cmp4 n1 d1 n2 d2 := ⟨_, rfl⟩
      obtain ⟨ac, hac⟩ : ∃ r, r = cmp4 n0 d0 n2 d2 := ⟨_, rfl⟩
      obtain ⟨ba, hba⟩ : ∃ r, r = cmp4 n1 d1 n0 d0 := ⟨_, rfl⟩
      have hsame : (0 : Int) = cmp4 n0 d0 p q := by rw [hp, hq, cmp4_mul]
      have rab := cmp4_range n0 d0 n1 d1
      have rbc := cmp4_range n1 d1 n2 d2
      have rac := cmp4_range n0 d0 n2 d2
      have rba : ba = -ab := by rw [hba, hab, cmp4_swap]
      have k1 : ab ≤ 0 → bc ≤ 0 → ac ≤ 0 := by rw [hab, hbc, hac]; exact cmp4_trans hd1.1
      have k2 : 0 ≤ ab → 0 ≤ bc → 0 ≤ ac := by rw [hab, hbc, hac]; exact cmp4_trans' hd1.1
      rw [← hab] at rab
      rw [← hbc] at rbc
      rw [← hac] at rac
      have K := Lib.hid (And.intro rab (And.intro rbc (And.intro rac (And.intro k1 k2))))
      have HC := Lib.hid (And.intro hab (And.intro hbc (And.intro hac (And.intro hba hsame))))
      have RBA := Lib.hid rba
      clear hp hq rab rbc rac k1 k2 hab hbc hac hba hsame rba
      have x0g : ∀ (m : Nat) (os : Array Obj), (grow (wr.drewN m) os).cell? ⟨g, 0, none⟩ = some (.int .i64 (n0 : Nat)) := fun m os => cell_grown (by assumption) x0 m os
      have x1g : ∀ (m : Nat) (os : Array Obj), (grow (wr.drewN m) os).cell? ⟨g, 1, none⟩ = some (.int .i64 (n1 : Nat)) := fun m os => cell_grown (by assumption) x1 m os
      have x2g : ∀ (m : Nat) (os : Array Obj), (grow (wr.drewN m) os).cell? ⟨g, 2, none⟩ = some (.int .i64 (n2 : Nat)) := fun m os => cell_grown (by assumption) x2 m os
      have y0g : ∀ (m : Nat) (os : Array Obj), (grow (wr.drewN m) os).cell? ⟨h, 0, none⟩ = some (.int .i64 (d0 : Nat)) := fun m os => cell_grown (by assumption) y0 m os
      have y1g : ∀ (m : Nat) (os : Array Obj), (grow (wr.drewN m) os).cell? ⟨h, 1, none⟩ = some (.int .i64 (d1 : Nat)) := fun m os => cell_grown (by assumption) y1 m os
      have y2g : ∀ (m : Nat) (os : Array Obj), (grow (wr.drewN m) os).cell? ⟨h, 2, none⟩ = some (.int .i64 (d2 : Nat)) := fun m os => cell_grown (by assumption) y2 m os
      clear x0 x1 x2 y0 y1 y2
      go_wp2_with fail
      go_quiet_grown (first | (go_at_call 24; refine Calls.grown_of (comp_t n0 d0 n1 d1 _ _ _ _ rfl rfl rfl rfl (by omega) ⟨by omega, by omega⟩ (by omega) ⟨by omega, by omega⟩ ab HC.out.1 _)))
      obtain ⟨W1, hW1⟩ : ∃ W', W' = grow (wr.drewN nq) osq := ⟨_, rfl⟩
      have Bq := grow_below wr nq osq wr.heap.size (Nat.le_refl _)
      have hsz : wr.heap.size ≤ W1.heap.size := by rw [hW1]; exact Bq.size
      have x0 := x0g nq osq
      have x1 := x1g nq osq
      have x2 := x2g nq osq
      have y0 := y0g nq osq
      have y1 := y1g nq osq
      have y2 := y2g nq osq
      rw [← hW1] at x0 x1 x2 y0 y1 y2 Bq ⊢
      have B1 := Lib.hid (B0.out.trans (Bq.mono hs))
      have hgl' : g < W1.heap.size := by omega
      have hhl' : h < W1.heap.size := by omega
      replace hgl := hgl'
      replace hhl := hhl'
      replace hs := Nat.le_trans hs hsz
      clear x0g x1g x2g y0g y1g y2g Bq hW1 hsz hgl' hhl' B0
      clear O1 O2
      obtain ⟨wr, hwr⟩ : ∃ v, v = W1 := ⟨_, rfl⟩
      rw [← hwr] at x0 x1 x2 y0 y1 y2 B1 hgl hhl hs ⊢
      clear hwr
      clear nq osq
      have x0g : ∀ (m : Nat) (os : Array Obj), (grow (wr.drewN m) os).cell? ⟨g, 0, none⟩ = some (.int .i64 (n0 : Nat)) := fun m os => cell_grown (by assumption) x0 m os
      have x1g : ∀ (m : Nat) (os : Array Obj), (grow (wr.drewN m) os).cell? ⟨g, 1, none⟩ = some (.int .i64 (n1 : Nat)) := fun m os => cell_grown (by assumption) x1 m os
      have x2g : ∀ (m : Nat) (os : Array Obj), (grow (wr.drewN m) os).cell? ⟨g, 2, none⟩ = some (.int .i64 (n2 : Nat)) := fun m os => cell_grown (by assumption) x2 m os
      have y0g : ∀ (m : Nat) (os : Array Obj), (grow (wr.drewN m) os).cell? ⟨h, 0, none⟩ = some (.int .i64 (d0 : Nat)) := fun m os => cell_grown (by assumption) y0 m os
      have y1g : ∀ (m : Nat) (os : Array Obj), (grow (wr.drewN m) os).cell? ⟨h, 1, none⟩ = some (.int .i64 (d1 : Nat)) := fun m os => cell_grown (by assumption) y1 m os
      have y2g : ∀ (m : Nat) (os : Array Obj), (grow (wr.drewN m) os).cell? ⟨h, 2, none⟩ = some (.int .i64 (d2 : Nat)) := fun m os => cell_grown (by assumption) y2 m os
      clear x0 x1 x2 y0 y1 y2
      go_wp2_with fail
      go_quiet_grown (first | (go_at_call 24; refine Calls.grown_of (comp_t n1 d1 n2 d2 _ _ _ _ rfl rfl rfl rfl (by omega) ⟨by omega, by omega⟩ (by omega) ⟨by omega, by omega⟩ bc HC.out.2.1 _)))
      obtain ⟨W2, hW2⟩ : ∃ W', W' = grow (wr.drewN nq) osq := ⟨_, rfl⟩
      have Bq := grow_below wr nq osq wr.heap.size (Nat.le_refl _)
      have hsz : wr.heap.size ≤ W2.heap.size := by rw [hW2]; exact Bq.size
      have x0 := x0g nq osq
      have x1 := x1g nq osq
      have x2 := x2g nq osq
      have y0 := y0g nq osq
      have y1 := y1g nq osq
      have y2 := y2g nq osq
      rw [← hW2] at x0 x1 x2 y0 y1 y2 Bq ⊢
      have B2 := Lib.hid (B1.out.trans (Bq.mono hs))
      have hgl' : g < W2.heap.size := by omega
      have hhl' : h < W2.heap.size := by omega
      replace hgl := hgl'
      replace hhl := hhl'
      replace hs := Nat.le_trans hs hsz
      clear x0g x1g x2g y0g y1g y2g Bq hW2 hsz hgl' hhl' B1
      skip
      obtain ⟨wr, hwr⟩ : ∃ v, v = W2 := ⟨_, rfl⟩
      rw [← hwr] at x0 x1 x2 y0 y1 y2 B2 hgl hhl hs ⊢
      clear hwr
      clear nq osq
      have x0g : ∀ (m : Nat) (os : Array Obj), (grow (wr.drewN m) os).cell? ⟨g, 0, none⟩ = some (.int .i64 (n0 : Nat)) := fun m os => cell_grown (by assumption) x0 m os
      have x1g : ∀ (m : Nat) (os : Array Obj), (grow (wr.drewN m) os).cell? ⟨g, 1, none⟩ = some (.int .i64 (n1 : Nat)) := fun m os => cell_grown (by assumption) x1 m os
      have x2g : ∀ (m : Nat) (os : Array Obj), (grow (wr.drewN m) os).cell? ⟨g, 2, none⟩ = some (.int .i64 (n2 : Nat)) := fun m os => cell_grown (by assumption) x2 m os
      have y0g : ∀ (m : Nat) (os : Array Obj), (grow (wr.drewN m) os).cell? ⟨h, 0, none⟩ = some (.int .i64 (d0 : Nat)) := fun m os => cell_grown (by assumption) y0 m os
      have y1g : ∀ (m : Nat) (os : Array Obj), (grow (wr.drewN m) os).cell? ⟨h, 1, none⟩ = some (.int .i64 (d1 : Nat)) := fun m os => cell_grown (by assumption) y1 m os
      have y2g : ∀ (m : Nat) (os : Array Obj), (grow (wr.drewN m) os).cell? ⟨h, 2, none⟩ = some (.int .i64 (d2 : Nat)) := fun m os => cell_grown (by assumption) y2 m os
      clear x0 x1 x2 y0 y1 y2
      go_wp2_with fail
      go_quiet_grown (first | (go_at_call 24; refine Calls.grown_of (comp_t n0 d0 n2 d2 _ _ _ _ rfl rfl rfl rfl (by omega) ⟨by omega, by omega⟩ (by omega) ⟨by omega, by omega⟩ ac HC.out.2.2.1 _)))
      obtain ⟨W3, hW3⟩ : ∃ W', W' = grow (wr.drewN nq) osq := ⟨_, rfl⟩
      have Bq := grow_below wr nq osq wr.heap.size (Nat.le_refl _)
      have hsz : wr.heap.size ≤ W3.heap.size := by rw [hW3]; exact Bq.size
      have x0 := x0g nq osq
      have x1 := x1g nq osq
      have x2 := x2g nq osq
      have y0 := y0g nq osq
      have y1 := y1g nq osq
      have y2 := y2g nq osq
      rw [← hW3] at x0 x1 x2 y0 y1 y2 Bq ⊢
      have B3 := Lib.hid (B2.out.trans (Bq.mono hs))
      have hgl' : g < W3.heap.size := by omega
      have hhl' : h < W3.heap.size := by omega
      replace hgl := hgl'
      replace hhl := hhl'
      replace hs := Nat.le_trans hs hsz
      clear x0g x1g x2g y0g y1g y2g Bq hW3 hsz hgl' hhl' B2
      skip
      obtain ⟨wr, hwr⟩ : ∃ v, v = W3 := ⟨_, rfl⟩
      rw [← hwr] at x0 x1 x2 y0 y1 y2 B3 hgl hhl hs ⊢
      clear hwr
      clear nq osq
      have x0g : ∀ (m : Nat) (os : Array Obj), (grow (wr.drewN m) os).cell? ⟨g, 0, none⟩ = some (.int .i64 (n0 : Nat)) := fun m os => cell_grown (by assumption) x0 m os
      have x1g : ∀ (m : Nat) (os : Array Obj), (grow (wr.drewN m) os).cell? ⟨g, 1, none⟩ = some (.int .i64 (n1 : Nat)) := fun m os => cell_grown (by assumption) x1 m os
      have x2g : ∀ (m : Nat) (os : Array Obj), (grow (wr.drewN m) os).cell? ⟨g, 2, none⟩ = some (.int .i64 (n2 : Nat)) := fun m os => cell_grown (by assumption) x2 m os
      have y0g : ∀ (m : Nat) (os : Array Obj), (grow (wr.drewN m) os).cell? ⟨h, 0, none⟩ = some (.int .i64 (d0 : Nat)) := fun m os => cell_grown (by assumption) y0 m os
      have y1g : ∀ (m : Nat) (os : Array Obj), (grow (wr.drewN m) os).cell? ⟨h, 1, none⟩ = some (.int .i64 (d1 : Nat)) := fun m os => cell_grown (by assumption) y1 m os
      have y2g : ∀ (m : Nat) (os : Array Obj), (grow (wr.drewN m) os).cell? ⟨h, 2, none⟩ = some (.int .i64 (d2 : Nat)) := fun m os => cell_grown (by assumption) y2 m os
      clear x0 x1 x2 y0 y1 y2
      go_wp2_with fail
      go_quiet_grown (first | (go_at_call 24; refine Calls.grown_of (comp_t n1 d1 n0 d0 _ _ _ _ rfl rfl rfl rfl (by omega) ⟨by omega, by omega⟩ (by omega) ⟨by omega, by omega⟩ ba HC.out.2.2.2.1 _)))
      obtain ⟨W4, hW4⟩ : ∃ W', W' = grow (wr.drewN nq) osq := ⟨_, rfl⟩
      have Bq := grow_below wr nq osq wr.heap.size (Nat.le_refl _)
      have hsz : wr.heap.size ≤ W4.heap.size := by rw [hW4]; exact Bq.size
      have x0 := x0g nq osq
      have x1 := x1g nq osq
      have x2 := x2g nq osq
      have y0 := y0g nq osq
      have y1 := y1g nq osq
      have y2 := y2g nq osq
      rw [← hW4] at x0 x1 x2 y0 y1 y2 Bq ⊢
      have B4 := Lib.hid (B3.out.trans (Bq.mono hs))
      have hgl' : g < W4.heap.size := by omega
      have hhl' : h < W4.heap.size := by omega
      replace hgl := hgl'
      replace hhl := hhl'
      replace hs := Nat.le_trans hs hsz
      clear x0g x1g x2g y0g y1g y2g Bq hW4 hsz hgl' hhl' B3
      skip
      obtain ⟨wr, hwr⟩ : ∃ v, v = W4 := ⟨_, rfl⟩
      rw [← hwr] at x0 x1 x2 y0 y1 y2 B4 hgl hhl hs ⊢
      clear hwr
      clear nq osq
      have wp : IntKind.i64.wrap (p : Int) = (p : Int) := by rw [IntKind.wrap_i64]; omega
      have wq : IntKind.i64.wrap (q : Int) = (q : Int) := by rw [IntKind.wrap_i64]; omega
      have wp' : IntKind.i64.wrap ((k : Int) * (n0 : Int)) = (p : Int) := by rw [f1]; exact wp
      have wq' : IntKind.i64.wrap ((k : Int) * (d0 : Int)) = (q : Int) := by rw [f2]; exact wq
      have x0g : ∀ (m : Nat) (os : Array Obj), (grow (wr.drewN m) os).cell? ⟨g, 0, none⟩ = some (.int .i64 (n0 : Nat)) := fun m os => cell_grown (by assumption) x0 m os
      have x1g : ∀ (m : Nat) (os : Array Obj), (grow (wr.drewN m) os).cell? ⟨g, 1, none⟩ = some (.int .i64 (n1 : Nat)) := fun m os => cell_grown (by assumption) x1 m os
      have x2g : ∀ (m : Nat) (os : Array Obj), (grow (wr.drewN m) os).cell? ⟨g, 2, none⟩ = some (.int .i64 (n2 : Nat)) := fun m os => cell_grown (by assumption) x2 m os
      have y0g : ∀ (m : Nat) (os : Array Obj), (grow (wr.drewN m) os).cell? ⟨h, 0, none⟩ = some (.int .i64 (d0 : Nat)) := fun m os => cell_grown (by assumption) y0 m os
      have y1g : ∀ (m : Nat) (os : Array Obj), (grow (wr.drewN m) os).cell? ⟨h, 1, none⟩ = some (.int .i64 (d1 : Nat)) := fun m os => cell_grown (by assumption) y1 m os
      have y2g : ∀ (m : Nat) (os : Array Obj), (grow (wr.drewN m) os).cell? ⟨h, 2, none⟩ = some (.int .i64 (d2 : Nat)) := fun m os => cell_grown (by assumption) y2 m os
      clear x0 x1 x2 y0 y1 y2
      go_wp2_with fail
      go_quiet_grown (first | (go_at_call 24; refine Calls.grown_of (comp_t n0 d0 p q _ _ _ _ (by rfl) (by rfl) (by first | exact wp | exact wp' | rfl) (by first | exact wq | exact wq' | rfl) (by omega) ⟨by omega, by omega⟩ (by omega) ⟨by omega, by omega⟩ 0 HC.out.2.2.2.2 _)))
      obtain ⟨W5, hW5⟩ : ∃ W', W' = grow (wr.drewN nq) osq := ⟨_, rfl⟩
      have Bq := grow_below wr nq osq wr.heap.size (Nat.le_refl _)
      have hsz : wr.heap.size ≤ W5.heap.size := by rw [hW5]; exact Bq.size
      have x0 := x0g nq osq
      have x1 := x1g nq osq
      have x2 := x2g nq osq
      have y0 := y0g nq osq
      have y1 := y1g nq osq
      have y2 := y2g nq osq
      rw [← hW5] at x0 x1 x2 y0 y1 y2 Bq ⊢
      have B5 := Lib.hid (B4.out.trans (Bq.mono hs))
      have hgl' : g < W5.heap.size := by omega
      have hhl' : h < W5.heap.size := by omega
      replace hgl := hgl'
      replace hhl := hhl'
      replace hs := Nat.le_trans hs hsz
      clear x0g x1g x2g y0g y1g y2g Bq hW5 hsz hgl' hhl' B4
      skip
      obtain ⟨wr, hwr⟩ : ∃ v, v = W5 := ⟨_, rfl⟩
      rw [← hwr] at x0 x1 x2 y0 y1 y2 B5 hgl hhl hs ⊢
      clear hwr
      clear nq osq
      clear x0 x1 x2 y0 y1 y2
      clear f1 f2 wp wq wp' wq' hgl hhl
      have nb : -ba = ab := by have := RBA.out; omega
      obtain ⟨rab, rbc, rac, k1, k2⟩ := K.out
      have hb1 : -1 ≤ ba ∧ ba ≤ 1 := by have := RBA.out; omega
      obtain ⟨hb1, hb2⟩ := hb1
      have hcase : (decide (ab ≤ 0) = true ∧ decide (bc ≤ 0) = true ∧ decide (ac > 0) = false ∨ decide (ab ≤ 0) = true ∧ decide (bc ≤ 0) = false ∨ decide (ab ≤ 0) = false) ∧
          (decide (ab ≥ 0) = true ∧ decide (bc ≥ 0) = true ∧ decide (ac < 0) = false ∨ decide (ab ≥ 0) = true ∧ decide (bc ≥ 0) = false ∨ decide (ab ≥ 0) = false) := by
        simp only [decide_eq_true_eq, decide_eq_false_iff_not]
        omega
      clear rab rbc rac k1 k2 K HC RBA
      obtain ⟨hc1, hc2⟩ := hcase
      rcases hc1 with ⟨p1, p2, p3⟩ | ⟨p1, p2⟩ | p1 <;> rcases hc2 with ⟨p4, p5, p6⟩ | ⟨p4, p5⟩ | p4
      all_goals
        go_wp2_with fail
        refine (lives_from w wr B5.out).mono ?_
        rintro e W6 ⟨rfl, B6⟩
        go_wp2_with fail
        go_ret
        exact ⟨rfl, B6⟩
end Go.Proofs.Ytedjmpifkgonhaa
