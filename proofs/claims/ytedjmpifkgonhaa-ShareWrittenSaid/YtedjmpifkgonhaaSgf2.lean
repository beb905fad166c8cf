/- greatestFirst, whole. -/
import Derived.Test.YtedjmpifkgonhaaSgf
namespace Go.Proofs.Ytedjmpifkgonhaa
open Go.RowKit Hb Sm Sx

theorem mid_get {α : Type} (xs : List α) (x : α) (ys : List α) (k : Nat) (h : xs.length = k) : (xs ++ x :: ys)[k]? = some x := by
  subst h; simp
theorem mid_set {α : Type} (xs : List α) (x u : α) (ys : List α) (k : Nat) (h : xs.length = k) : (xs ++ x :: ys).set k u = (xs ++ [u]) ++ ys := by
  subst h; simp
theorem Rd.nat {w : World} {B n : Nat} {a : Addr} {xs : List Nat} (h : Rd w B (some a) n (xs.map nv)) (k : Nat) (hk : k < n) : w.cell? (a.add k) = some (nv (xs.getD k 0)) := by
  obtain ⟨a', e, _, hc⟩ := h.2 (by omega)
  injection e with e
  subst e
  have hl : xs.length = n := by simpa using h.1
  refine hc k _ ?_
  rw [List.getElem?_map, List.getD_eq_getElem?_getD, List.getElem?_eq_getElem (by omega)]
  rfl
theorem Rd.blk {w : World} {B n : Nat} {a : Addr} {xs : List Value} (h : Rd w B (some a) n xs) (hn : 0 < n) : a.block < B := by
  obtain ⟨a', e, hb, _⟩ := h.2 hn
  injection e with e
  subst e
  exact hb

set_option maxRecDepth 100000 in
set_option maxHeartbeats 1000000 in
theorem gf_any (rs : List Nat) (n c : Nat) (a : Addr) (h0 : 0 < n) (hn : n ≤ 1000) (w : World) (hr : Rd w w.heap.size (some a) n (rs.map nv)) :
    Calls Try.prog 40 #[.slice (some a) n c] w fun e w' => ∃ g c', e = .returned (.slice (some ⟨g, 0, none⟩) n c') ∧ w.heap.size ≤ g ∧ Rd w' w'.heap.size (some ⟨g, 0, none⟩) n ((ord rs).map nv) ∧ Below w.heap.size w w' := by
  obtain ⟨i0, hi, hz0, hz1, hz2⟩ := info_parts infoI
  have hlr : rs.length = n := by simpa using hr.1
  have hab := Rd.blk hr h0
  have HLR := Lib.hid hlr
  have HR := Lib.hid hr
  have B0 := (Below.refl w.heap.size w).alloc (Nat.le_refl _) (.cells #[.slice (some a) n c] 23)
  have hbx : (w.alloc (.cells #[.slice (some a) n c] 23)).cell? ⟨w.heap.size, 0, none⟩ = some (.slice (some a) n c) := by simp
  have hsz : (w.alloc (.cells #[.slice (some a) n c] 23)).heap.size = w.heap.size + 1 := by simp
  clear hlr hr
  go_enter Try.func40, Try.ntmps40
  go_wp2_with (at_make; refine wpList_make_full _ rfl _ _ 23 rfl w.heap.size 3 i0 (.int .i64 0) 1 Try.underlying23 hi hz0 hz1 .i64 .i64 _ _ n rfl rfl rfl rfl (by rw [hz2]; omega) (by unfold maxLen; omega) B0.size ?_; intro w2 hown hgrow; have hb2 := (World.cell?_of_block (hgrow.block w.heap.size (by simp) (by simp))).trans hbx; have B2 := B0.grown hgrow B0.size (fun k hk => by cases hk); have hs2 := hgrow.size; rw [hsz] at hs2 hown; clear hbx B0 hgrow)
  go_loopw [4, 10] (fun _ ix wr => ∃ (k m : Nat), n = k + m ∧ ix = .int .i64 k ∧ wr.ownsRow w.heap.size 3 1 (.slice (some ⟨w.heap.size + 1, 0, none⟩) n n) n ((List.range k).map nv ++ List.replicate m (.int .i64 0)) ∧ wr.cell? ⟨w.heap.size, 0, none⟩ = some (.slice (some a) n c) ∧ Below w.heap.size w wr ∧ w.heap.size + 1 < wr.heap.size) (fun _ ix _ => n - (intOf ix).toNat)
  case atStart =>
    refine ⟨0, n, by omega, rfl, own_cast hown rfl ?_, hb2, B2, by have := hown.lt; have := (this (w.heap.size + 1) rfl).2; exact this⟩
    show (madeCells #[Value.int .i64 0] (n * 1)).toList = _
    rw [Nat.mul_one, toList_madeCells_one]; simp
  case round =>
    clear hb2 B2 hs2 hown
    obtain ⟨k, m, hkm, rfl, hok, hbk, hBk, hsk⟩ := hrel
    cases m with
    | succ m =>
      have hkn : k < n := by omega
      have HKM := Lib.hid hkm
      clear hkm
      have hfz := hok.frozenAt k
      have hcl : wr.cell? ⟨w.heap.size + 1, k, none⟩ = some (.int .i64 0) := by
        rw [hok.cellAt k (by omega), List.replicate_succ]
        exact mid_get _ _ _ _ (by simp)
      have ho4 := (hok.stored k (nv k)).1
      rw [List.replicate_succ, mid_set _ _ _ _ _ (by simp)] at ho4
      have hb4 : (wr.setCell ⟨w.heap.size + 1, k, none⟩ (.int .i64 k)).cell? ⟨w.heap.size, 0, none⟩ = some (.slice (some a) n c) := by
        rw [World.cell?_setCell_other _ _ _ _ (by intro e; simp only [Addr.mk.injEq] at e; omega)]
        exact hbk
      have hB4 := hBk.setCell (p := ⟨w.heap.size + 1, k, none⟩) (by simp) (.int .i64 k)
      go_wp2_with fail
      go_roundw
      case rel =>
        refine ⟨k + 1, m, by rw [HKM.out]; omega, by go_num, own_cast ho4 rfl ?_, hb4, hB4, by simpa using hsk⟩
        rw [List.range_succ, List.map_append]
        rfl
      case measure => simp [intOf]; omega
    | zero =>
      obtain rfl : n = k := by omega
      obtain ⟨q, rfl⟩ : ∃ q, n = q + 1 := ⟨n - 1, by omega⟩
      have hr' := (HR.out.below hBk)
      have cc := gf_sort rs q HLR.out hn a c w.heap.size (w.heap.size + 1) (q + 1) wr hbk (fun k hk => Rd.nat hr' k hk) (by omega) (by omega) hsk (fun k hk => ⟨by
        rw [hok.cellAt k (by omega)]
        simp [hk], hok.frozenAt k⟩)
      clear hok hbk hr' hkm
      go_wp2_with fail
      refine cc.mono ?_
      rintro e W' ⟨rfl, h1, h2⟩
      have hB5 := h2 w.heap.size (by omega) (by omega)
      clear cc
      go_wp2_with fail
      go_ret
      refine ⟨_, _, rfl, by omega, ⟨?_, fun _ => ⟨_, rfl, ?_, fun j u hu => ?_⟩⟩, hBk.trans hB5⟩
      · rw [List.length_map, ord_len]; exact HLR.out
      · exact Nat.lt_of_lt_of_le hsk hB5.size
      · rw [List.getElem?_map] at hu
        obtain ⟨v, hv, rfl⟩ := Option.map_eq_some_iff.1 hu
        rw [add_plain, Nat.zero_add]
        exact h1 j v hv
end Go.Proofs.Ytedjmpifkgonhaa
