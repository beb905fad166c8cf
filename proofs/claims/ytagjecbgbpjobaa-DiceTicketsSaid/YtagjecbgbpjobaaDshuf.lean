/- What Shuffle answers. -/
import Derived.Test.YtagjecbgbpjobaaDpick
import Derived.RegionTactic
import Derived.BigRegion
namespace Go.Proofs.Ytagjecbgbpjobaa
open Go.RowKit Go.Shelf Hm Hb Dm Ds

theorem own_but {w w' : World} {base p : Nat} {e : TypeId} {size n : Nat} {v : Value} {xs : List Value} (h : w.ownsRow base e size v n xs) (hb : But w.heap.size p w w') (hp : p < base) : w'.ownsRow base e size v n xs := by
  have hlt := h.lt
  refine ⟨h.1, ?_⟩
  rcases h.2 with h2 | ⟨g, cap, cur, rfl, hg, hh, r⟩
  · exact .inl h2
  · exact .inr ⟨g, cap, cur, rfl, hg, by rw [hb.block (hlt g rfl).2 (by omega)]; exact hh, r⟩
theorem mid_get' (xs ys : List Value) (y : Value) (k : Nat) (h : xs.length = k) : (xs ++ y :: ys)[k]? = some y := by subst h; simp
theorem mid_set' (xs ys : List Value) (y u : Value) (k : Nat) (h : xs.length = k) : (xs ++ y :: ys).set k u = xs ++ u :: ys := by subst h; simp
theorem shuf_yes {h : Int} {k : Nat} {p : Int} {l : List Int} {x q : Int} (e : roll h (k + 2 : Nat) p = (x, 0, q)) : shuf h (k + 1) p l = shuf h k q (swap l (k + 1) x.toNat) := by simp only [shuf]; rw [if_pos (by rw [e]), e]
theorem shuf_nope {h : Int} {k : Nat} {p : Int} {l : List Int} {x q : Int} (e : roll h (k + 2 : Nat) p = (x, 4, q)) : shuf h (k + 1) p l = (none, q) := by simp only [shuf]; rw [if_neg (by rw [e]; simp), e]

/-- what a list handed back is: the numbers, in new memory -/
def Listed (w W : World) (v : Value) (l : List Int) : Prop := ∃ A c, v = .slice A l.length c ∧ Rd W W.heap.size A l.length (l.map iv) ∧ (∀ a, A = some a → w.heap.size ≤ a.block)
def listErr (v : Value) (e : Int) : Ending := .returned (.tuple #[v, .int .i64 e])
theorem listed_nil (w W : World) : Listed w W (.slice none 0 0) [] := ⟨none, 0, rfl, Rd.nil _ _ _, fun a h => by cases h⟩

set_option maxRecDepth 100000 in
set_option maxHeartbeats 2000000 in
theorem shuffle_any (N : Int) (hN : -9223372036854775808 ≤ N ∧ N ≤ 9223372036854775807) (p b : Nat) (h q : Int) (w : World) (d : Die w p b h q) :
    Calls Try.prog 34 #[.pointer (some ⟨p, 0, none⟩), .int .i64 N] w fun e W' => ∃ v, e = listErr v (shuffle h N q).2.1 ∧ Listed w W' v ((shuffle h N q).1.getD []) ∧ Die W' p b h (shuffle h N q).2.2 ∧ But w.heap.size p w W' := by
  have lt0 := d.lt
  by_cases hb : N < 0 ∨ N > 4096
  · rw [show shuffle h N q = (none, 1, q) from by unfold shuffle; rw [if_pos hb]]
    by_cases k1 : N < 0
    · go_enter Try.func34, Try.ntmps34
      go_wp2_with fail
      go_ret2
      exact ⟨_, rfl, listed_nil _ _, d, But.refl _ _ _⟩
    · have k2 : N > 4096 := by omega
      clear hb
      go_enter Try.func34, Try.ntmps34
      go_wp2_with fail
      go_ret2
      exact ⟨_, rfl, listed_nil _ _, d, But.refl _ _ _⟩
  · obtain ⟨n, rfl⟩ : ∃ n : Nat, N = n := ⟨N.toNat, by omega⟩
    have hn : n ≤ 4096 := by omega
    have hSH : shuffle h (n : Int) q = (match shuf h (n - 1) q (upto n) with | (some l, q') => (some l, 0, q') | (none, q') => (none, 4, q')) := by
      unfold shuffle; rw [if_neg hb]; rfl
    have HSH := Lib.hid hSH
    clear hb hSH
    have g1 : ¬ ((n : Int) < 0) := by omega
    have g2 : ¬ ((n : Int) > 4096) := by omega
    obtain ⟨i0, hi, hz0, hz1, hz2⟩ := info_parts infoI
    go_enter Try.func34, Try.ntmps34
    go_wp2_with (at_make; refine wpList_make_full _ rfl _ _ 37 rfl w.heap.size 3 i0 (.int .i64 0) 1 Try.underlying37 hi hz0 hz1 .i64 .i64 _ _ n rfl rfl rfl rfl (by rw [hz2]; omega) (by unfold maxLen; omega) (Nat.le_refl _) ?_; intro w2 hown hgrow; have B2 := (Below.refl w.heap.size w).grown hgrow (Nat.le_refl _) (fun k hk => by cases hk); clear hgrow)
    go_loopw [7, 21] (fun _ ix wr => ∃ (k m : Nat), n = k + m ∧ ix = .int .i64 k ∧ wr.ownsRow w.heap.size 3 1 (.slice (some ⟨w.heap.size, 0, none⟩) n n) n ((upto k).map iv ++ List.replicate m (.int .i64 0)) ∧ Below w.heap.size w wr) (fun _ ix _ => n - (intOf ix).toNat)
    case atStart =>
      refine ⟨0, n, by omega, rfl, own_cast hown rfl ?_, B2⟩
      show (madeCells #[Value.int .i64 0] (n * 1)).toList = _
      rw [Nat.mul_one, toList_madeCells_one]; simp [upto]
    case round =>
      clear B2 hown
      obtain ⟨k, m, hkm, rfl, hok, hBk⟩ := hrel
      have hsk := hBk.size
      cases m with
      | succ m =>
        have hkn : k < n := by omega
        have HKM := Lib.hid hkm
        clear hkm
        have hfz := hok.frozenAt k
        have hcl : wr.cell? ⟨w.heap.size, k, none⟩ = some (.int .i64 0) := by
          rw [hok.cellAt k (by omega), List.replicate_succ]
          exact mid_get' _ _ _ _ (by simp [upto])
        have ho4 := (hok.stored k (iv k)).1
        rw [List.replicate_succ, mid_set' _ _ _ _ _ (by simp [upto])] at ho4
        have hB4 := hBk.setCell (p := ⟨w.heap.size, k, none⟩) (Nat.le_refl _) (.int .i64 k)
        go_wp2_with fail
        go_roundw
        case rel =>
          refine ⟨k + 1, m, by rw [HKM.out]; omega, by go_num, own_cast ho4 rfl ?_, hB4⟩
          rw [upto_succ, List.map_append]
          simp
        case measure => simp [intOf]; omega
      | zero =>
        obtain rfl : n = k := by omega
        clear hkm
        simp only [List.replicate_zero, List.append_nil] at hok
        have d1 := d.below hBk lt0
        clear d
        go_wp2_with fail
        go_loopw [8] (fun ix V => ∃ (I : Int) (q' : Int) (l : List Int), ix = .int .i64 I ∧ -1 ≤ I ∧ I < n ∧ l.length = n ∧ V.ownsRow w.heap.size 3 1 (.slice (some ⟨w.heap.size, 0, none⟩) n n) n (l.map iv) ∧ Die V p b h q' ∧ But w.heap.size p w V ∧ shuf h I.toNat q' l = shuf h (n - 1) q (upto n)) (fun ix _ => (intOf ix).toNat)
        case atStart => exact ⟨(n : Int) - 1, q, upto n, rfl, by omega, by omega, upto_length n, hok, d1, But.of_below hBk (by omega), by congr 1; omega⟩
        case round =>
          clear hok hBk d1 hsk
          obtain ⟨I, q', l, rfl, hI1, hIn, hll, hok, dk, hbk, hsh⟩ := hrel
          have HLL := Lib.hid hll
          have HSS := Lib.hid hsh
          clear hll hsh
          have hsz := hbk.size
          by_cases hpos : 0 < I
          · obtain ⟨k, rfl⟩ : ∃ k : Nat, I = (k : Int) + 1 := ⟨(I - 1).toNat, by omega⟩
            have hkn : k + 1 < n := by omega
            have HSS := Lib.hid (show shuf h (k + 1) q' l = shuf h (n - 1) q (upto n) from HSS.out)
            have hr3 := roll_any ((k : Int) + 1 + 1) (by omega) p b h q' _ dk
            have hlt2 := dk.lt
            have HE := Lib.hid (show ((k : Int) + 1 + 1) = ((k + 2 : Nat) : Int) from by omega)
            rcases roll_is h ((k : Int) + 1 + 1) q' (by omega) with ⟨k0, k1, k2⟩ | ⟨k0, k1⟩
            · rw [k0] at hr3
              obtain ⟨⟨x, e, q2⟩, hR⟩ : ∃ R, R = roll h ((k : Int) + 1 + 1) q' := ⟨_, rfl⟩
              rw [← hR] at k0 k1 k2 hr3
              simp only at k0 k1 k2 hr3
              subst k0
              have HY := Lib.hid (shuf_yes (l := l) (show roll h (k + 2 : Nat) q' = (x, 0, q2) from by rw [← HE.out]; exact hR.symm))
              clear hR
              obtain ⟨j, rfl⟩ : ∃ j : Nat, x = j := ⟨x.toNat, by omega⟩
              go_wp2_with fail
              refine hr3.mono ?_
              rintro e W1 ⟨rfl, d1, hB1⟩
              unfold numErr
              clear hr3
              have ho1 := own_but hok hB1 lt0
              have hs1 := hB1.size
              have hb1 := hbk.trans (hB1.mono hsz)
              clear hok hB1 hbk dk
              have hjn : j < n := by omega
              obtain ⟨x1, hx1⟩ : ∃ x1, x1 = l.getD (k + 1) 0 := ⟨_, rfl⟩
              obtain ⟨x2, hx2⟩ : ∃ x2, x2 = l.getD j 0 := ⟨_, rfl⟩
              have c1 : W1.cell? ⟨w.heap.size, k + 1, none⟩ = some (.int .i64 x1) := by
                rw [ho1.cellAt (k + 1) (by omega), List.getElem?_map, List.getElem?_eq_getElem (by rw [HLL.out]; exact hkn), hx1, Hb.getD_at _ _ (by rw [HLL.out]; exact hkn)]; rfl
              have c2 : W1.cell? ⟨w.heap.size, j, none⟩ = some (.int .i64 x2) := by
                rw [ho1.cellAt j (by omega), List.getElem?_map, List.getElem?_eq_getElem (by rw [HLL.out]; exact hjn), hx2, Hb.getD_at _ _ (by rw [HLL.out]; exact hjn)]; rfl
              have f1 := ho1.frozenAt (k + 1)
              have f2 := ho1.frozenAt j
              have ho2 := ((ho1.stored (k + 1) (iv x2)).1.stored j (iv x1)).1
              have hsw : swap l (k + 1) ((j : Int)).toNat = (l.set (k + 1) x2).set j x1 := by rw [hx1, hx2, Int.toNat_natCast]; rfl
              have HSW := Lib.hid hsw
              clear hx1 hx2 hsw
              have bj0 : (0 : Int) ≤ (j : Int) := by omega
              have bj1 : (j : Int) < (n : Int) := by omega
              have bk0 : (0 : Int) ≤ (k : Int) + 1 := by omega
              have bk1 : (k : Int) + 1 < (n : Int) := by omega
              have tk : ((k : Int) + 1).toNat = k + 1 := by omega
              by_cases hjk : j = k + 1
              · subst hjk
                have hxx : x2 = x1 := by
                  rw [c1] at c2
                  injection c2 with c2
                  injection c2 with _ c2
                  exact c2.symm
                subst hxx
                have f3 : (W1.setCell ⟨w.heap.size, k + 1, none⟩ (.int .i64 x2)).frozen? ⟨w.heap.size, k + 1, none⟩ = false := by rw [World.frozen?_setCell]; exact f1
                have c3 : (W1.setCell ⟨w.heap.size, k + 1, none⟩ (.int .i64 x2)).cell? ⟨w.heap.size, k + 1, none⟩ = some (.int .i64 x2) := World.cell?_setCell_same' _ _ _ (by rw [c1]; rfl)
                simp only [show (((k + 1 : Nat)) : Int) = (k : Int) + 1 from by omega] at bj0 bj1 ⊢
                clear c2 f2
                go_wp2_with fail
                go_region
                obtain ⟨V, hV⟩ : ∃ V, V = ((W1.setCell ⟨w.heap.size, k + 1, none⟩ (.int .i64 x2)).setCell ⟨w.heap.size, k + 1, none⟩ (.int .i64 x2)).drew := ⟨_, rfl⟩
                have ho3 : V.ownsRow w.heap.size 3 1 (.slice (some ⟨w.heap.size, 0, none⟩) n n) n (((l.map iv).set (k + 1) (iv x2)).set (k + 1) (iv x2)) := by rw [hV]; exact ho2
                have B5 : Below w.heap.size W1 V := by rw [hV]; exact (((Below.refl w.heap.size W1).setCell (p := ⟨w.heap.size, k + 1, none⟩) (Nat.le_refl _) _).setCell (p := ⟨w.heap.size, k + 1, none⟩) (Nat.le_refl _) _).drew
                rw [← hV]
                clear hV ho2 c1 c3 f1 f3
                go_wp2_with fail
                go_roundw
                case rel =>
                  refine ⟨k, q2, swap l (k + 1) (((k + 1 : Nat) : Int)).toNat, by go_num, by omega, by omega, by rw [swap_length]; exact HLL.out, own_cast ho3 rfl (by rw [HSW.out]; simp), d1.below B5 lt0, hb1.later B5 (Nat.le_refl _) (by omega), ?_⟩
                  rw [← HSS.out, HY.out]
                  rfl
                case measure => simp [intOf]
              · have hne1 : (⟨w.heap.size, k + 1, none⟩ : Addr) ≠ ⟨w.heap.size, j, none⟩ := by intro e; simp only [Addr.mk.injEq] at e; omega
                have hne2 : (⟨w.heap.size, j, none⟩ : Addr) ≠ ⟨w.heap.size, k + 1, none⟩ := by intro e; simp only [Addr.mk.injEq] at e; omega
                have f3 : (W1.setCell ⟨w.heap.size, k + 1, none⟩ (.int .i64 x2)).frozen? ⟨w.heap.size, j, none⟩ = false := by rw [World.frozen?_setCell]; exact f2
                have f4 : (W1.setCell ⟨w.heap.size, j, none⟩ (.int .i64 x1)).frozen? ⟨w.heap.size, k + 1, none⟩ = false := by rw [World.frozen?_setCell]; exact f1
                have c3 : (W1.setCell ⟨w.heap.size, k + 1, none⟩ (.int .i64 x2)).cell? ⟨w.heap.size, j, none⟩ = some (.int .i64 x2) := by rw [World.cell?_setCell_other _ _ _ _ hne1]; exact c2
                have c4 : (W1.setCell ⟨w.heap.size, j, none⟩ (.int .i64 x1)).cell? ⟨w.heap.size, k + 1, none⟩ = some (.int .i64 x1) := by rw [World.cell?_setCell_other _ _ _ _ hne2]; exact c1
                go_wp2_with fail
                go_region
                obtain ⟨V, hV⟩ : ∃ V, V = ((W1.setCell ⟨w.heap.size, k + 1, none⟩ (.int .i64 x2)).setCell ⟨w.heap.size, j, none⟩ (.int .i64 x1)).drew := ⟨_, rfl⟩
                have ho3 : V.ownsRow w.heap.size 3 1 (.slice (some ⟨w.heap.size, 0, none⟩) n n) n (((l.map iv).set (k + 1) (iv x2)).set j (iv x1)) := by rw [hV]; exact ho2
                have B5 : Below w.heap.size W1 V := by rw [hV]; exact (((Below.refl w.heap.size W1).setCell (p := ⟨w.heap.size, k + 1, none⟩) (Nat.le_refl _) _).setCell (p := ⟨w.heap.size, j, none⟩) (Nat.le_refl _) _).drew
                rw [← hV]
                clear hV ho2 c1 c2 c3 c4 f1 f2 f3 f4 hne1 hne2
                go_wp2_with fail
                go_roundw
                case rel =>
                  refine ⟨k, q2, swap l (k + 1) ((j : Int)).toNat, by go_num, by omega, by omega, by rw [swap_length]; exact HLL.out, own_cast ho3 rfl (by rw [HSW.out]; simp), d1.below B5 lt0, hb1.later B5 (Nat.le_refl _) (by omega), ?_⟩
                  rw [← HSS.out, HY.out]
                  rfl
                case measure => simp [intOf]
            · rw [k0, k1] at hr3
              obtain ⟨⟨x, e, q2⟩, hR⟩ : ∃ R, R = roll h ((k : Int) + 1 + 1) q' := ⟨_, rfl⟩
              rw [← hR] at k0 k1 hr3
              simp only at k0 k1 hr3
              subst k0 k1
              have HY := Lib.hid (shuf_nope (l := l) (show roll h (k + 2 : Nat) q' = (0, 4, q2) from by rw [← HE.out]; exact hR.symm))
              clear hR
              go_wp2_with fail
              refine hr3.mono ?_
              rintro e W1 ⟨rfl, d1, hB1⟩
              unfold numErr
              clear hr3
              have hb1 := hbk.trans (hB1.mono hsz)
              go_wp2_with fail
              go_ret2
              rw [HSH.out, ← HSS.out, HY.out]
              exact ⟨_, rfl, listed_nil _ _, d1, hb1⟩
          · go_wp2_with fail
            go_ret2
            have e0 : I.toNat = 0 := by omega
            rw [HSH.out, ← HSS.out, e0]
            refine ⟨_, rfl, ?_, dk, hbk⟩
            have R1 := Rd.of_own hok
            simp only [shuf, Option.getD_some]
            refine ⟨some ⟨w.heap.size, 0, none⟩, n, by rw [HLL.out]; rfl, by rw [HLL.out]; exact R1, fun a ha => by cases ha; exact Nat.le_refl _⟩

set_option maxRecDepth 100000 in
set_option maxHeartbeats 2000000 in
theorem rshuffle_any (N : Int) (hN : -9223372036854775808 ≤ N ∧ N ≤ 9223372036854775807) (p : Nat) (A' : Option Addr) (m' c' : Nat) (hm : m' ≤ 140737488351232) (s : ByteArray) (hs : s.size ≤ 140737488351232) (bs : List UInt8) (h : Int) (hh : h = hashI s.data.toList bs) (q : Int) (w : World) (d : RDie w p A' m' c' s bs q) :
    Calls Try.prog 35 #[.pointer (some ⟨p, 0, none⟩), .int .i64 N] w fun e W' => ∃ v, e = listErr v (shuffle h N q).2.1 ∧ Listed w W' v ((shuffle h N q).1.getD []) ∧ RDie W' p A' m' c' s bs (shuffle h N q).2.2 ∧ But w.heap.size p w W' := by
  have lt0 := d.lt
  have HH := Lib.hid hh
  clear hh
  by_cases hb : N < 0 ∨ N > 4096
  · rw [show shuffle h N q = (none, 1, q) from by unfold shuffle; rw [if_pos hb]]
    by_cases k1 : N < 0
    · go_enter Try.func35, Try.ntmps35
      go_wp2_with fail
      go_ret2
      exact ⟨_, rfl, listed_nil _ _, d, But.refl _ _ _⟩
    · have k2 : N > 4096 := by omega
      clear hb
      go_enter Try.func35, Try.ntmps35
      go_wp2_with fail
      go_ret2
      exact ⟨_, rfl, listed_nil _ _, d, But.refl _ _ _⟩
  · obtain ⟨n, rfl⟩ : ∃ n : Nat, N = n := ⟨N.toNat, by omega⟩
    have hn : n ≤ 4096 := by omega
    have hSH : shuffle h (n : Int) q = (match shuf h (n - 1) q (upto n) with | (some l, q') => (some l, 0, q') | (none, q') => (none, 4, q')) := by
      unfold shuffle; rw [if_neg hb]; rfl
    have HSH := Lib.hid hSH
    clear hb hSH
    have g1 : ¬ ((n : Int) < 0) := by omega
    have g2 : ¬ ((n : Int) > 4096) := by omega
    obtain ⟨i0, hi, hz0, hz1, hz2⟩ := info_parts infoI
    go_enter Try.func35, Try.ntmps35
    go_wp2_with fail
    go_loopw [6, 7] (fun v ix wr => ∃ k : Nat, k ≤ n ∧ ix = .int .i64 k ∧ wr.ownsRow w.heap.size 3 1 v k ((upto k).map iv) ∧ Below w.heap.size w wr) (fun _ ix _ => n - (intOf ix).toNat)
    case atStart => exact ⟨0, by omega, rfl, World.ownsRow_nil _ _ _ _, Below.refl _ _⟩
    case round =>
      obtain ⟨k, hkn, rfl, hok, hBk⟩ := hrel
      have hsk := hBk.size
      by_cases hlt : k < n
      · obtain ⟨A, c, rfl⟩ := own_form hok
        go_wp2_with (at_builtin; refine wpList_append_own _ rfl _ _ 37 rfl w.heap.size 3 i0 (.int .i64 0) 1 8 Try.underlying37 hi hz0 hz1 hz2 rfl (by decide) (.slice A k c) k _ rfl (hok.alloc _) ⟨wr.heap.size, 0, none⟩ 1 1 [iv (k : Int)] rfl rfl (cell_one_new _ _ _) (by simp [iv_one]) (by unfold maxLen; omega) (by omega) (by simp; omega) ?_; intro v' w1 hown' hgrow _)
        go_roundw
        case rel => exact ⟨k + 1, by omega, by go_num, own_cast hown' rfl (by rw [upto_succ]; simp), own_grown (hBk.alloc hsk _) (hok.alloc _) hgrow (by simp; omega)⟩
        case measure => simp [intOf]; omega
      · obtain rfl : n = k := by omega
        have d1 := d.below hBk lt0
        clear d hlt
        go_wp2_with fail
        by_cases hn0 : n = 0
        · subst hn0
          simp only [show ((0 : Nat) : Int) = 0 from rfl]
          go_wp2_with fail
          go_loopw [8] (fun ix V => ix = .int .i64 (-1) ∧ V = wr) (fun _ _ => 0)
          case atStart => exact ⟨rfl, rfl⟩
          case round =>
            obtain ⟨rfl, rfl⟩ := hrel
            go_wp2_with fail
            go_ret2
            obtain ⟨A, c, rfl⟩ := own_form hok
            rw [HSH.out]
            refine ⟨_, rfl, ?_, d1, But.of_below hBk (by omega)⟩
            simp only [shuf, Option.getD_some, Nat.zero_sub]
            refine ⟨A, c, rfl, Rd.nil _ _ _, fun a ha => ?_⟩
            subst ha
            rcases hok.2 with ⟨hv, _⟩ | ⟨g, cap, cur, hv, hg, _⟩
            · injection hv with h1
              cases h1
            · injection hv with h1
              cases h1
              exact hg
        · obtain ⟨A, cap, rfl⟩ := own_form hok
          obtain ⟨g, rfl⟩ : ∃ g, A = some ⟨g, 0, none⟩ := by
            rcases hok.2 with ⟨_, h0⟩ | ⟨g, cap', cur, hv, hg, _⟩
            · omega
            · injection hv with h1 h2 h3
              exact ⟨g, h1⟩
          have hgb := (hok.lt g rfl).1
          have hgl := (hok.lt g rfl).2
          have hcapn := own_le hok
          clear hkn
          go_loopw [8] (fun ix V => ∃ (I : Int) (q' : Int) (l : List Int), ix = .int .i64 I ∧ -1 ≤ I ∧ I < n ∧ l.length = n ∧ V.ownsRow w.heap.size 3 1 (.slice (some ⟨g, 0, none⟩) n cap) n (l.map iv) ∧ RDie V p A' m' c' s bs q' ∧ But w.heap.size p w V ∧ shuf h I.toNat q' l = shuf h (n - 1) q (upto n)) (fun ix _ => (intOf ix).toNat)
          case atStart => exact ⟨(n : Int) - 1, q, upto n, by go_num, by omega, by omega, upto_length n, hok, d1, But.of_below hBk (by omega), by congr 1; omega⟩
          case round =>
            clear hok hBk d1 hsk hgl
            obtain ⟨I, q', l, rfl, hI1, hIn, hll, hok, dk, hbk, hsh⟩ := hrel
            have HLL := Lib.hid hll
            have HSS := Lib.hid hsh
            clear hll hsh
            have hsz := hbk.size
            by_cases hpos : 0 < I
            · obtain ⟨k, rfl⟩ : ∃ k : Nat, I = (k : Int) + 1 := ⟨(I - 1).toNat, by omega⟩
              have hkn : k + 1 < n := by omega
              have HSS := Lib.hid (show shuf h (k + 1) q' l = shuf h (n - 1) q (upto n) from HSS.out)
              have hr3 := rroll_any ((k : Int) + 1 + 1) (by omega) p A' m' c' hm s hs bs h HH.out q' _ dk
              have hlt2 := dk.lt
              have HE := Lib.hid (show ((k : Int) + 1 + 1) = ((k + 2 : Nat) : Int) from by omega)
              rcases roll_is h ((k : Int) + 1 + 1) q' (by omega) with ⟨k0, k1, k2⟩ | ⟨k0, k1⟩
              · rw [k0] at hr3
                obtain ⟨⟨x, e, q2⟩, hR⟩ : ∃ R, R = roll h ((k : Int) + 1 + 1) q' := ⟨_, rfl⟩
                rw [← hR] at k0 k1 k2 hr3
                simp only at k0 k1 k2 hr3
                subst k0
                have HY := Lib.hid (shuf_yes (l := l) (show roll h (k + 2 : Nat) q' = (x, 0, q2) from by rw [← HE.out]; exact hR.symm))
                clear hR
                obtain ⟨j, rfl⟩ : ∃ j : Nat, x = j := ⟨x.toNat, by omega⟩
                go_wp2_with fail
                refine hr3.mono ?_
                rintro e W1 ⟨rfl, d1, hB1⟩
                unfold numErr
                clear hr3
                have ho1 := own_but hok hB1 lt0
                have hs1 := hB1.size
                have hb1 := hbk.trans (hB1.mono hsz)
                clear hok hB1 hbk dk
                have hjn : j < n := by omega
                obtain ⟨x1, hx1⟩ : ∃ x1, x1 = l.getD (k + 1) 0 := ⟨_, rfl⟩
                obtain ⟨x2, hx2⟩ : ∃ x2, x2 = l.getD j 0 := ⟨_, rfl⟩
                have c1 : W1.cell? ⟨g, k + 1, none⟩ = some (.int .i64 x1) := by
                  rw [ho1.cellAt (k + 1) (by omega), List.getElem?_map, List.getElem?_eq_getElem (by rw [HLL.out]; exact hkn), hx1, Hb.getD_at _ _ (by rw [HLL.out]; exact hkn)]; rfl
                have c2 : W1.cell? ⟨g, j, none⟩ = some (.int .i64 x2) := by
                  rw [ho1.cellAt j (by omega), List.getElem?_map, List.getElem?_eq_getElem (by rw [HLL.out]; exact hjn), hx2, Hb.getD_at _ _ (by rw [HLL.out]; exact hjn)]; rfl
                have f1 := ho1.frozenAt (k + 1)
                have f2 := ho1.frozenAt j
                have ho2 := ((ho1.stored (k + 1) (iv x2)).1.stored j (iv x1)).1
                have hsw : swap l (k + 1) ((j : Int)).toNat = (l.set (k + 1) x2).set j x1 := by rw [hx1, hx2, Int.toNat_natCast]; rfl
                have HSW := Lib.hid hsw
                clear hx1 hx2 hsw
                have bj0 : (0 : Int) ≤ (j : Int) := by omega
                have bj1 : (j : Int) < (n : Int) := by omega
                have bk0 : (0 : Int) ≤ (k : Int) + 1 := by omega
                have bk1 : (k : Int) + 1 < (n : Int) := by omega
                have tk : ((k : Int) + 1).toNat = k + 1 := by omega
                have f3 : (W1.setCell ⟨g, k + 1, none⟩ (.int .i64 x2)).frozen? ⟨g, j, none⟩ = false := by rw [World.frozen?_setCell]; exact f2
                have c3 : ∃ u, (W1.setCell ⟨g, k + 1, none⟩ (.int .i64 x2)).cell? ⟨g, j, none⟩ = some u := by
                  by_cases hjk : j = k + 1
                  · subst hjk
                    exact ⟨_, World.cell?_setCell_same' _ _ _ (by rw [c1]; rfl)⟩
                  · have hne1 : (⟨g, k + 1, none⟩ : Addr) ≠ ⟨g, j, none⟩ := by intro e; simp only [Addr.mk.injEq] at e; omega
                    exact ⟨_, by rw [World.cell?_setCell_other _ _ _ _ hne1]; exact c2⟩
                obtain ⟨u3, c3⟩ := c3
                obtain ⟨V, hV⟩ : ∃ V, V = ((W1.setCell ⟨g, k + 1, none⟩ (.int .i64 x2)).setCell ⟨g, j, none⟩ (.int .i64 x1)) := ⟨_, rfl⟩
                have ho3 : V.ownsRow w.heap.size 3 1 (.slice (some ⟨g, 0, none⟩) n cap) n (((l.map iv).set (k + 1) (iv x2)).set j (iv x1)) := by rw [hV]; exact ho2
                have B5 : Below w.heap.size W1 V := by rw [hV]; exact (((Below.refl w.heap.size W1).setCell (p := ⟨g, k + 1, none⟩) hgb _).setCell (p := ⟨g, j, none⟩) hgb _)
                clear ho2 ho1
                go_wp2_with fail
                rw [← hV]
                clear hV c1 c2 c3 f1 f2 f3
                go_roundw
                case rel =>
                  refine ⟨k, q2, swap l (k + 1) ((j : Int)).toNat, by go_num, by omega, by omega, by rw [swap_length]; exact HLL.out, own_cast ho3 rfl (by rw [HSW.out]; simp), d1.below B5 lt0, hb1.later B5 (Nat.le_refl _) (by omega), ?_⟩
                  rw [← HSS.out, HY.out]
                  rfl
                case measure => simp [intOf]
              · rw [k0, k1] at hr3
                obtain ⟨⟨x, e, q2⟩, hR⟩ : ∃ R, R = roll h ((k : Int) + 1 + 1) q' := ⟨_, rfl⟩
                rw [← hR] at k0 k1 hr3
                simp only at k0 k1 hr3
                subst k0 k1
                have HY := Lib.hid (shuf_nope (l := l) (show roll h (k + 2 : Nat) q' = (0, 4, q2) from by rw [← HE.out]; exact hR.symm))
                clear hR
                go_wp2_with fail
                refine hr3.mono ?_
                rintro e W1 ⟨rfl, d1, hB1⟩
                unfold numErr
                clear hr3
                have hb1 := hbk.trans (hB1.mono hsz)
                go_wp2_with fail
                go_ret2
                rw [HSH.out, ← HSS.out, HY.out]
                exact ⟨_, rfl, listed_nil _ _, d1, hb1⟩
            · go_wp2_with fail
              go_ret2
              have e0 : I.toNat = 0 := by omega
              rw [HSH.out, ← HSS.out, e0]
              refine ⟨_, rfl, ?_, dk, hbk⟩
              have R1 := Rd.of_own hok
              simp only [shuf, Option.getD_some]
              refine ⟨some ⟨g, 0, none⟩, cap, by rw [HLL.out]; rfl, by rw [HLL.out]; exact R1, fun a ha => by cases ha; exact hgb⟩
end Go.Proofs.Ytagjecbgbpjobaa
