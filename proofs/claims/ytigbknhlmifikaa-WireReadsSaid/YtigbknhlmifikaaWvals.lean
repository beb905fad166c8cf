/- The values that the reference model builds from numbers: some list of at most eight values, each in its own form. -/
import Derived.Test.YtigbknhlmifikaaWvdef
import Derived.Deep.RegionHeld3
import Derived.Deep.RegionLaw
import Derived.Deep.AppendLies
import Derived.Deep.CutRange
import Derived.Deep.CutBlock
namespace Go.Proofs.Ytigbknhlmifikaa
open Go.RowKit Hb Wm

set_option maxRecDepth 100000 in
set_option maxHeartbeats 4000000 in
theorem vals_any (A : Option Addr) (m c : Nat) (ls : List Int) (hm : m ≤ maxLen) (hls : ∀ y ∈ ls, -9223372036854775808 ≤ y ∧ y ≤ 9223372036854775807) (w : World) (hr : Rd w w.heap.size A m (ls.map iv)) :
    Calls Try.prog 11 #[.slice A m c] w fun e W => ∃ (x : Value) (n : Nat) (vs : List VV), e = .returned x ∧ n ≤ 8 ∧ (∀ v ∈ vs, v.canon ∧ v.b.length ≤ 9 ∧ v.l.length ≤ 4) ∧ OwnVs W w.heap.size x n vs ∧ Below w.heap.size w W := by
  have hml : ls.length = m := by simpa using hr.1
  obtain ⟨i0, hi, hz0, hz1, hz2⟩ := info_parts infoU8
  obtain ⟨i1, hj, hy0, hy1, hy2⟩ := info_parts infoI
  obtain ⟨iV, hiV, hzV0, hzV1, hzV2⟩ := info_parts infoV
  have HM := Lib.hid hml
  have HLS := Lib.hid hls
  unfold maxLen at hm
  clear hml hls
  go_enter Try.func11, Try.ntmps11
  go_wp2_with fail
  go_loopw [3, 4] (fun x ix wr => ∃ (i : Nat) (vs : List VV), i ≤ m ∧ i ≤ 8 ∧ ix = .int .i64 i ∧ (∀ v ∈ vs, v.canon ∧ v.b.length ≤ 9 ∧ v.l.length ≤ 4) ∧ OwnVs wr w.heap.size x i vs ∧ Below w.heap.size w wr) (fun _ ix _ => m - (intOf ix).toNat)
  case atStart => exact ⟨0, [], Nat.zero_le _, Nat.zero_le _, rfl, by simp, ⟨[], World.ownsRow_nil _ _ _ _, rfl, rfl, by simp⟩, Below.refl _ _⟩
  case round =>
    obtain ⟨i, vs, him, hi8, rfl, hvs, hO, hB⟩ := hrel
    obtain ⟨wo, rfl⟩ : ∃ wo : World, wo = wr := ⟨_, rfl⟩
    have HVS := Lib.hid hvs
    have hs := hB.size
    clear hvs
    by_cases hin : i < m ∧ i < 8
    · obtain ⟨hin1, hin2⟩ := hin
      obtain ⟨a, y, rfl, hab, hy, hc⟩ := (hr.below hB).at hin1
      have hil : i < ls.length := by rw [HM.out]; exact hin1
      obtain ⟨z, hz⟩ : ∃ z, z = ls[i] := ⟨_, rfl⟩
      have hy' : y = iv z := by
        rw [List.getElem?_map, List.getElem?_eq_getElem hil] at hy
        rw [hz]
        exact (Option.some.inj hy).symm
      subst hy'
      unfold iv at hc
      have hbd : -9223372036854775808 ≤ z ∧ z ≤ 9223372036854775807 := by rw [hz]; exact HLS.out ls[i] (List.getElem_mem hil)
      obtain ⟨hz1', hz2'⟩ := hbd
      clear hy hz
      go_wp2_with fail
      refine (around_b z 6 _ rfl ⟨hz1', hz2'⟩ (by omega) _).mono ?_
      rintro e W ⟨⟨k, rfl, hk⟩, rfl⟩
      go_wp2_with fail
      refine (around_b _ 63 _ rfl (tdiv6 hz1' hz2') (by omega) _).mono ?_
      rintro e W ⟨⟨n, rfl, hn⟩, rfl⟩
      go_upto_block 2 with (fail)
      go_cut [8, 9] from 10 to 104 (fun _ _ wx => VRel wo wx)
      case first =>
        have hca : ∀ o, (wo.alloc o).cell? (a.add i) = some (.int .i64 z) := fun o => by
          rw [((Below.refl wo.heap.size wo).alloc (Nat.le_refl _) o).cell (by rw [add_block]; omega)]; exact hc
        by_cases k0 : k = 0
        · subst k0
          go_wp2_with fail
          go_meet
          case rel => exact vk0 wo _ (shr_u z n).1 (shr_u z n).2
        by_cases k1 : k = 1
        · subst k1
          go_wp2_with fail
          go_meet
          case rel => exact vk1 wo _ (shr_i z n hz1' hz2').1 (shr_i z n hz1' hz2').2
        by_cases k2 : k = 2
        · subst k2
          go_wp2_with fail
          go_meet
          case rel => exact vk2 wo _ (by omega)
        by_cases k3 : k = 3
        · subst k3
          simp only [show ((3 : Nat) : Int) = 3 from rfl]
          have hb0 := Box5.new wo (.int .i64 3) (.int .u64 0) (.int .i64 0) (.slice none 0 0) (.slice none 0 0)
          have hB0 := (Below.refl wo.heap.size wo).alloc (Nat.le_refl _) (.cells #[.int .i64 3, .int .u64 0, .int .i64 0, .slice none 0 0, .slice none 0 0] 28)
          go_wp2_with fail
          go_loopw [8] (fun jv wr => ∃ (j : Nat) (bs : List UInt8) (A : Option Addr) (c : Nat), jv = .int .i64 j ∧ j ≤ n % 10 ∧ bs.length = j ∧ Box5 wr wo.heap.size (.int .i64 3) (.int .u64 0) (.int .i64 0) (.slice A j c) (.slice none 0 0) ∧ wr.ownsRow wo.heap.size 5 1 (.slice A j c) j (bs.map bv) ∧ Below wo.heap.size wo wr) (fun jv _ => 10 - (intOf jv).toNat)
          case atStart => exact ⟨0, [], none, 0, rfl, Nat.zero_le _, rfl, hb0, World.ownsRow_nil _ _ _ _, hB0⟩
          case round =>
            obtain ⟨j, bs, A, c, rfl, hjle, hbs, hbx, hox, hBx⟩ := hrel
            have HBS := Lib.hid hbs
            clear hbs
            by_cases hjn : j < n % 10
            · have hjn' : (j : Int) < (n : Int) % 10 := by omega
              have e3 := hbx.cell3
              have f3 := hbx.fz 3
              have ea : (wr.cell? (a.add i)) = some (.int .i64 z) := by rw [hBx.cell (by rw [add_block]; omega)]; exact hc
              have i0' : (0 : Int) ≤ (i : Int) := Int.natCast_nonneg _
              have i1' : (i : Int) < (m : Int) := by omega
              have lp := hbx.lt
              have la : (a.add i).block < wr.heap.size := by have := hBx.size; rw [add_block]; omega
              have ag : (Value.slice A j c).ownBlock ≠ some wo.heap.size := (Box5.not_row hbx (by decide) hox).symm
              have ak : (Value.slice A j c).ownBlock ≠ some (a.add i).block := by
                rw [add_block]
                intro e
                have := (hox.lt _ e).1
                omega
              go_wp2_with fail
              go_region_law
                ((refine step_append_lies _ (by rfl) _ _ 24 (by rfl) wo.heap.size 5 i0 (.int .u8 0) 1 1 Try.underlying24 hi hz0 hz1 hz2 rfl (by decide) (.slice A j c) j _ (by rfl) ((hox.alloc _).drew) ⟨wr.heap.size, 0, none⟩ 1 1 [Value.int .u8 (IntKind.u8.wrap (z / 2 ^ min (IntKind.u64.wrap (j : Int)).toNat 64))] (by rfl) rfl (World.news_of_block (World.alloc_heap_new wr _)) (by simp [Value.oneCell']) (by decide) (by unfold maxLen; omega) (by omega) (by simp; omega) (wr.heap.size + 1) (by simp) ?_; intro gg cap w2 hown1 hgrow hat hlt; have hb2 := (hbx.ad _).kept hgrow ag.symm; have f2 := hb2.fz 3; have e32 := hb2.cell3))
              all_goals
                obtain ⟨q, hq⟩ := u8_byte (z / 2 ^ min (IntKind.u64.wrap (j : Int)).toNat 64)
                have hown2 := own_cast (ys := (bs ++ [q]).map bv) hown1 rfl (by rw [hq, List.map_append]; rfl)
                have HQ := Lib.hid hq
                have hB2 : Below wo.heap.size wo w2 := own_grown (((hBx.alloc hBx.size _)).drew) ((hox.alloc _).drew) hgrow (by have := hBx.size; simp; omega)
                clear hq hown1
                go_wp2_with fail
                go_roundw
                case rel => exact ⟨j + 1, bs ++ [q], _, _, by go_num, by omega, by rw [List.length_append, HBS.out]; rfl, hb2.set3 _, hown2.kept (grown_set _ _ _ _) (.inr ((hb2.not_row (by decide) hown2).symm)), hB2.setCell (p := ⟨wo.heap.size, 3, none⟩) (Nat.le_refl _) _⟩
                case measure => simp [intOf]; omega
            · have hjn' : ¬ ((j : Int) < (n : Int) % 10) := by omega
              go_wp2_with fail
              go_meet
              case rel => exact vk34 wo wr 3 (.inl rfl) bs A j c HBS.out (by omega) hbx hox hBx
        by_cases k4 : k = 4
        · subst k4
          simp only [show ((4 : Nat) : Int) = 4 from rfl]
          have hb0 := Box5.new wo (.int .i64 4) (.int .u64 0) (.int .i64 0) (.slice none 0 0) (.slice none 0 0)
          have hB0 := (Below.refl wo.heap.size wo).alloc (Nat.le_refl _) (.cells #[.int .i64 4, .int .u64 0, .int .i64 0, .slice none 0 0, .slice none 0 0] 28)
          go_wp2_with fail
          go_loopw [8] (fun jv wr => ∃ (j : Nat) (bs : List UInt8) (A : Option Addr) (c : Nat), jv = .int .i64 j ∧ j ≤ n % 10 ∧ bs.length = j ∧ Box5 wr wo.heap.size (.int .i64 4) (.int .u64 0) (.int .i64 0) (.slice A j c) (.slice none 0 0) ∧ wr.ownsRow wo.heap.size 5 1 (.slice A j c) j (bs.map bv) ∧ Below wo.heap.size wo wr) (fun jv _ => 10 - (intOf jv).toNat)
          case atStart => exact ⟨0, [], none, 0, rfl, Nat.zero_le _, rfl, hb0, World.ownsRow_nil _ _ _ _, hB0⟩
          case round =>
            obtain ⟨j, bs, A, c, rfl, hjle, hbs, hbx, hox, hBx⟩ := hrel
            have HBS := Lib.hid hbs
            clear hbs
            by_cases hjn : j < n % 10
            · have hjn' : (j : Int) < (n : Int) % 10 := by omega
              have e3 := hbx.cell3
              have f3 := hbx.fz 3
              have ea : (wr.cell? (a.add i)) = some (.int .i64 z) := by rw [hBx.cell (by rw [add_block]; omega)]; exact hc
              have i0' : (0 : Int) ≤ (i : Int) := Int.natCast_nonneg _
              have i1' : (i : Int) < (m : Int) := by omega
              have lp := hbx.lt
              have la : (a.add i).block < wr.heap.size := by have := hBx.size; rw [add_block]; omega
              have ag : (Value.slice A j c).ownBlock ≠ some wo.heap.size := (Box5.not_row hbx (by decide) hox).symm
              have ak : (Value.slice A j c).ownBlock ≠ some (a.add i).block := by
                rw [add_block]
                intro e
                have := (hox.lt _ e).1
                omega
              go_wp2_with fail
              go_region_law
                ((refine step_append_lies _ (by rfl) _ _ 24 (by rfl) wo.heap.size 5 i0 (.int .u8 0) 1 1 Try.underlying24 hi hz0 hz1 hz2 rfl (by decide) (.slice A j c) j _ (by rfl) ((hox.alloc _).drew) ⟨wr.heap.size, 0, none⟩ 1 1 [Value.int .u8 (IntKind.u8.wrap (z / 2 ^ min (IntKind.u64.wrap (j : Int)).toNat 64))] (by rfl) rfl (World.news_of_block (World.alloc_heap_new wr _)) (by simp [Value.oneCell']) (by decide) (by unfold maxLen; omega) (by omega) (by simp; omega) (wr.heap.size + 1) (by simp) ?_; intro gg cap w2 hown1 hgrow hat hlt; have hb2 := (hbx.ad _).kept hgrow ag.symm; have f2 := hb2.fz 3; have e32 := hb2.cell3))
              all_goals
                obtain ⟨q, hq⟩ := u8_byte (z / 2 ^ min (IntKind.u64.wrap (j : Int)).toNat 64)
                have hown2 := own_cast (ys := (bs ++ [q]).map bv) hown1 rfl (by rw [hq, List.map_append]; rfl)
                have HQ := Lib.hid hq
                have hB2 : Below wo.heap.size wo w2 := own_grown (((hBx.alloc hBx.size _)).drew) ((hox.alloc _).drew) hgrow (by have := hBx.size; simp; omega)
                clear hq hown1
                go_wp2_with fail
                go_roundw
                case rel => exact ⟨j + 1, bs ++ [q], _, _, by go_num, by omega, by rw [List.length_append, HBS.out]; rfl, hb2.set3 _, hown2.kept (grown_set _ _ _ _) (.inr ((hb2.not_row (by decide) hown2).symm)), hB2.setCell (p := ⟨wo.heap.size, 3, none⟩) (Nat.le_refl _) _⟩
                case measure => simp [intOf]; omega
            · have hjn' : ¬ ((j : Int) < (n : Int) % 10) := by omega
              go_wp2_with fail
              go_meet
              case rel => exact vk34 wo wr 4 (.inr rfl) bs A j c HBS.out (by omega) hbx hox hBx
        · obtain rfl : k = 5 := by omega
          simp only [show ((5 : Nat) : Int) = 5 from rfl]
          have hb0 := Box5.new wo (.int .i64 5) (.int .u64 0) (.int .i64 0) (.slice none 0 0) (.slice none 0 0)
          have hB0 := (Below.refl wo.heap.size wo).alloc (Nat.le_refl _) (.cells #[.int .i64 5, .int .u64 0, .int .i64 0, .slice none 0 0, .slice none 0 0] 28)
          go_wp2_with fail
          go_loopw [9] (fun jv wr => ∃ (j : Nat) (bs : List Int) (A : Option Addr) (c : Nat), jv = .int .i64 j ∧ j ≤ n % 5 ∧ bs.length = j ∧ (∀ y ∈ bs, -9223372036854775808 ≤ y ∧ y ≤ 9223372036854775807) ∧ Box5 wr wo.heap.size (.int .i64 5) (.int .u64 0) (.int .i64 0) (.slice none 0 0) (.slice A j c) ∧ wr.ownsRow wo.heap.size 3 1 (.slice A j c) j (bs.map iv) ∧ Below wo.heap.size wo wr) (fun jv _ => 10 - (intOf jv).toNat)
          case atStart => exact ⟨0, [], none, 0, rfl, Nat.zero_le _, rfl, by simp, hb0, World.ownsRow_nil _ _ _ _, hB0⟩
          case round =>
            obtain ⟨j, bs, A, c, rfl, hjle, hbs, hll, hbx, hox, hBx⟩ := hrel
            have HBS := Lib.hid hbs
            have HLL := Lib.hid hll
            clear hbs hll
            by_cases hjn : j < n % 5
            · have hjn' : (j : Int) < (n : Int) % 5 := by omega
              have e3 := hbx.cell4
              have f3 := hbx.fz 4
              have ea : (wr.cell? (a.add i)) = some (.int .i64 z) := by rw [hBx.cell (by rw [add_block]; omega)]; exact hc
              have i0' : (0 : Int) ≤ (i : Int) := Int.natCast_nonneg _
              have i1' : (i : Int) < (m : Int) := by omega
              have lp := hbx.lt
              have la : (a.add i).block < wr.heap.size := by have := hBx.size; rw [add_block]; omega
              have ag : (Value.slice A j c).ownBlock ≠ some wo.heap.size := (Box5.not_row hbx (by decide) hox).symm
              have ak : (Value.slice A j c).ownBlock ≠ some (a.add i).block := by
                rw [add_block]
                intro e
                have := (hox.lt _ e).1
                omega
              go_wp2_with fail
              go_region_law
                ((refine step_append_lies _ (by rfl) _ _ 22 (by rfl) wo.heap.size 3 i1 (.int .i64 0) 1 8 Try.underlying22 hj hy0 hy1 hy2 rfl (by decide) (.slice A j c) j _ (by rfl) ((hox.alloc _).drew) ⟨wr.heap.size, 0, none⟩ 1 1 [Value.int .i64 (z / 2 ^ min (IntKind.u64.wrap (IntKind.i64.wrap (13 * (j : Int)))).toNat 64)] (by rfl) rfl (World.news_of_block (World.alloc_heap_new wr _)) (by simp [Value.oneCell']) (by decide) (by unfold maxLen; omega) (by omega) (by simp; omega) (wr.heap.size + 1) (by simp) ?_; intro gg cap w2 hown1 hgrow hat hlt; have hb2 := (hbx.ad _).kept hgrow ag.symm; have f2 := hb2.fz 4; have e32 := hb2.cell4))
              all_goals
                have hq := shr_i z (min (IntKind.u64.wrap (IntKind.i64.wrap (13 * (j : Int)))).toNat 64) hz1' hz2'
                obtain ⟨q, hqe⟩ : ∃ q, q = z / 2 ^ min (IntKind.u64.wrap (IntKind.i64.wrap (13 * (j : Int)))).toNat 64 := ⟨_, rfl⟩
                rw [← hqe] at hq
                have hown2 := own_cast (ys := (bs ++ [q]).map iv) hown1 rfl (by rw [hqe, List.map_append]; rfl)
                have HQ := Lib.hid hq
                have hB2 : Below wo.heap.size wo w2 := own_grown (((hBx.alloc hBx.size _)).drew) ((hox.alloc _).drew) hgrow (by have := hBx.size; simp; omega)
                clear hqe hown1
                go_wp2_with fail
                go_roundw
                case rel => exact ⟨j + 1, bs ++ [q], _, _, by go_num, by omega, by rw [List.length_append, HBS.out]; rfl, snoc_all HLL.out HQ.out, hb2.set4 _, hown2.kept (grown_set _ _ _ _) (.inr ((hb2.not_row (by decide) hown2).symm)), hB2.setCell (p := ⟨wo.heap.size, 4, none⟩) (Nat.le_refl _) _⟩
                case measure => simp [intOf]; omega
            · have hjn' : ¬ ((j : Int) < (n : Int) % 5) := by omega
              go_wp2_with fail
              go_meet
              case rel => exact vk5 wo wr bs A j c HBS.out (by omega) HLL.out hbx hox hBx
      case rest =>
        obtain ⟨r, v, hcan, hbox, hown, hBW⟩ := hcut
        obtain ⟨rs, hox, hrl, hvl, hall⟩ := hO
        obtain ⟨Ax, cx, rfl⟩ := own_form hox
        have hox2 := own_below hox hBW (Nat.le_refl _)
        have d0 := hbox.cell0
        have d1 := hbox.cell1
        have d2 := hbox.cell2
        have d3 := hbox.cell3
        have d4 := hbox.cell4
        have hsw := hBW.size
        have hB2 := hB.trans (hBW.mono hs)
        have hsn := fun x' w2 tmp hown' hgrow => OwnVs.snoc (w2 := w2) (x' := x') (tmp := tmp) hox hrl hvl hall hBW hown hs hown' hgrow
        have HSN := Lib.hid hsn
        have HVS2 := Lib.hid (show ∀ x ∈ vs ++ [v], x.canon ∧ x.b.length ≤ 9 ∧ x.l.length ≤ 4 from fun x hx => by
          rcases List.mem_append.1 hx with h | h
          · exact HVS.out x h
          · obtain rfl := List.mem_singleton.1 h; exact hcan)
        clear hall hcan hown hsn hrl hvl hox hc hz1' hz2'
        go_wp2_with (at_builtin; refine wpList_append_own _ rfl _ _ 25 rfl w.heap.size 28 iV (.agg #[.int .i64 0, .int .u64 0, .int .i64 0, .slice none 0 0, .slice none 0 0]) 5 72 Try.underlying25 hiV hzV0 hzV1 hzV2 rfl (by decide) (.slice Ax i cx) i _ rfl (hox2.alloc _) ⟨wc.heap.size, 0, none⟩ 1 1 r.cells rfl rfl (World.news_of_block (World.alloc_heap_new wc _)) (by simp [RV.cells, Value.oneCell']) (by unfold maxLen; omega) (by omega) (by simp; omega) ?_; intro x' w2 hown' hgrow _)
        go_roundw
        case rel =>
          exact ⟨i + 1, vs ++ [v], by omega, by omega, by go_num, HVS2.out, HSN.out _ _ _ hown' hgrow, own_grown5 (hB2.alloc (by omega) _) (hox2.alloc _) hgrow (by simp; omega)⟩
        case measure => simp [intOf]; omega
    · have hi2 : i ≤ 8 := hi8
      by_cases h1 : i < m
      · have h8 : ¬ i < 8 := by omega
        go_wp2_with fail
        go_ret
        exact ⟨_, i, vs, rfl, hi8, HVS.out, hO, hB⟩
      · go_wp2_with fail
        go_ret
        exact ⟨_, i, vs, rfl, hi8, HVS.out, hO, hB⟩
end Go.Proofs.Ytigbknhlmifikaa
