/- What Encode of the reference model answers: the same bytes. -/
import Derived.Test.YtigbknhlmifikaaWref
namespace Go.Proofs.Ytigbknhlmifikaa
open Go.RowKit Hb Wm

def bb (x : Bool) : List UInt8 := [if x then 1 else 0]
theorem rbool_bb (x : Bool) (w : World) :
    Calls Try.prog 42 #[.bool x] w fun e W => ∃ A c, e = .returned (.slice A (bb x).length c) ∧ O8 W w.heap.size A c (bb x) ∧ Below w.heap.size w W := rbool_any x w

set_option maxRecDepth 100000 in
set_option maxHeartbeats 4000000 in
theorem rencode_any (A : Option Addr) (n c : Nat) (vs : List VV) (hok : ∀ v ∈ vs, v.ok) (hn : n ≤ 40) (w : World) (h : Vs w w.heap.size A n vs) :
    Calls Try.prog 17 #[.slice A n c] w fun e W => ∃ A' c', e = .returned (.slice A' (encs vs).length c') ∧ O8 W w.heap.size A' c' (encs vs) ∧ Below w.heap.size w W := by
  obtain ⟨i0, hi, hz0, hz1, hz2⟩ := info_parts infoU8
  have hvl : vs.length = n := by obtain ⟨_, _, h2, _⟩ := h; exact h2
  have HV := Lib.hid hvl
  have HO := Lib.hid hok
  clear hvl hok
  go_enter Try.func17, Try.ntmps17
  go_wp2_with fail
  go_loopw [3, 4] (fun v ix wr => ∃ (k : Nat) (A : Option Addr) (c : Nat), k ≤ n ∧ ix = .int .i64 k ∧ v = .slice A (encs (vs.take k)).length c ∧ O8 wr w.heap.size A c (encs (vs.take k)) ∧ Below w.heap.size w wr) (fun _ ix _ => n - (intOf ix).toNat)
  case atStart => exact ⟨0, none, 0, Nat.zero_le _, rfl, rfl, O8.nil _ _, Below.refl _ _⟩
  case round =>
    obtain ⟨i, A3, c3, hin0, rfl, rfl, ho3, hB3⟩ := hrel
    have hs3 := hB3.size
    by_cases hin : i < n
    · obtain ⟨g, r, v, rfl, hab, hvi, hrv, c0, c1, c2, c3', c4⟩ := (h.below hB3 (Nat.le_refl _)).at hin
      have hil : i < vs.length := by rw [HV.out]; exact hin
      have hvo : v.ok := HO.out v (List.mem_of_getElem? hvi)
      have hev := enc_len v hvo
      have het := encs_len (vs.take i) fun x hx => HO.out x (List.mem_of_mem_take hx)
      have hlt2 : (vs.take i).length ≤ i := List.length_take_le _ _
      have hsn : encs (vs.take (i + 1)) = encs (vs.take i) ++ enc v := by
        have e : vs[i] = v := by rw [List.getElem?_eq_getElem hil] at hvi; exact Option.some.inj hvi
        rw [List.take_succ_eq_append_getElem hil, encs_snoc, e]
      have HS := Lib.hid hsn
      clear hsn hvi
      obtain ⟨xs, hxs⟩ : ∃ xs, xs = encs (vs.take i) := ⟨_, rfl⟩
      have hxl : xs.length ≤ 400400 := by rw [hxs]; omega
      rw [← hxs] at ho3
      rw [← hxs]
      have HXS := Lib.hid hxs
      clear het hlt2 hxs
      obtain ⟨hk, hu, hn', hb, hl, h1, h2, h3, h4⟩ := hrv
      obtain ⟨g1, g2, g3, g4, g5, g6⟩ := hvo
      obtain ⟨rk, ru', rn, rA, rm, rc, rA', rm', rc'⟩ := r
      obtain ⟨k, u, nn, bs, ls⟩ := v
      simp only at *
      subst hk hu hn'
      have hbl : bs.length = rm := by simpa using hb.1
      have hll : ls.length = rm' := by simpa using hl.1
      have HBL := Lib.hid hbl
      have HLL := Lib.hid hll
      have HG6 := Lib.hid g6
      have hm1 : rm ≤ 1000 := by omega
      have hm2 : rm' ≤ 1000 := by omega
      clear g6 hbl hll
      by_cases k0 : k = 0
      · obtain rfl : k = 0 := by omega
        have HE := Lib.hid (show enc ⟨0, u, rn, bs, ls⟩ = vu u from by simp [enc])
        obtain ⟨E, hE⟩ : ∃ E, E = vu u := ⟨_, rfl⟩
        have hel : E.length ≤ 10010 := by rw [hE, ← HE.out]; exact hev
        have hcall := (ru_uint u _ rfl g2 wr)
        rw [← hE] at hcall
        have HEE := Lib.hid hE
        clear hE
        go_wp2_with fail
        refine hcall.mono ?_
        rintro e W1 ⟨A4, c4, rfl, ho4, hB4⟩
        have ho5 : W1.ownsRow w.heap.size 5 1 (.slice A3 xs.length c3) xs.length (xs.map bv) := ho3.below hB4 (Nat.le_refl _)
        have hB5 := hB3.trans (hB4.mono hs3)
        have hr4 := ho4.rd
        go_wp2_with (at_builtin; refine wpList_append_rd _ rfl _ _ 24 rfl w.heap.size 5 i0 (.int .u8 0) 1 Try.underlying24 hi hz0 hz1 hz2 rfl (.slice A3 xs.length c3) xs.length _ rfl ho5 W1.heap.size A4 _ c4 _ rfl hr4 (map_one _ bv_one _) (by unfold maxLen; omega) (by omega) hB5.size ?_; intro A2 c2 w2 hown2 hgrow _)
        go_roundw
        case rel =>
          obtain ⟨A', c', hv, ho2⟩ := O8.mk (xs := encs (vs.take (i + 1))) hown2 (by rw [HS.out, ← HXS.out, HE.out, ← HEE.out, List.map_append]) (by rw [HS.out, ← HXS.out, HE.out, ← HEE.out, List.length_append])
          exact ⟨i + 1, A', c', by omega, by go_num, hv, ho2, own_grown hB5 ho5 hgrow hB5.size⟩
        case measure => simp [intOf]; omega
      by_cases k1 : k = 1
      · obtain rfl : k = 1 := by omega
        have HE := Lib.hid (show enc ⟨1, u, rn, bs, ls⟩ = vu (zz rn) from by simp [enc])
        obtain ⟨E, hE⟩ : ∃ E, E = vu (zz rn) := ⟨_, rfl⟩
        have hel : E.length ≤ 10010 := by rw [hE, ← HE.out]; exact hev
        have hcall := (rint_any rn g3.1 g3.2 wr)
        rw [← hE] at hcall
        have HEE := Lib.hid hE
        clear hE
        go_wp2_with fail
        refine hcall.mono ?_
        rintro e W1 ⟨A4, c4, rfl, ho4, hB4⟩
        have ho5 : W1.ownsRow w.heap.size 5 1 (.slice A3 xs.length c3) xs.length (xs.map bv) := ho3.below hB4 (Nat.le_refl _)
        have hB5 := hB3.trans (hB4.mono hs3)
        have hr4 := ho4.rd
        go_wp2_with (at_builtin; refine wpList_append_rd _ rfl _ _ 24 rfl w.heap.size 5 i0 (.int .u8 0) 1 Try.underlying24 hi hz0 hz1 hz2 rfl (.slice A3 xs.length c3) xs.length _ rfl ho5 W1.heap.size A4 _ c4 _ rfl hr4 (map_one _ bv_one _) (by unfold maxLen; omega) (by omega) hB5.size ?_; intro A2 c2 w2 hown2 hgrow _)
        go_roundw
        case rel =>
          obtain ⟨A', c', hv, ho2⟩ := O8.mk (xs := encs (vs.take (i + 1))) hown2 (by rw [HS.out, ← HXS.out, HE.out, ← HEE.out, List.map_append]) (by rw [HS.out, ← HXS.out, HE.out, ← HEE.out, List.length_append])
          exact ⟨i + 1, A', c', by omega, by go_num, hv, ho2, own_grown hB5 ho5 hgrow hB5.size⟩
        case measure => simp [intOf]; omega
      by_cases k2 : k = 2
      · obtain rfl : k = 2 := by omega
        have HE := Lib.hid (show enc ⟨2, u, rn, bs, ls⟩ = bb (rn == 1) from by simp [enc, bb])
        obtain ⟨E, hE⟩ : ∃ E, E = bb (rn == 1) := ⟨_, rfl⟩
        have hel : E.length ≤ 10010 := by rw [hE, ← HE.out]; exact hev
        have hcall := (rbool_bb (rn == 1) wr)
        rw [← hE] at hcall
        have HEE := Lib.hid hE
        clear hE
        go_wp2_with fail
        refine hcall.mono ?_
        rintro e W1 ⟨A4, c4, rfl, ho4, hB4⟩
        have ho5 : W1.ownsRow w.heap.size 5 1 (.slice A3 xs.length c3) xs.length (xs.map bv) := ho3.below hB4 (Nat.le_refl _)
        have hB5 := hB3.trans (hB4.mono hs3)
        have hr4 := ho4.rd
        go_wp2_with (at_builtin; refine wpList_append_rd _ rfl _ _ 24 rfl w.heap.size 5 i0 (.int .u8 0) 1 Try.underlying24 hi hz0 hz1 hz2 rfl (.slice A3 xs.length c3) xs.length _ rfl ho5 W1.heap.size A4 _ c4 _ rfl hr4 (map_one _ bv_one _) (by unfold maxLen; omega) (by omega) hB5.size ?_; intro A2 c2 w2 hown2 hgrow _)
        go_roundw
        case rel =>
          obtain ⟨A', c', hv, ho2⟩ := O8.mk (xs := encs (vs.take (i + 1))) hown2 (by rw [HS.out, ← HXS.out, HE.out, ← HEE.out, List.map_append]) (by rw [HS.out, ← HXS.out, HE.out, ← HEE.out, List.length_append])
          exact ⟨i + 1, A', c', by omega, by go_num, hv, ho2, own_grown hB5 ho5 hgrow hB5.size⟩
        case measure => simp [intOf]; omega
      by_cases k3 : k = 3
      · obtain rfl : k = 3 := by omega
        have HE := Lib.hid (show enc ⟨3, u, rn, bs, ls⟩ = vu rm ++ bs from by simp [enc, HBL.out])
        obtain ⟨E, hE⟩ : ∃ E, E = vu rm ++ bs := ⟨_, rfl⟩
        have hel : E.length ≤ 10010 := by rw [hE, ← HE.out]; exact hev
        have hcall := (rraw_any rA rm rc bs (by omega) wr (hb.mono hs3))
        rw [← hE] at hcall
        have HEE := Lib.hid hE
        clear hE
        go_wp2_with fail
        refine hcall.mono ?_
        rintro e W1 ⟨A4, c4, rfl, ho4, hB4⟩
        have ho5 : W1.ownsRow w.heap.size 5 1 (.slice A3 xs.length c3) xs.length (xs.map bv) := ho3.below hB4 (Nat.le_refl _)
        have hB5 := hB3.trans (hB4.mono hs3)
        have hr4 := ho4.rd
        go_wp2_with (at_builtin; refine wpList_append_rd _ rfl _ _ 24 rfl w.heap.size 5 i0 (.int .u8 0) 1 Try.underlying24 hi hz0 hz1 hz2 rfl (.slice A3 xs.length c3) xs.length _ rfl ho5 W1.heap.size A4 _ c4 _ rfl hr4 (map_one _ bv_one _) (by unfold maxLen; omega) (by omega) hB5.size ?_; intro A2 c2 w2 hown2 hgrow _)
        go_roundw
        case rel =>
          obtain ⟨A', c', hv, ho2⟩ := O8.mk (xs := encs (vs.take (i + 1))) hown2 (by rw [HS.out, ← HXS.out, HE.out, ← HEE.out, List.map_append]) (by rw [HS.out, ← HXS.out, HE.out, ← HEE.out, List.length_append])
          exact ⟨i + 1, A', c', by omega, by go_num, hv, ho2, own_grown hB5 ho5 hgrow hB5.size⟩
        case measure => simp [intOf]; omega
      by_cases k4 : k = 4
      · obtain rfl : k = 4 := by omega
        have HE := Lib.hid (show enc ⟨4, u, rn, bs, ls⟩ = vu rm ++ bs from by simp [enc, HBL.out])
        obtain ⟨E, hE⟩ : ∃ E, E = vu rm ++ bs := ⟨_, rfl⟩
        have hel : E.length ≤ 10010 := by rw [hE, ← HE.out]; exact hev
        have hcall := (rraw_any rA rm rc bs (by omega) wr (hb.mono hs3))
        rw [← hE] at hcall
        have HEE := Lib.hid hE
        clear hE
        go_wp2_with fail
        refine hcall.mono ?_
        rintro e W1 ⟨A4, c4, rfl, ho4, hB4⟩
        have ho5 : W1.ownsRow w.heap.size 5 1 (.slice A3 xs.length c3) xs.length (xs.map bv) := ho3.below hB4 (Nat.le_refl _)
        have hB5 := hB3.trans (hB4.mono hs3)
        have hr4 := ho4.rd
        go_wp2_with (at_builtin; refine wpList_append_rd _ rfl _ _ 24 rfl w.heap.size 5 i0 (.int .u8 0) 1 Try.underlying24 hi hz0 hz1 hz2 rfl (.slice A3 xs.length c3) xs.length _ rfl ho5 W1.heap.size A4 _ c4 _ rfl hr4 (map_one _ bv_one _) (by unfold maxLen; omega) (by omega) hB5.size ?_; intro A2 c2 w2 hown2 hgrow _)
        go_roundw
        case rel =>
          obtain ⟨A', c', hv, ho2⟩ := O8.mk (xs := encs (vs.take (i + 1))) hown2 (by rw [HS.out, ← HXS.out, HE.out, ← HEE.out, List.map_append]) (by rw [HS.out, ← HXS.out, HE.out, ← HEE.out, List.length_append])
          exact ⟨i + 1, A', c', by omega, by go_num, hv, ho2, own_grown hB5 ho5 hgrow hB5.size⟩
        case measure => simp [intOf]; omega
      · obtain rfl : k = 5 := by omega
        have HE := Lib.hid (show enc ⟨5, u, rn, bs, ls⟩ = vu rm' ++ encI ls from by simp [enc, HLL.out])
        obtain ⟨E, hE⟩ : ∃ E, E = vu rm' ++ encI ls := ⟨_, rfl⟩
        have hel : E.length ≤ 10010 := by rw [hE, ← HE.out]; exact hev
        have hcall := (rints_any rA' rm' rc' ls (by omega) HG6.out wr (hl.mono hs3))
        rw [← hE] at hcall
        have HEE := Lib.hid hE
        clear hE
        go_wp2_with fail
        refine hcall.mono ?_
        rintro e W1 ⟨A4, c4, rfl, ho4, hB4⟩
        have ho5 : W1.ownsRow w.heap.size 5 1 (.slice A3 xs.length c3) xs.length (xs.map bv) := ho3.below hB4 (Nat.le_refl _)
        have hB5 := hB3.trans (hB4.mono hs3)
        have hr4 := ho4.rd
        go_wp2_with (at_builtin; refine wpList_append_rd _ rfl _ _ 24 rfl w.heap.size 5 i0 (.int .u8 0) 1 Try.underlying24 hi hz0 hz1 hz2 rfl (.slice A3 xs.length c3) xs.length _ rfl ho5 W1.heap.size A4 _ c4 _ rfl hr4 (map_one _ bv_one _) (by unfold maxLen; omega) (by omega) hB5.size ?_; intro A2 c2 w2 hown2 hgrow _)
        go_roundw
        case rel =>
          obtain ⟨A', c', hv, ho2⟩ := O8.mk (xs := encs (vs.take (i + 1))) hown2 (by rw [HS.out, ← HXS.out, HE.out, ← HEE.out, List.map_append]) (by rw [HS.out, ← HXS.out, HE.out, ← HEE.out, List.length_append])
          exact ⟨i + 1, A', c', by omega, by go_num, hv, ho2, own_grown hB5 ho5 hgrow hB5.size⟩
        case measure => simp [intOf]; omega
    · obtain rfl : i = n := by omega
      have e : vs.take i = vs := List.take_of_length_le (by rw [HV.out]; exact Nat.le_refl _)
      rw [e] at ho3 ⊢
      clear e
      go_wp2_with fail
      go_ret
      exact ⟨A3, c3, rfl, ho3, hB3⟩
end Go.Proofs.Ytigbknhlmifikaa
