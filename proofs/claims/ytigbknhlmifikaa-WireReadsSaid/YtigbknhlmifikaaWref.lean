/- What the encoders of the reference model answer: the same bytes. -/
import Derived.Test.YtigbknhlmifikaaWenc
namespace Go.Proofs.Ytigbknhlmifikaa
open Go.RowKit Hb Wm

/-- bytes of the call's own -/
def O8 (W : World) (B : Nat) (A : Option Addr) (c : Nat) (xs : List UInt8) : Prop := W.ownsRow B 5 1 (.slice A xs.length c) xs.length (xs.map bv)
theorem O8.mk {W : World} {B n : Nat} {v : Value} {l : List Value} {xs : List UInt8} (h : W.ownsRow B 5 1 v n l) (hl : l = xs.map bv) (hn : n = xs.length) : ∃ A c, v = .slice A xs.length c ∧ O8 W B A c xs := by
  subst hn hl
  obtain ⟨A, c, rfl⟩ := own_form h
  exact ⟨A, c, rfl, h⟩
theorem O8.rd {W : World} {B c : Nat} {A : Option Addr} {xs : List UInt8} (h : O8 W B A c xs) : Rd W W.heap.size A xs.length (xs.map bv) := Rd.of_own h
theorem O8.nil (W : World) (B : Nat) : O8 W B none 0 [] := World.ownsRow_nil _ _ _ _
theorem O8.below {W W' : World} {B C c : Nat} {A : Option Addr} {xs : List UInt8} (h : O8 W B A c xs) (hB : Below C W W') (hC : W.heap.size ≤ C) : O8 W' B A c xs := own_below h hB hC
theorem O8.base {W : World} {B B' c : Nat} {A : Option Addr} {xs : List UInt8} (h : O8 W B A c xs) (hB : B' ≤ B) : O8 W B' A c xs := own_base h hB

set_option maxRecDepth 100000 in
set_option maxHeartbeats 1000000 in
theorem ru_uint (n : Nat) (N : Int) (hN : N = (n : Int)) (hn : n < 18446744073709551616) (w : World) :
    Calls Try.prog 40 #[.int .u64 N] w fun e W => ∃ A c, e = .returned (.slice A (vu n).length c) ∧ O8 W w.heap.size A c (vu n) ∧ Below w.heap.size w W := by
  subst hN
  obtain ⟨i0, hi, hz0, hz1, hz2⟩ := info_parts infoU8
  have h10 := vu_len10 hn
  go_enter Try.func40, Try.ntmps40
  go_wp2_with fail
  go_loopw [0, 3] (fun nv v wr => ∃ (m : Nat) (pre : List UInt8), nv = .int .u64 m ∧ m ≤ n ∧ vu n = pre ++ vu m ∧ wr.ownsRow w.heap.size 5 1 v pre.length (pre.map bv) ∧ Below w.heap.size w wr) (fun nv _ _ => (intOf nv).toNat)
  case atStart => exact ⟨n, [], rfl, Nat.le_refl _, rfl, World.ownsRow_nil _ _ _ _, Below.refl _ _⟩
  case round =>
    obtain ⟨m, pre, rfl, hm, hvu, hown, hB⟩ := hrel
    have hpre : pre.length ≤ 10 := by rw [hvu, List.length_append] at h10; omega
    have HV := Lib.hid hvu
    clear hvu
    obtain ⟨A, c, rfl⟩ := own_form hown
    have hs := hB.size
    by_cases hge : 128 ≤ m
    · go_wp2_with (at_builtin; refine wpList_append_own _ rfl _ _ 24 rfl w.heap.size 5 i0 (.int .u8 0) 1 1 Try.underlying24 hi hz0 hz1 hz2 rfl (by decide) (.slice A pre.length c) pre.length _ rfl (hown.alloc _) ⟨wr.heap.size, 0, none⟩ 1 1 [Value.int .u8 (128 + (m : Int) % 128)] rfl rfl (cell_one_new _ _ _) (by simp [Value.oneCell']) (by unfold maxLen; omega) (by omega) (by simp; omega) ?_; intro v' w1 hown' hgrow _)
      go_roundw
      case rel => exact ⟨m / 128, pre ++ [UInt8.ofNat (m % 128 + 128)], by go_num, by omega, by rw [HV.out, vu_big hge]; simp, own_cast hown' (by simp) (by rw [List.map_append]; simp [bv]; omega), own_grown (hB.alloc hs _) (hown.alloc _) hgrow (by simp; omega)⟩
      case measure => simp [intOf]; omega
    · go_wp2_with (at_builtin; refine wpList_append_own _ rfl _ _ 24 rfl w.heap.size 5 i0 (.int .u8 0) 1 1 Try.underlying24 hi hz0 hz1 hz2 rfl (by decide) (.slice A pre.length c) pre.length _ rfl (hown.alloc _) ⟨wr.heap.size, 0, none⟩ 1 1 [Value.int .u8 (m : Int)] rfl rfl (cell_one_new _ _ _) (by simp [Value.oneCell']) (by unfold maxLen; omega) (by omega) (by simp; omega) ?_; intro v' w1 hown' hgrow _)
      go_ret
      obtain ⟨A', c', rfl, ho⟩ := O8.mk (xs := vu n) hown' (by rw [HV.out, vu_small (by omega), List.map_append]; simp [bv]; omega) (by rw [HV.out, vu_small (by omega)]; simp)
      exact ⟨A', c', rfl, ho, own_grown (hB.alloc hs _) (hown.alloc _) hgrow (by simp; omega)⟩

theorem rzz_any (n : Int) (h1 : -9223372036854775808 ≤ n) (h2 : n ≤ 9223372036854775807) (w : World) :
    Calls Try.prog 59 #[.int .i64 n] w fun e W => e = .returned (.int .u64 (zz n : Nat)) ∧ w = W := by
  by_cases h : n < 0
  · go_enter Try.func59, Try.ntmps59
    go_wp2
    go_ret
    refine ⟨ret_int ?_, rfl⟩
    unfold zz
    rw [if_pos h]
    omega
  · go_enter Try.func59, Try.ntmps59
    go_wp2
    go_ret
    refine ⟨ret_int ?_, rfl⟩
    unfold zz
    rw [if_neg (by omega)]
    omega
theorem rback_any (z : Nat) (hz : z < 18446744073709551616) (w : World) :
    Calls Try.prog 61 #[.int .u64 (z : Int)] w fun e W => e = .returned (.int .i64 (unzz z)) ∧ w = W := by
  by_cases h : z % 2 = 1
  · have hd : ((z : Int) % 2 == 1) = true := by simp; omega
    go_enter Try.func61, Try.ntmps61
    go_wp2
    go_ret
    refine ⟨ret_int ?_, rfl⟩
    unfold unzz
    rw [if_pos h]
    omega
  · have hd : ((z : Int) % 2 == 1) = false := by simp; omega
    go_enter Try.func61, Try.ntmps61
    go_wp2
    go_ret
    refine ⟨ret_int ?_, rfl⟩
    unfold unzz
    rw [if_neg h]
    omega
theorem rint_any (n : Int) (h1 : -9223372036854775808 ≤ n) (h2 : n ≤ 9223372036854775807) (w : World) :
    Calls Try.prog 41 #[.int .i64 n] w fun e W => ∃ A c, e = .returned (.slice A (vu (zz n)).length c) ∧ O8 W w.heap.size A c (vu (zz n)) ∧ Below w.heap.size w W := by
  have hz := zz_lt h1 h2
  go_enter Try.func41, Try.ntmps41
  go_wp2_with fail
  refine (rzz_any n h1 h2 w).mono ?_
  rintro e W ⟨rfl, rfl⟩
  go_wp2_with fail
  refine (ru_uint (zz n) _ rfl hz w).mono ?_
  rintro e W ⟨A, c, rfl, ho, hB⟩
  go_wp2_with fail
  go_ret
  exact ⟨A, c, rfl, ho, hB⟩
theorem rbool_any (x : Bool) (w : World) :
    Calls Try.prog 42 #[.bool x] w fun e W => ∃ A c, e = .returned (.slice A 1 c) ∧ O8 W w.heap.size A c [if x then 1 else 0] ∧ Below w.heap.size w W := by
  cases x
  · go_enter Try.func42, Try.ntmps42
    go_wp2
    go_ret
    exact ⟨_, _, rfl, World.ownsRow_lit w _ _ (Nat.le_refl _) (by decide) rfl, (Below.refl _ _).alloc (Nat.le_refl _) _⟩
  · go_enter Try.func42, Try.ntmps42
    go_wp2
    go_ret
    exact ⟨_, _, rfl, World.ownsRow_lit w _ _ (Nat.le_refl _) (by decide) rfl, (Below.refl _ _).alloc (Nat.le_refl _) _⟩

set_option maxRecDepth 100000 in
set_option maxHeartbeats 1000000 in
theorem rraw_any (A : Option Addr) (m c : Nat) (bs : List UInt8) (hm : m ≤ 1000000) (w : World) (hr : Rd w w.heap.size A m (bs.map bv)) :
    Calls Try.prog 43 #[.slice A m c] w fun e W => ∃ A' c', e = .returned (.slice A' (vu m ++ bs).length c') ∧ O8 W w.heap.size A' c' (vu m ++ bs) ∧ Below w.heap.size w W := by
  obtain ⟨i0, hi, hz0, hz1, hz2⟩ := info_parts infoU8
  have hml : bs.length = m := by simpa using hr.1
  have HM := Lib.hid hml
  have h10 := vu_len10 (n := m) (by omega)
  clear hml
  go_enter Try.func43, Try.ntmps43
  go_wp2_with fail
  refine (ru_uint m _ rfl (by omega) w).mono ?_
  rintro e W ⟨A1, c1, rfl, ho, hB⟩
  have hs := hB.size
  have ho' : W.ownsRow w.heap.size 5 1 (.slice A1 (vu m).length c1) (vu m).length ((vu m).map bv) := ho
  go_wp2_with (at_builtin; refine wpList_append_rd _ rfl _ _ 24 rfl w.heap.size 5 i0 (.int .u8 0) 1 Try.underlying24 hi hz0 hz1 hz2 rfl (.slice A1 (vu m).length c1) (vu m).length _ rfl ho' w.heap.size A m c _ rfl (hr.below hB) (map_one _ bv_one _) (by unfold maxLen; omega) (by omega) hs ?_; intro A2 c2 w2 hown2 hgrow _)
  go_ret
  obtain ⟨A', c', hv, ho2⟩ := O8.mk (xs := vu m ++ bs) hown2 (by rw [List.map_append]) (by rw [List.length_append, HM.out])
  rw [hv]
  exact ⟨A', c', rfl, ho2, own_grown hB ho' hgrow hs⟩

theorem encI_snoc (l : List Int) (k : Nat) (h : k < l.length) : encI (l.take (k + 1)) = encI (l.take k) ++ vu (zz l[k]) := by
  rw [List.take_succ_eq_append_getElem h]; simp only [encI, List.flatMap_append, List.flatMap_cons, List.flatMap_nil, List.append_nil]
set_option maxRecDepth 100000 in
set_option maxHeartbeats 1000000 in
theorem rints_any (A : Option Addr) (m c : Nat) (ls : List Int) (hm : m ≤ 10000) (hls : ∀ y ∈ ls, -9223372036854775808 ≤ y ∧ y ≤ 9223372036854775807) (w : World) (hr : Rd w w.heap.size A m (ls.map iv)) :
    Calls Try.prog 44 #[.slice A m c] w fun e W => ∃ A' c', e = .returned (.slice A' (vu m ++ encI ls).length c') ∧ O8 W w.heap.size A' c' (vu m ++ encI ls) ∧ Below w.heap.size w W := by
  obtain ⟨i0, hi, hz0, hz1, hz2⟩ := info_parts infoU8
  have hml : ls.length = m := by simpa using hr.1
  have HM := Lib.hid hml
  have HLS := Lib.hid hls
  have h10 := vu_len10 (n := m) (by omega)
  clear hml hls
  go_enter Try.func44, Try.ntmps44
  go_wp2_with fail
  refine (ru_uint m _ rfl (by omega) w).mono ?_
  rintro e W ⟨A1, c1, rfl, ho, hB⟩
  go_wp2_with fail
  go_loopw [3, 4] (fun v ix wr => ∃ (k : Nat) (A : Option Addr) (c : Nat), k ≤ m ∧ ix = .int .i64 k ∧ v = .slice A (vu m ++ encI (ls.take k)).length c ∧ O8 wr w.heap.size A c (vu m ++ encI (ls.take k)) ∧ Below w.heap.size w wr) (fun _ ix _ => m - (intOf ix).toNat)
  case atStart => exact ⟨0, A1, c1, Nat.zero_le _, rfl, by simp [encI], by simpa [encI] using ho, hB⟩
  case round =>
    obtain ⟨k, A3, c3, hk, rfl, rfl, ho3, hB3⟩ := hrel
    have hs3 := hB3.size
    by_cases hlt : k < m
    · obtain ⟨a, u, rfl, hab, hu, hc⟩ := (hr.below hB3).at hlt
      have hkl : k < ls.length := by rw [HM.out]; exact hlt
      have hu' : u = iv ls[k] := by
        rw [List.getElem?_map, List.getElem?_eq_getElem hkl] at hu
        exact (Option.some.inj hu).symm
      subst hu'
      unfold iv at hc
      have hbd := HLS.out ls[k] (List.getElem_mem hkl)
      have h1 := encI_len (ls.take k) fun y hy => HLS.out y (List.mem_of_mem_take hy)
      have h2 : (ls.take k).length ≤ k := List.length_take_le _ _
      have hv := vu_len10 (zz_lt hbd.1 hbd.2)
      have HE := Lib.hid (encI_snoc ls k hkl)
      obtain ⟨xs, hxs⟩ : ∃ xs, xs = vu m ++ encI (ls.take k) := ⟨_, rfl⟩
      have hxl : xs.length ≤ 200000 := by rw [hxs, List.length_append]; omega
      rw [← hxs] at ho3
      rw [← hxs]
      have HXS := Lib.hid hxs
      clear hu h1 h2 hxs
      go_wp2_with fail
      refine (rint_any ls[k] hbd.1 hbd.2 wr).mono ?_
      rintro e W1 ⟨A4, c4, rfl, ho4, hB4⟩
      have ho5 : W1.ownsRow w.heap.size 5 1 (.slice A3 xs.length c3) xs.length (xs.map bv) := ho3.below hB4 (Nat.le_refl _)
      have hB5 := hB3.trans (hB4.mono hs3)
      have hr4 := ho4.rd
      go_wp2_with (at_builtin; refine wpList_append_rd _ rfl _ _ 24 rfl w.heap.size 5 i0 (.int .u8 0) 1 Try.underlying24 hi hz0 hz1 hz2 rfl (.slice A3 xs.length c3) xs.length _ rfl ho5 W1.heap.size A4 (vu (zz ls[k])).length c4 _ rfl hr4 (map_one _ bv_one _) (by unfold maxLen; omega) (by omega) hB5.size ?_; intro A2 c2 w2 hown2 hgrow _)
      go_roundw
      case rel =>
        obtain ⟨A', c', hv, ho2⟩ := O8.mk (xs := vu m ++ encI (ls.take (k + 1))) hown2 (by rw [HE.out, ← List.append_assoc, ← HXS.out, List.map_append]) (by rw [HE.out, ← List.append_assoc, ← HXS.out, List.length_append])
        exact ⟨k + 1, A', c', by omega, by go_num, hv, ho2, own_grown hB5 ho5 hgrow hB5.size⟩
      case measure => simp [intOf]; omega
    · obtain rfl : k = m := by omega
      have e : ls.take k = ls := List.take_of_length_le (by rw [HM.out]; exact Nat.le_refl _)
      rw [e] at ho3 ⊢
      clear e
      go_wp2_with fail
      go_ret
      exact ⟨A3, c3, rfl, ho3, hB3⟩
end Go.Proofs.Ytigbknhlmifikaa
