/- What Join answers, in the project and in the reference model. -/
import Derived.Test.YtagjecbgbpjobaaDver
import Derived.Test.YtagjecbgbpjobaaDshuf
import Derived.Test.YtagjecbgbpjobaaHrows
namespace Go.Proofs.Ytagjecbgbpjobaa
open Go.RowKit Go.Shelf Hm Hb Dm Ds

theorem infoS : (Try.prog.info? 22).map (fun i => (i.zero, i.size, i.bytes)) = some (some (.slice none 0 0), 1, 24) := by kernel_rfl

/-- the number that joined seeds lead to, and its bytes -/
def joinFrom (n : Nat) (rows : List (List UInt8)) : Int := rows.foldl (fun j r => pairM j (bytesM [112, 97, 114, 116] r)) (sumM [115, 101, 101, 100, 115] [(n : Int)])
theorem joinFrom_snoc (n : Nat) (rows : List (List UInt8)) (r : List UInt8) : joinFrom n (rows ++ [r]) = pairM (joinFrom n rows) (bytesM [112, 97, 114, 116] r) := by unfold joinFrom; rw [List.foldl_append]; rfl
theorem joinFrom_range (n : Nat) (rows : List (List UInt8)) : 0 ≤ joinFrom n rows ∧ joinFrom n rows < 18446744073709551616 := by
  unfold joinFrom
  suffices h : ∀ (rows : List (List UInt8)) (s : Int), (0 ≤ s ∧ s < 18446744073709551616) → 0 ≤ rows.foldl (fun j r => pairM j (bytesM [112, 97, 114, 116] r)) s ∧ rows.foldl (fun j r => pairM j (bytesM [112, 97, 114, 116] r)) s < 18446744073709551616 from h rows _ ⟨UI_nonneg _, UI_lt _⟩
  intro rows
  induction rows with
  | nil => intro s hs; exact hs
  | cons r rs ih => intro s hs; exact ih _ ⟨UI_nonneg _, UI_lt _⟩
def byteAt (n : Int) (k : Nat) : UInt8 := UInt8.ofNat ((n / 2 ^ (8 * k)) % 256).toNat
def bytesUpto (n : Int) (k : Nat) : List UInt8 := (List.range k).map (byteAt n)
theorem bytesUpto_length (n : Int) (k : Nat) : (bytesUpto n k).length = k := by simp [bytesUpto]
theorem bytesUpto_succ (n : Int) (k : Nat) : bytesUpto n (k + 1) = bytesUpto n k ++ [byteAt n k] := by simp [bytesUpto, List.range_succ]
theorem byteAt_val (n : Int) (k : Nat) : bv (byteAt n k) = .int .u8 (n / 2 ^ (8 * k) % 256) := by
  unfold bv byteAt
  simp only [UInt8.toNat_ofNat']
  have h1 := Int.emod_nonneg (n / 2 ^ (8 * k)) (b := 256) (by omega)
  have h2 := Int.emod_lt_of_pos (n / 2 ^ (8 * k)) (b := 256) (by omega)
  congr 1
  omega
theorem shift_next (n : Int) (k : Nat) : n / 2 ^ (8 * k) / 256 = n / 2 ^ (8 * (k + 1)) := by
  rw [Int.ediv_ediv_of_nonneg (by exact Int.pow_nonneg (by omega)), show (8 * (k + 1)) = 8 * k + 8 from by omega, Int.pow_add]
  rfl
def joinB (rows : List (List UInt8)) : List UInt8 := bytesUpto (joinFrom rows.length rows) 8

set_option maxRecDepth 100000 in
set_option maxHeartbeats 1000000 in
theorem bytesOf_any (n : Int) (hn : 0 ≤ n ∧ n < 18446744073709551616) (w : World) :
    Calls Try.prog 53 #[.int .u64 n] w fun e W' => e = .returned (.slice (some ⟨w.heap.size, 0, none⟩) 8 8) ∧ W'.ownsRow w.heap.size 5 1 (.slice (some ⟨w.heap.size, 0, none⟩) 8 8) 8 ((bytesUpto n 8).map bv) ∧ Below w.heap.size w W' := by
  obtain ⟨i0, hi, hz0, hz1, hz2⟩ := info_parts infoU8
  go_enter Try.func53, Try.ntmps53
  go_wp2_with (at_make; refine wpList_make_full _ rfl _ _ 22 rfl w.heap.size 5 i0 (.int .u8 0) 1 Try.underlying22 hi hz0 hz1 .i64 .i64 _ _ 8 rfl rfl rfl rfl (by rw [hz2]; omega) (by unfold maxLen; omega) (Nat.le_refl _) ?_; intro w2 hown hgrow; have B2 := (Below.refl w.heap.size w).grown hgrow (Nat.le_refl _) (fun k hk => by cases hk); clear hgrow)
  go_loopw [8] (fun ix wr => ∃ (k m : Nat), 8 = k + m ∧ ix = .int .i64 k ∧ wr.ownsRow w.heap.size 5 1 (.slice (some ⟨w.heap.size, 0, none⟩) 8 8) 8 ((bytesUpto n k).map bv ++ List.replicate m (.int .u8 0)) ∧ Below w.heap.size w wr) (fun ix _ => 8 - (intOf ix).toNat)
  case atStart =>
    refine ⟨0, 8, by omega, rfl, own_cast hown rfl ?_, B2⟩
    show (madeCells #[Value.int .u8 0] (8 * 1)).toList = _
    rw [toList_madeCells_one]; simp [bytesUpto]
  case round =>
    clear B2 hown
    obtain ⟨k, m, hkm, rfl, hok, hBk⟩ := hrel
    cases m with
    | succ m =>
      have hkn : k < 8 := by omega
      have HKM := Lib.hid hkm
      clear hkm
      have hfz := hok.frozenAt k
      have hcl : wr.cell? ⟨w.heap.size, k, none⟩ = some (.int .u8 0) := by
        rw [hok.cellAt k (by omega), List.replicate_succ]
        exact mid_get' _ _ _ _ (by simp [bytesUpto])
      have ho4 := (hok.stored k (bv (byteAt n k))).1
      rw [List.replicate_succ, mid_set' _ _ _ _ _ (by simp [bytesUpto])] at ho4
      have hB4 := hBk.setCell (p := ⟨w.heap.size, k, none⟩) (Nat.le_refl _) (bv (byteAt n k))
      rw [byteAt_val] at ho4 hB4
      go_wp2_with fail
      go_roundw
      case rel =>
        refine ⟨k + 1, m, by rw [HKM.out]; omega, by go_num, own_cast ho4 rfl ?_, hB4⟩
        rw [bytesUpto_succ, List.map_append, ← byteAt_val]
        simp
      case measure => simp [intOf]; omega
    | zero =>
      obtain rfl : k = 8 := by omega
      clear hkm
      simp only [List.replicate_zero, List.append_nil] at hok
      simp only [show ((8 : Nat) : Int) = 8 from rfl]
      go_wp2_with fail
      go_ret
      exact ⟨rfl, hok, hBk⟩

/-- rows of bytes, as the values of a slice's cells -/
def RowsAt (w : World) (B : Nat) (vs : List Value) (rows : List (List UInt8)) : Prop :=
  vs.length = rows.length ∧ ∀ (j : Nat) r, rows[j]? = some r → ∃ A c, vs[j]? = some (.slice A r.length c) ∧ r.length ≤ c ∧ c ≤ maxLen ∧ Rd w B A r.length (r.map bv)
theorem RowsAt.nil (w : World) (B : Nat) : RowsAt w B [] [] := ⟨rfl, fun j r h => by simp at h⟩
theorem RowsAt.later {w w' : World} {B B' : Nat} {vs : List Value} {rows : List (List UInt8)} (h : RowsAt w B vs rows) (hb : Below B w w') (hB : B ≤ B') : RowsAt w' B' vs rows :=
  ⟨h.1, fun j r hj => let ⟨A, c, h1, h2, h3, h4⟩ := h.2 j r hj; ⟨A, c, h1, h2, h3, h4.later hb hB⟩⟩
theorem RowsAt.push {w : World} {B : Nat} {vs : List Value} {rows : List (List UInt8)} (h : RowsAt w B vs rows) (r : List UInt8) (A : Option Addr) (c : Nat) (h1 : r.length ≤ c) (h2 : c ≤ maxLen) (h3 : Rd w B A r.length (r.map bv)) : RowsAt w B (vs ++ [.slice A r.length c]) (rows ++ [r]) := by
  refine ⟨by simp [h.1], fun j q hj => ?_⟩
  by_cases hlt : j < rows.length
  · rw [List.getElem?_append_left hlt] at hj
    obtain ⟨A', c', e1, e2⟩ := h.2 j q hj
    exact ⟨A', c', by rw [List.getElem?_append_left (by rw [h.1]; exact hlt)]; exact e1, e2⟩
  · rw [List.getElem?_append_right (by omega)] at hj
    have hj0 : j - rows.length = 0 := by
      rcases Nat.eq_zero_or_pos (j - rows.length) with h0 | h0
      · exact h0
      · rw [List.getElem?_eq_none (by simp; omega)] at hj; cases hj
    rw [hj0] at hj
    simp only [List.getElem?_cons_zero, Option.some.injEq] at hj
    subst hj
    exact ⟨A, c, by rw [List.getElem?_append_right (by rw [h.1]; omega), h.1, hj0]; rfl, h1, h2, h3⟩
theorem RowsAt.one {vs : List Value} {w : World} {B : Nat} {rows : List (List UInt8)} (h : RowsAt w B vs rows) : ∀ u ∈ vs, u.oneCell' = true := by
  intro u hu
  obtain ⟨j, hj, rfl⟩ := List.mem_iff_getElem.1 hu
  obtain ⟨A, c, h1, _⟩ := h.2 j (rows[j]'(by rw [← h.1]; exact hj)) (List.getElem?_eq_getElem _)
  rw [List.getElem?_eq_getElem hj] at h1
  injection h1 with h1
  rw [h1]
  rfl
/-- a slice of rows, to be read -/
def RdR (w : World) (B : Nat) (A : Option Addr) (n : Nat) (rows : List (List UInt8)) : Prop := ∃ vs, Rd w B A n vs ∧ RowsAt w B vs rows
theorem RdR.later {w w' : World} {B B' n : Nat} {A : Option Addr} {rows : List (List UInt8)} (h : RdR w B A n rows) (hb : Below B w w') (hB : B ≤ B') : RdR w' B' A n rows :=
  let ⟨vs, h1, h2⟩ := h; ⟨vs, h1.later hb hB, h2.later hb hB⟩
theorem RdR.len {w : World} {B n : Nat} {A : Option Addr} {rows : List (List UInt8)} (h : RdR w B A n rows) : rows.length = n := by obtain ⟨vs, h1, h2⟩ := h; rw [← h2.1]; exact h1.1
theorem RdR.at {w : World} {B n : Nat} {A : Option Addr} {rows : List (List UInt8)} (h : RdR w B A n rows) {k : Nat} (hk : k < n) : ∃ (a : Addr) (A' : Option Addr) (c : Nat) (hr : k < rows.length), A = some a ∧ a.block < B ∧ w.cell? (a.add k) = some (.slice A' (rows[k]).length c) ∧ (rows[k]).length ≤ c ∧ c ≤ maxLen ∧ Rd w B A' (rows[k]).length ((rows[k]).map bv) := by
  have hl := h.len
  obtain ⟨vs, h1, h2⟩ := h
  obtain ⟨a, u, e1, e2, e3, e4⟩ := h1.at hk
  have hr : k < rows.length := by omega
  obtain ⟨A', c, g1, g2, g3, g4⟩ := h2.2 k rows[k] (List.getElem?_eq_getElem hr)
  rw [e3] at g1
  injection g1 with g1
  exact ⟨a, A', c, hr, e1, e2, by rw [e4, g1], g2, g3, g4⟩
theorem RdR.of_rows {w : World} {B n : Nat} {A : Option Addr} {rows : List (List UInt8)} (h : RdRows w B A n rows) : ∀ k (hk : k < n), ∃ (a : Addr) (A' : Option Addr) (c : Nat) (hr : k < rows.length), A = some a ∧ a.block < B ∧ w.cell? (a.add k) = some (.slice A' (rows[k]).length c) ∧ (rows[k]).length ≤ c ∧ c ≤ maxLen ∧ Rd w B A' (rows[k]).length ((rows[k]).map bv) := fun k hk => by
  obtain ⟨a, r, A', c', e1, e2, e3, e4, e5, e6, e7⟩ := h.at hk
  have hr : k < rows.length := by rw [h.1]; exact hk
  rw [List.getElem?_eq_getElem hr] at e3
  injection e3 with e3
  subst e3
  exact ⟨a, A', c', hr, e1, e2, e4, e5, e6, e7⟩
def small (rows : List (List UInt8)) : Prop := ∀ r ∈ rows, r.length ≤ 140737488351232

set_option maxRecDepth 100000 in
set_option maxHeartbeats 2000000 in
theorem join_any (A : Option Addr) (n c : Nat) (rows : List (List UInt8)) (hn : n ≤ 1000) (hsm : small rows) (w : World) (hr : RdR w w.heap.size A n rows) :
    Calls Try.prog 16 #[.slice A n c] w fun e W' => ∃ g, e = .returned (.slice (some ⟨g, 0, none⟩) 8 8) ∧ w.heap.size ≤ g ∧ Rd W' W'.heap.size (some ⟨g, 0, none⟩) 8 ((joinB rows).map bv) ∧ Below w.heap.size w W' := by
  have hlen := hr.len
  have HL := Lib.hid hlen
  have HSM := Lib.hid hsm
  clear hlen hsm
  have bx := (boxed_rds w [iv (n : Int)] 3).mono (B' := (w.alloc (.cells #[.int .i64 (n : Int)] 3)).heap.size) (by simp)
  have b0 : Below w.heap.size w (w.alloc (.cells #[.int .i64 (n : Int)] 3)) := (Below.refl _ _).alloc (Nat.le_refl _) _
  go_enter Try.func16, Try.ntmps16
  go_wp2_with fail
  refine (sum_any _ (by decide) _ 1 _ [(n : Int)] (by omega) _ bx).mono ?_
  rintro e W1 ⟨rfl, hB1⟩
  have B1 := b0.trans (hB1.mono b0.size)
  have s1 := B1.size
  have r1 := hr.later B1 s1
  obtain ⟨J, hJ⟩ : ∃ J, J = joinFrom n [] := ⟨_, rfl⟩
  rw [show sumM _ [(n : Int)] = J from hJ.symm]
  have HJ := Lib.hid hJ
  clear hJ hB1 b0 bx
  go_wp2_with fail
  go_loopw [3, 12] (fun j i wr => ∃ k : Nat, k ≤ n ∧ i = .int .i64 k ∧ j = .int .u64 (joinFrom n (rows.take k)) ∧ Below W1.heap.size W1 wr) (fun _ i _ => n - (intOf i).toNat)
  case atStart => exact ⟨0, by omega, rfl, by rw [HJ.out]; rfl, Below.refl _ _⟩
  case round =>
    obtain ⟨k, hk, rfl, rfl, hB⟩ := hrel
    have sr := hB.size
    by_cases hlt : k < n
    · obtain ⟨a, A', c', hrl, rfl, hab, hc, hlc, hcm, hrd⟩ := (r1.later hB sr).at hlt
      have hs := HSM.out rows[k] (List.getElem_mem hrl)
      have HT := Lib.hid (show joinFrom n (rows.take (k + 1)) = pairM (joinFrom n (rows.take k)) (bytesM [112, 97, 114, 116] rows[k]) from by rw [List.take_succ_eq_append_getElem hrl, joinFrom_snoc])
      generalize rows[k] = row at *
      generalize joinFrom n (rows.take k) = j0 at *
      go_wp2_with fail
      refine (bytes_any _ (by decide) A' row.length c' row hs hlc wr hrd).mono ?_
      rintro e W2 ⟨rfl, hB2⟩
      have b2 := hB.trans (hB2.mono sr)
      have s2 := b2.size
      go_wp2_with fail
      refine (pair_any _ _ _).mono ?_
      rintro e W3 ⟨rfl, hB3⟩
      have b3 := b2.trans (hB3.mono s2)
      go_wp2_with fail
      go_roundw
      case rel => exact ⟨k + 1, by omega, by go_num, by rw [HT.out], b3⟩
      case measure => simp [intOf]; omega
    · obtain rfl : k = n := by omega
      have e0 : rows.take k = rows := List.take_of_length_le (by rw [HL.out]; omega)
      rw [e0]
      have hrg := joinFrom_range k rows
      obtain ⟨N, hN⟩ : ∃ N, N = joinFrom k rows := ⟨_, rfl⟩
      rw [← hN] at hrg ⊢
      have HN := Lib.hid hN
      clear hN e0
      go_wp2_with fail
      refine (bytesOf_any N hrg wr).mono ?_
      rintro e W4 ⟨rfl, hown, hB4⟩
      go_wp2_with fail
      go_ret
      have b4 := (B1.trans (hB.mono s1)).trans (hB4.mono (by omega))
      exact ⟨_, rfl, by omega, (Rd.of_own hown).cast rfl (by unfold joinB; rw [HL.out, HN.out]), b4⟩

set_option maxRecDepth 100000 in
set_option maxHeartbeats 2000000 in
theorem rjoin_any (A : Option Addr) (n c : Nat) (rows : List (List UInt8)) (hn : n ≤ 1000) (hsm : small rows) (w : World) (hr : RdR w w.heap.size A n rows) :
    Calls Try.prog 17 #[.slice A n c] w fun e W' => ∃ A' c', e = .returned (.slice A' 8 c') ∧ Rd W' W'.heap.size A' 8 ((joinB rows).map bv) ∧ Below w.heap.size w W' := by
  obtain ⟨i0, hi, hz0, hz1, hz2⟩ := info_parts infoU8
  have hlen := hr.len
  have HL := Lib.hid hlen
  have HSM := Lib.hid hsm
  clear hlen hsm
  have bx := (boxed_rds w [iv (n : Int)] 3).mono (B' := (w.alloc (.cells #[.int .i64 (n : Int)] 3)).heap.size) (by simp)
  have b0 : Below w.heap.size w (w.alloc (.cells #[.int .i64 (n : Int)] 3)) := (Below.refl _ _).alloc (Nat.le_refl _) _
  go_enter Try.func17, Try.ntmps17
  go_wp2_with fail
  refine (rsum_any _ (by decide) _ 1 _ [(n : Int)] (by omega) _ bx).mono ?_
  rintro e W1 ⟨rfl, hB1⟩
  have B1 := b0.trans (hB1.mono b0.size)
  have s1 := B1.size
  have r1 := hr.later B1 s1
  obtain ⟨J, hJ⟩ : ∃ J, J = joinFrom n [] := ⟨_, rfl⟩
  rw [show sumM _ [(n : Int)] = J from hJ.symm]
  have HJ := Lib.hid hJ
  clear hJ hB1 b0 bx
  go_wp2_with fail
  go_loopw [3, 4] (fun j i wr => ∃ k : Nat, k ≤ n ∧ i = .int .i64 k ∧ j = .int .u64 (joinFrom n (rows.take k)) ∧ Below W1.heap.size W1 wr) (fun _ i _ => n - (intOf i).toNat)
  case atStart => exact ⟨0, by omega, rfl, by rw [HJ.out]; rfl, Below.refl _ _⟩
  case round =>
    obtain ⟨k, hk, rfl, rfl, hB⟩ := hrel
    have sr := hB.size
    by_cases hlt : k < n
    · obtain ⟨a, A', c', hrl, rfl, hab, hc, hlc, hcm, hrd⟩ := (r1.later hB sr).at hlt
      have hs := HSM.out rows[k] (List.getElem_mem hrl)
      have HT := Lib.hid (show joinFrom n (rows.take (k + 1)) = pairM (joinFrom n (rows.take k)) (bytesM [112, 97, 114, 116] rows[k]) from by rw [List.take_succ_eq_append_getElem hrl, joinFrom_snoc])
      generalize rows[k] = row at *
      generalize joinFrom n (rows.take k) = j0 at *
      go_wp2_with fail
      refine (rbytes_any _ (by decide) A' row.length c' row hs wr hrd).mono ?_
      rintro e W2 ⟨rfl, hB2⟩
      have b2 := hB.trans (hB2.mono sr)
      have s2 := b2.size
      go_wp2_with fail
      refine (rpair_any _ _ _).mono ?_
      rintro e W3 ⟨rfl, hB3⟩
      have b3 := b2.trans (hB3.mono s2)
      go_wp2_with fail
      go_roundw
      case rel => exact ⟨k + 1, by omega, by go_num, by rw [HT.out], b3⟩
      case measure => simp [intOf]; omega
    · obtain rfl : k = n := by omega
      have e0 : rows.take k = rows := List.take_of_length_le (by rw [HL.out]; omega)
      rw [e0]
      have hrg := joinFrom_range k rows
      obtain ⟨N, hN⟩ : ∃ N, N = joinFrom k rows := ⟨_, rfl⟩
      rw [← hN] at hrg ⊢
      have HN := Lib.hid hN
      have BW := B1.trans (hB.mono s1)
      clear hN e0 hk hlt
      go_wp2_with fail
      go_loopw [3, 5, 6] (fun s v i wx => ∃ j : Nat, j ≤ 8 ∧ i = .int .i64 j ∧ s = .int .u64 (N / 2 ^ (8 * j)) ∧ wx.ownsRow w.heap.size 5 1 v j ((bytesUpto N j).map bv) ∧ Below w.heap.size w wx) (fun _ _ i _ => 8 - (intOf i).toNat)
      case atStart => exact ⟨0, by omega, rfl, by simp, World.ownsRow_nil _ _ _ _, BW⟩
      case round =>
        clear BW
        obtain ⟨j, hj, rfl, rfl, hok, hBj⟩ := hrel
        have sj := hBj.size
        by_cases hlt : j < 8
        · obtain ⟨A2, c2, rfl⟩ := own_form hok
          have hq : 0 ≤ N / 2 ^ (8 * j) ∧ N / 2 ^ (8 * j) < 18446744073709551616 := by
            have h1 := Int.ediv_nonneg hrg.1 (show (0 : Int) ≤ 2 ^ (8 * j) from Int.pow_nonneg (by omega))
            have h2 := Int.ediv_le_self (2 ^ (8 * j)) hrg.1
            omega
          have HQ := Lib.hid (shift_next N j)
          have HB8 := Lib.hid (byteAt_val N j)
          obtain ⟨q, hqq⟩ : ∃ q, q = N / 2 ^ (8 * j) := ⟨_, rfl⟩
          rw [← hqq] at hq HQ HB8 ⊢
          clear hqq
          go_wp2_with (at_builtin; refine wpList_append_own _ rfl _ _ 22 rfl w.heap.size 5 i0 (.int .u8 0) 1 1 Try.underlying22 hi hz0 hz1 hz2 rfl (by decide) (.slice A2 j c2) j _ rfl (hok.alloc _) ⟨wr.heap.size, 0, none⟩ 1 1 [.int .u8 (q % 256)] rfl rfl (cell_one_new _ _ _) (by simp [Value.oneCell']) (by unfold maxLen; omega) (by omega) (by simp; omega) ?_; intro v' w1 hown' hgrow _)
          go_roundw
          case rel => exact ⟨j + 1, by omega, by go_num, by rw [← HQ.out], own_cast hown' rfl (by rw [bytesUpto_succ, List.map_append, List.map_cons, HB8.out]; rfl), own_grown (hBj.alloc sj _) (hok.alloc _) hgrow (by simp; omega)⟩
          case measure => simp [intOf]; omega
        · obtain rfl : j = 8 := by omega
          obtain ⟨A2, c2, rfl⟩ := own_form hok
          simp only [show ((8 : Nat) : Int) = 8 from rfl]
          go_wp2_with fail
          go_ret
          exact ⟨A2, c2, rfl, (Rd.of_own hok).cast rfl (by unfold joinB; rw [HL.out, HN.out]), hBj⟩
end Go.Proofs.Ytagjecbgbpjobaa
