/- The law DiceSeeds, walked. -/
import Derived.Test.YtagjecbgbpjobaaDlaws1
import Derived.Test.YtagjecbgbpjobaaDrowo
namespace Go.Proofs.Ytagjecbgbpjobaa
open Go.RowKit Go.Shelf Hm Hb Dm Ds

set_option maxRecDepth 100000 in
set_option maxHeartbeats 4000000 in
theorem DiceSeeds_walk (w : World) (a0 : Option Addr) (len0 cap0 : Nat) (x0 : List UInt8) (r0 : Rd w w.heap.size a0 len0 (x0.map bv)) (l0 : len0 ≤ cap0) (m0 : cap0 ≤ maxLen) (a1 : Option Addr) (len1 cap1 : Nat) (x1 : List (List UInt8)) (r1 : RdRows w w.heap.size a1 len1 x1) (l1 : len1 ≤ cap1) (m1 : cap1 ≤ maxLen) (a2 : Int) (w2 : (Lit.int .u64 a2).wf = true) (a3 : Int) (w3 : (Lit.int .i64 a3).wf = true) (a4 : Int) (w4 : (Lit.int .u8 a4).wf = true) :
    Calls Try.prog 3 #[.slice a0 len0 cap0, .slice a1 len1 cap1, .int .u64 a2, .int .i64 a3, .int .u8 a4] w fun e W' => e = .returned (.bool true) ∧ Below w.heap.size w W' := by
  obtain ⟨q, rfl⟩ := byte_of w4
  obtain ⟨i0, hi, hz0, hz1, hz2⟩ := info_parts infoS
  have hmm := m1
  unfold maxLen at hmm
  clear w4 m1 w2
  go_enter Try.func3, Try.ntmps3
  go_wp2_with fail
  refine (few_t a0 len0 cap0 x0 l0 m0 40 (by omega) _ rfl w r0).mono ?_
  rintro e W1 ⟨A, m, c, rfl, hm, hml, hmc, hcm, R1, -, B1⟩
  have s1 := B1.size
  obtain ⟨bs, hbs⟩ : ∃ bs, bs = List.take 40 x0 := ⟨_, rfl⟩
  rw [← hbs] at R1 hml
  have HML := Lib.hid hml
  clear hbs hml
  go_wp2_with fail
  refine (rcommit_any A m c bs (by omega) W1 R1).mono ?_
  rintro e W2 ⟨rfl, hB⟩
  have s2 := hB.size
  have B2 := B1.trans (hB.mono s1)
  have R2 := R1.later hB s2
  obtain ⟨C, hC⟩ : ∃ C, C = commitI bs := ⟨_, rfl⟩
  rw [show bytesM [115, 101, 101, 100] bs = C from hC.symm]
  have HC := Lib.hid hC
  clear hC hB B1 R1
  go_wp2_with fail
  go_loopw [13, 14] (fun v i wr => ∃ (k : Nat) (vs : List Value) (rows : List (List UInt8)), k ≤ 4 ∧ k ≤ len1 ∧ i = .int .i64 k ∧ rows.length = k ∧ (∀ r ∈ rows, r.length ≤ 20) ∧ wr.ownsRow W2.heap.size 22 1 v k vs ∧ RowsO wr W2.heap.size vs rows ∧ Below W2.heap.size W2 wr) (fun _ i _ => 4 - (intOf i).toNat)
  case atStart => exact ⟨0, [], [], by omega, by omega, rfl, rfl, by simp, World.ownsRow_nil _ _ _ _, RowsO.nil _ _, Below.refl _ _⟩
  case round =>
    obtain ⟨k, vs, rows, hk4, hkl, rfl, hrl, hr20, hown, hro, hB⟩ := hrel
    have HRL := Lib.hid hrl
    have HR20 := Lib.hid hr20
    have sr := hB.size
    have BW := B2.trans (hB.mono (B2.size))
    clear hrl hr20
    by_cases hgo : k < len1 ∧ k < 4
    · obtain ⟨g1, g2⟩ := hgo
      obtain ⟨a, A', c', hkx, rfl, hab, hcell, hlc, hcmx, hrd⟩ := RdR.of_rows (r1.later BW BW.size) k g1
      generalize x1[k] = row at *
      obtain ⟨A9, c9, hv9⟩ := own_form hown
      subst hv9
      go_wp2_with fail
      refine (few_t A' row.length c' row hlc hcmx 20 (by omega) _ rfl wr hrd).mono ?_
      rintro e W3 ⟨A3, n3, c3, rfl, hn3, hn3l, -, -, -, own3, hB3⟩
      obtain ⟨rw3, hrw3⟩ : ∃ r, r = List.take 20 row := ⟨_, rfl⟩
      rw [← hrw3] at hn3l own3
      subst hn3l
      have s3 := hB3.size
      have own3' := own_base own3 sr
      have hown3 := own_below hown hB3 (Nat.le_refl _)
      have hro3 := hro.below hB3
      have b3 := hB.trans (hB3.mono sr)
      clear hB3 hrw3 own3 hcell hrd
      go_wp2_with (at_builtin; refine wpList_append_own _ rfl _ _ 23 rfl W2.heap.size 22 i0 (.slice none 0 0) 1 24 Try.underlying23 hi hz0 hz1 hz2 rfl (by decide) (.slice A9 k c9) k _ rfl (hown3.alloc _) ⟨W3.heap.size, 0, none⟩ 1 1 [.slice A3 rw3.length c3] rfl rfl (cell_one_new _ _ _) (by simp [Value.oneCell']) (by unfold maxLen; omega) (by omega) (by simp; omega) ?_; intro v' w5 hown' hgrow _)
      have ba : Below W3.heap.size W3 (W3.alloc (.cells #[.slice A3 rw3.length c3] 22)) := (Below.refl _ _).alloc (Nat.le_refl _) _
      have hro5 := ((hro3.push rw3 A3 c3 own3').below ba).grown (hown3.alloc _) hgrow
      have b5 := own_grown (b3.alloc b3.size (.cells #[.slice A3 rw3.length c3] 22)) (hown3.alloc _) hgrow (by simp; omega)
      go_roundw
      case rel =>
        refine ⟨k + 1, _, _, by omega, by omega, by go_num, by simp [HRL.out], ?_, hown', hro5, b5⟩
        intro r hr
        rcases List.mem_append.1 hr with hr | hr
        · exact HR20.out r hr
        · simp only [List.mem_singleton] at hr
          subst hr
          exact hn3
      case measure => simp [intOf]; omega
    · have hno : ¬ (k < len1) ∨ (k < len1 ∧ ¬ (k < 4)) := by omega
      clear hgo
      obtain ⟨A9, c9, hv9⟩ := own_form hown
      subst hv9
      have RW : RdR wr wr.heap.size A9 k rows := ⟨vs, Rd.of_own hown, hro.rd⟩
      have RS := R2.later hB sr
      have hsm : small rows := fun r hr => by have := HR20.out r hr; omega
      have HSM := Lib.hid hsm
      have szw := BW.size
      clear hown hro hB hsm R2 B2
      rcases hno with hno | ⟨hno, hno2⟩
      all_goals
        go_wp2_with fail
        refine (commit_any A m c bs (by omega) hmc wr RS).mono ?_
        rintro e W3 ⟨rfl, hB3⟩
        have s3 := hB3.size
        have B3 := BW.trans (hB3.mono szw)
        have RS3 := RS.later hB3 s3
        have RW3 := RW.later hB3 s3
        rw [← HC.out]
        have v1 := opens_any C A m c bs (by omega) hmc W3 RS3
        rw [← HC.out, show (C == C) = true from beq_self_eq_true C] at v1
        go_wp2_with fail
        refine v1.mono ?_
        rintro e W4 ⟨rfl, hB4⟩
        have s4 := hB4.size
        have B4 := B3.trans (hB4.mono (by omega))
        have RS4 := RS3.later hB4 s4
        have RW4 := RW3.later hB4 s4
        have v1 := opens_any a2 A m c bs (by omega) hmc W4 RS4
        rw [← HC.out] at v1
        clear hB3 hB4 B3 RS3 RW3
        go_wp2_with fail
        refine v1.mono ?_
        rintro e W5 ⟨rfl, hB5⟩
        have s5 := hB5.size
        have B5 := B4.trans (hB5.mono (by omega))
        have RS5 := RS4.later hB5 s5
        have RW5 := RW4.later hB5 s5
        have hbb : ((a2 == C) != (a2 == C)) = false := by simp
        clear v1 hB5 B4 RS4 RW4
        go_wp2_with fail
        refine (join_any A9 k c9 rows (by omega) HSM.out W5 RW5).mono ?_
        rintro e W6 ⟨g6, rfl, -, R6, hB6⟩
        have s6 := hB6.size
        have B6 := B5.trans (hB6.mono (by omega))
        have RS6 := RS5.later hB6 s6
        have RW6 := RW5.later hB6 s6
        clear hB6 B5 RS5 RW5
        go_wp2_with fail
        refine (rjoin_any A9 k c9 rows (by omega) HSM.out W6 RW6).mono ?_
        rintro e W7 ⟨A7, c7, rfl, R7, hB7⟩
        have s7 := hB7.size
        have B7 := B6.trans (hB7.mono (by omega))
        have RS7 := RS6.later hB7 s7
        have R67 := R6.later hB7 s7
        have v2 := same_bytes_t _ _ 8 8 8 c7 _ _ W7.heap.size (by unfold maxLen; omega) W7 R67 R7 rfl
        clear hB7 B6 RS6 RW6 R6
        go_wp2_with fail
        refine v2.mono ?_
        rintro e W8 ⟨rfl, hq8⟩
        have hB8 := hq8.below W7.heap.size
        have s8 := hB8.size
        have B8 := B7.trans (hB8.mono (by omega))
        have RS8 := RS7.later hB8 s8
        clear hq8 hB8 v2 R67 R7 RS7 B7 hbb RW RS BW
        by_cases hm0 : m = 0
        · subst hm0
          simp only [show ((0 : Nat) : Int) = 0 from rfl]
          go_wp2_with fail
          refine (lives_from w W8 B8).mono ?_
          rintro e W' ⟨rfl, hB9⟩
          go_wp2_with fail
          go_ret
          exact ⟨rfl, hB9⟩
        · have hm1 : (m == 0) = false := beq_eq_false_iff_ne.2 hm0
          go_wp2_with fail
          have hbl : bs.length = m := HML.out.symm
          refine (few_t A m c bs hmc hcm 40 (by omega) _ rfl W8 RS8).mono ?_
          rintro e W9 ⟨A9', m9, c9', rfl, hm9, hm9l, hmc9, hcm9, -, own9, hB9⟩
          rw [List.take_of_length_le (by omega)] at hm9l own9
          obtain rfl : m9 = m := by omega
          have s9 := hB9.size
          have B9 := B8.trans (hB9.mono (by omega))
          clear hB9 B8 RS8 hm9l hm9
          go_wp2_with fail
          refine (around_t a3 m9 _ rfl w3 (by omega) W9).mono ?_
          rintro e w' ⟨⟨j, rfl, hj⟩, rfl⟩
          obtain ⟨g9, rfl⟩ : ∃ g, A9' = some ⟨g, 0, none⟩ := by
            rcases own9.2 with ⟨_, h0⟩ | ⟨g, cap', cur, hv, hg, _⟩
            · omega
            · injection hv with h1 h2 h3
              exact ⟨g, h1⟩
          have hgb := (own9.lt g9 rfl).1
          have hjb : j < bs.length := by omega
          have hc9 : W9.cell? ⟨g9, j, none⟩ = some (bv bs[j]) := by
            rw [own9.cellAt j (by omega), List.getElem?_map, List.getElem?_eq_getElem hjb]; rfl
          have hf9 := own9.frozenAt j
          have ho10 := (own9.stored j (bv (bs[j] ^^^ q))).1
          have ex := xor_u8 bs[j] q
          have HX := Lib.hid (commit_one bs j hjb q)
          have HST := Lib.hid (show (bs.map bv).set j (bv (bs[j] ^^^ q)) = (bs.set j (bs[j] ^^^ q)).map bv from by simp)
          have B10 : Below w.heap.size w (W9.setCell ⟨g9, j, none⟩ (bv (bs[j] ^^^ q))) := B9.setCell (p := ⟨g9, j, none⟩) (by show w.heap.size ≤ g9; omega) _
          have hlen10 : (bs.set j (bs[j] ^^^ q)).length = m9 := by rw [List.length_set]; exact hbl
          generalize hbj : bs[j] = u at *
          clear hbj
          unfold bv at hc9 ho10 B10
          obtain ⟨bs2, hbs2⟩ : ∃ b, b = bs.set j (u ^^^ q) := ⟨_, rfl⟩
          rw [← hbs2] at HX HST hlen10
          have own10 := own_cast (ys := bs2.map bv) ho10 rfl HST.out
          have R10 := Rd.of_own own10
          have s10 := B10.size
          have hqb := q.toNat_lt
          clear ho10 own10 hbs2 own9 hlen10 hbl hjb
          have v1 := opens_any C (some ⟨g9, 0, none⟩) m9 c9' bs2 (by omega) hmc9 _ R10
          rw [HC.out, HX.out, ← HC.out] at v1
          have hee : (((q.toNat : Int) == 0) == ((q.toNat : Int) == 0)) = true := by simp
          go_wp2_with fail
          refine v1.mono ?_
          rintro e W11 ⟨rfl, hB11⟩
          have hl := lives_from w W11 (B10.trans (hB11.mono s10))
          clear v1 hB11 B10 R10
          go_wp2_with fail
          refine hl.mono ?_
          rintro e W' ⟨rfl, hB12⟩
          go_wp2_with fail
          go_ret
          exact ⟨rfl, hB12⟩
end Go.Proofs.Ytagjecbgbpjobaa
