/- What the reader of the reference model does: the same, in its own state. -/
import Derived.Test.YtigbknhlmifikaaWlaws6
namespace Go.Proofs.Ytigbknhlmifikaa
open Go.RowKit Hb Wm

/-- the reference reader in block q: its error, and (where there is none) the bytes that are left -/
def Mr (W : World) (q : Nat) (Q : Nat → Prop) (s : St) : Prop :=
  (∀ k, Q k → k < W.heap.size ∧ k ≠ q) ∧ (s.1 ≠ 0 → s.2 = []) ∧ ∃ A n c, Box2 W q 47 (.slice A n c) (.int .i64 (s.1 : Int)) ∧ n ≤ c ∧ c ≤ maxLen ∧ (s.1 = 0 → Rq W Q A n (s.2.map bv))
theorem Mr.lt {W : World} {p : Nat} {Q : Nat → Prop} {s : St} (h : Mr W p Q s) : p < W.heap.size := by
  obtain ⟨_, _, A, n, c, hb, _⟩ := h
  exact hb.lt
theorem Mr.err {W : World} {p : Nat} {Q : Nat → Prop} {s : St} (h : Mr W p Q s) (he : s.1 ≠ 0) : s = (s.1, []) := Prod.ext rfl (h.2.1 he)
theorem Mr.grown {W W' : World} {p q : Nat} {Q : Nat → Prop} {s : St} (h : Mr W p Q s) (hg : W.grownBy W' (some q)) (hQ : ∀ k, Q k → k ≠ q) (hpq : p ≠ q) : Mr W' p Q s := by
  obtain ⟨h1, h2, A, n, c, hb, hn, hc, hr⟩ := h
  exact ⟨fun k hk => ⟨Nat.lt_of_lt_of_le (h1 k hk).1 hg.size, (h1 k hk).2⟩, h2, A, n, c, hb.kept hg (by simpa using hpq), hn, hc, fun h0 => (hr h0).grown hg fun k hk => ⟨(h1 k hk).1, hQ k hk⟩⟩
theorem Mr.below {W W' : World} {p B : Nat} {Q : Nat → Prop} {s : St} (h : Mr W p Q s) (hg : Below B W W') (hB : W.heap.size ≤ B) : Mr W' p Q s := by
  obtain ⟨h1, h2, A, n, c, hb, hn, hc, hr⟩ := h
  have hp := hb.lt
  exact ⟨fun k hk => ⟨Nat.lt_of_lt_of_le (h1 k hk).1 hg.size, (h1 k hk).2⟩, h2, A, n, c, hb.below hg (by omega), hn, hc, fun h0 => (hr h0).below hg fun k hk => by have := (h1 k hk).1; omega⟩
/-- an error set in the box -/
theorem Mr.seterr {W : World} {q : Nat} {Q : Nat → Prop} {bs : List UInt8} (h : Mr W q Q (0, bs)) (e : Nat) (he : e ≠ 0) : Mr (W.setCell ⟨q, 1, none⟩ (.int .i64 (e : Int))) q Q (e, []) := by
  obtain ⟨h1, h2, A, n, c, hb, hn, hc, hr⟩ := h
  exact ⟨fun k hk => ⟨by simpa [World.setCell] using (h1 k hk).1, (h1 k hk).2⟩, fun _ => rfl, A, n, c, hb.set1 _, hn, hc, fun h0 => absurd h0 he⟩
theorem Hb.Rq.dropn {w : World} {Q : Nat → Prop} {A : Option Addr} {n : Nat} {xs : List Value} (h : Rq w Q A n xs) (i : Nat) (A' : Option Addr) (hA : A' = A.map (·.add i) ∨ n ≤ i) : Rq w Q A' (n - i) (xs.drop i) := by
  have hl := h.1
  refine ⟨by simp; omega, fun hn => ?_⟩
  obtain ⟨a, rfl, hb, hc⟩ := h.2 (by omega)
  rcases hA with rfl | h1
  · refine ⟨a.add i, rfl, by rw [add_block]; exact hb, fun j u hu => ?_⟩
    rw [add_add]
    rw [List.getElem?_drop] at hu
    exact hc (i + j) u hu
  · omega
/-- the rest set in the box -/
theorem Mr.setrest {W : World} {q : Nat} {Q : Nat → Prop} {bs : List UInt8} {A : Option Addr} {n c : Nat} (h1 : ∀ k, Q k → k < W.heap.size ∧ k ≠ q) (hb : Box2 W q 47 (.slice A n c) (.int .i64 0)) (hr : Rq W Q A n (bs.map bv)) (hn : n ≤ c) (hc : c ≤ maxLen) (i : Nat) (hi : i ≤ n) (A' : Option Addr) (hA : A' = A.map (·.add i) ∨ n ≤ i) :
    Mr (W.setCell ⟨q, 0, none⟩ (.slice A' (n - i) (c - i))) q Q (0, bs.drop i) :=
  ⟨fun k hk => ⟨by simpa [World.setCell] using (h1 k hk).1, (h1 k hk).2⟩, fun h => absurd rfl h, A', n - i, c - i, hb.set0 _, by omega, by omega, fun _ => by
    have := (hr.dropn i A' hA).grown (grown_set W q 0 (.slice A' (n - i) (c - i))) h1
    rwa [← List.map_drop] at this⟩

theorem unitw (i U : Nat) (hU : U = 128 ^ i) (hi : i ≤ 8) : IntKind.u64.wrap ((U : Int) * 128) = ((128 ^ (i + 1) : Nat) : Int) := by
  have h1 : 128 ^ i ≤ 128 ^ 8 := Nat.pow_le_pow_right (by omega) hi
  rw [Hm.wrapU, Hm.UI_BI, Nat.pow_succ, hU]
  omega
theorem accum (acc i : Nat) (c : UInt8) (U : Nat) (hU : U = 128 ^ i) (hi : i ≤ 9) (ha : acc < 128 ^ i) (hc : i ≤ 8 ∨ c.toNat ≤ 1) : IntKind.u64.wrap ((acc : Int) + IntKind.u64.wrap ((c.toNat : Int) % 128 * (U : Int))) = ((acc + 128 ^ i * (c.toNat % 128) : Nat) : Int) := by
  have hb : c.toNat % 128 * 128 ^ i + acc < 18446744073709551616 := by
    rcases hc with h | h
    · have h1 : 128 ^ i ≤ 128 ^ 8 := Nat.pow_le_pow_right (by omega) h
      have h2 : c.toNat % 128 * 128 ^ i ≤ 127 * 128 ^ i := Nat.mul_le_mul_right _ (by omega)
      omega
    · have h1 : 128 ^ i ≤ 128 ^ 9 := Nat.pow_le_pow_right (by omega) hi
      have h2 : c.toNat % 128 * 128 ^ i ≤ 1 * 128 ^ i := Nat.mul_le_mul_right _ (by omega)
      omega
  have e2 : (c.toNat : Int) % 128 * (U : Int) = ((c.toNat % 128 * 128 ^ i : Nat) : Int) := by rw [hU]; simp
  rw [e2, Hm.wrapU, Hm.UI_BI, Hm.wrapU, Hm.UI_BI, Int.emod_eq_of_lt (b := 18446744073709551616) (a := ((c.toNat % 128 * 128 ^ i : Nat) : Int)) (by omega) (by omega), Int.emod_eq_of_lt (by omega) (by omega), Nat.mul_comm (128 ^ i)]
  omega
set_option maxRecDepth 100000 in
set_option maxHeartbeats 4000000 in
theorem m_uint_ok (q : Nat) (Q : Nat → Prop) (bs0 : List UInt8) (hbl : bs0.length ≤ 100000000) (w : World) (h : Mr w q Q (0, bs0)) :
    Calls Try.prog 49 #[.pointer (some ⟨q, 0, none⟩)] w fun x W => x = .returned (.int .u64 ((ru 0 bs0).2.1 : Nat)) ∧ Mr W q Q ((ru 0 bs0).1, (ru 0 bs0).2.2) ∧ w.grownBy W (some q) := by
  obtain ⟨⟨E, V, R⟩, hR⟩ : ∃ r, r = ru 0 bs0 := ⟨_, rfl⟩
  rw [← hR]
  have HR := Lib.hid hR
  clear hR
  have hM := h
  obtain ⟨h1, h2, A, n, c, hb, hn, hc, hr⟩ := h
  have hr0 := hr rfl
  have hbn : bs0.length = n := by simpa using hr0.1
  have HBN := Lib.hid hbn
  have d0 := hb.cell0
  have d1 : w.cell? ⟨q, 1, none⟩ = some (.int .i64 0) := hb.cell1
  have f0 := hb.fz0
  have f1 := hb.fz1
  have hlt := hb.lt
  unfold maxLen at hc
  have hn1 : n ≤ 100000000 := by omega
  clear hr h2 hbn
  go_enter Try.func49, Try.ntmps49
  go_wp2_with fail
  go_loop [3, 4, 5] (fun nv uv ix => ∃ (i acc U : Nat), nv = .int .u64 acc ∧ uv = .int .u64 U ∧ ix = .int .i64 i ∧ i ≤ 9 ∧ U = 128 ^ i ∧ i ≤ n ∧ acc < 128 ^ i ∧ Link bs0 i acc (bs0.drop i)) (fun _ _ ix => (20 - intOf ix).toNat)
  case atStart => exact ⟨0, 0, 1, rfl, rfl, rfl, by omega, by simp, Nat.zero_le _, by simp, by simpa using Link.start bs0⟩
  case round =>
    obtain ⟨i, acc, U, rfl, rfl, rfl, hi, hU, hin, hacc, hL⟩ := hrel
    have HU := Lib.hid hU
    clear hU
    by_cases hlt2 : i < n
    · have hil : i < bs0.length := by rw [HBN.out]; exact hlt2
      have hdr : bs0.drop i = bs0[i] :: bs0.drop (i + 1) := List.drop_eq_getElem_cons hil
      obtain ⟨ch, hch⟩ : ∃ ch, ch = bs0[i] := ⟨_, rfl⟩
      rw [← hch] at hdr
      rw [hdr] at hL
      obtain ⟨a, rfl, hab, hca⟩ := hr0.2 (by omega)
      have hcell : w.cell? (a.add i) = some (.int .u8 (ch.toNat : Int)) := by
        rw [hca i (bv ch) (by rw [List.getElem?_map, List.getElem?_eq_getElem hil, hch]; rfl)]; rfl
      have hc256 := ch.toNat_lt
      have HDR := Lib.hid hdr
      have HR0 := Lib.hid hr0
      clear hch hdr hca hr0
      by_cases hbad : (i = 9 ∧ 1 < ch.toNat) ∨ (0 < i ∧ ch.toNat = 0)
      · by_cases hi9 : i = 9
        · have t9 : ((i : Int) == 9) = true := by simp; omega
          have hi9' : 9 ≤ i := by omega
          have HI9 := Lib.hid hi9
          clear hi9
          by_cases hz : ch.toNat = 0
          · have tz : ((ch.toNat : Int) == 0) = true := by simp; omega
            have hz1 : ch.toNat ≤ 1 := by omega
            have e3 := HR.out.trans (hL.bad hbad)
            simp only [Prod.mk.injEq] at e3
            obtain ⟨rfl, rfl, rfl⟩ := e3
            clear hL hbad
            go_wp2_with fail
            all_goals
              go_ret
              exact ⟨rfl, hM.seterr 2 (by decide), grown_set _ _ _ _⟩
          · have hz1 : 1 < ch.toNat := by omega
            have e3 := HR.out.trans (hL.bad hbad)
            simp only [Prod.mk.injEq] at e3
            obtain ⟨rfl, rfl, rfl⟩ := e3
            clear hL hbad
            go_wp2_with fail
            all_goals
              go_ret
              exact ⟨rfl, hM.seterr 2 (by decide), grown_set _ _ _ _⟩
        · have t9 : ((i : Int) == 9) = false := beq_eq_false_iff_ne.2 (by omega)
          have tz : ((ch.toNat : Int) == 0) = true := by simp; omega
          have hi0 : 0 < i := by omega
          have e3 := HR.out.trans (hL.bad hbad)
          simp only [Prod.mk.injEq] at e3
          obtain ⟨rfl, rfl, rfl⟩ := e3
          clear hL hbad
          go_wp2_with fail
          all_goals
            go_ret
            exact ⟨rfl, hM.seterr 2 (by decide), grown_set _ _ _ _⟩
      · by_cases hc128 : ch.toNat < 128
        · by_cases hi9 : i = 9
          · have t9 : ((i : Int) == 9) = true := by simp; omega
            have hi9' : 9 ≤ i := by omega
            have HI9 := Lib.hid hi9
            clear hi9
            have hz1 : ch.toNat ≤ 1 := by omega
            have tz : ((ch.toNat : Int) == 0) = false := beq_eq_false_iff_ne.2 (by omega)
            have e3 := HR.out.trans (hL.last hbad hc128)
            simp only [Prod.mk.injEq] at e3
            obtain ⟨rfl, rfl, rfl⟩ := e3
            have HA := Lib.hid (accum acc i ch U HU.out hi hacc (by omega))
            have hqs := fun A' hA' => Mr.setrest (A := some a) h1 hb HR0.out hn (by unfold maxLen; omega) (i + 1) (by omega) A' hA'
            have HQS := Lib.hid hqs
            clear hL hqs hbad
            by_cases hci : c = i + 1
            · subst hci
              go_wp2_with fail
              all_goals
                go_ret
                refine ⟨ret_int (by rw [HA.out, Nat.mod_eq_of_lt hc128]; try simp), ?_, grown_set _ _ _ _⟩
                have := HQS.out (some a) (.inr (by omega))
                rwa [show n - (i + 1) = 0 from by omega, show i + 1 - (i + 1) = 0 from by omega] at this
            · go_wp2_with fail
              all_goals
                go_ret
                exact ⟨ret_int (by rw [HA.out, Nat.mod_eq_of_lt hc128]; try simp), HQS.out _ (.inl rfl), grown_set _ _ _ _⟩
          · have t9 : ((i : Int) == 9) = false := beq_eq_false_iff_ne.2 (by omega)
            by_cases hi0 : 0 < i
            · have tz : ((ch.toNat : Int) == 0) = false := beq_eq_false_iff_ne.2 (by omega)
              have e3 := HR.out.trans (hL.last hbad hc128)
              simp only [Prod.mk.injEq] at e3
              obtain ⟨rfl, rfl, rfl⟩ := e3
              have HA := Lib.hid (accum acc i ch U HU.out hi hacc (by omega))
              have hqs := fun A' hA' => Mr.setrest (A := some a) h1 hb HR0.out hn (by unfold maxLen; omega) (i + 1) (by omega) A' hA'
              have HQS := Lib.hid hqs
              clear hL hqs hbad
              by_cases hci : c = i + 1
              · subst hci
                go_wp2_with fail
                all_goals
                  go_ret
                  refine ⟨ret_int (by rw [HA.out, Nat.mod_eq_of_lt hc128]; try simp), ?_, grown_set _ _ _ _⟩
                  have := HQS.out (some a) (.inr (by omega))
                  rwa [show n - (i + 1) = 0 from by omega, show i + 1 - (i + 1) = 0 from by omega] at this
              · go_wp2_with fail
                all_goals
                  go_ret
                  exact ⟨ret_int (by rw [HA.out, Nat.mod_eq_of_lt hc128]; try simp), HQS.out _ (.inl rfl), grown_set _ _ _ _⟩
            · have e3 := HR.out.trans (hL.last hbad hc128)
              simp only [Prod.mk.injEq] at e3
              obtain ⟨rfl, rfl, rfl⟩ := e3
              have HA := Lib.hid (accum acc i ch U HU.out hi hacc (by omega))
              have hqs := fun A' hA' => Mr.setrest (A := some a) h1 hb HR0.out hn (by unfold maxLen; omega) (i + 1) (by omega) A' hA'
              have HQS := Lib.hid hqs
              clear hL hqs hbad
              by_cases hci : c = i + 1
              · subst hci
                go_wp2_with fail
                all_goals
                  go_ret
                  refine ⟨ret_int (by rw [HA.out, Nat.mod_eq_of_lt hc128]; try simp), ?_, grown_set _ _ _ _⟩
                  have := HQS.out (some a) (.inr (by omega))
                  rwa [show n - (i + 1) = 0 from by omega, show i + 1 - (i + 1) = 0 from by omega] at this
              · go_wp2_with fail
                all_goals
                  go_ret
                  exact ⟨ret_int (by rw [HA.out, Nat.mod_eq_of_lt hc128]; try simp), HQS.out _ (.inl rfl), grown_set _ _ _ _⟩
        · have hi8 : i ≤ 8 := by omega
          have t9 : ((i : Int) == 9) = false := beq_eq_false_iff_ne.2 (by omega)
          have tz : ((ch.toNat : Int) == 0) = false := beq_eq_false_iff_ne.2 (by omega)
          have HL := Lib.hid (hL.more hbad hc128)
          have HA := Lib.hid (accum acc i ch U HU.out hi hacc (by omega))
          have HW := Lib.hid (unitw i U HU.out hi8)
          clear hL
          go_wp2_with fail
          all_goals
            go_round
            case rel =>
              have hm : ch.toNat % 128 = ch.toNat - 128 := by omega
              have hp : 128 ^ (i + 1) = 128 ^ i * 128 := Nat.pow_succ ..
              have hp1 : 128 ^ i * (ch.toNat - 128) ≤ 128 ^ i * 127 := Nat.mul_le_mul_left _ (by omega)
              exact ⟨i + 1, acc + 128 ^ i * (ch.toNat - 128), 128 ^ (i + 1), by rw [HA.out, hm], by rw [HW.out], by go_num, by omega, rfl, by omega, by omega, HL.out⟩
            case measure => simp [intOf]; omega
    · obtain rfl : i = n := by omega
      have e3 := HR.out.trans (Link.nil (by rw [List.drop_of_length_le (by rw [HBN.out]; exact Nat.le_refl _)] at hL; exact hL))
      simp only [Prod.mk.injEq] at e3
      obtain ⟨rfl, rfl, rfl⟩ := e3
      clear hL
      have c1' : (w.setCell ⟨q, 1, none⟩ (.int .i64 3)).cell? ⟨q, 1, none⟩ = some (.int .i64 3) := (hb.set1 _).cell1
      go_wp2_with fail
      go_ret
      exact ⟨rfl, hM.seterr 3 (by decide), grown_set _ _ _ _⟩
end Go.Proofs.Ytigbknhlmifikaa
