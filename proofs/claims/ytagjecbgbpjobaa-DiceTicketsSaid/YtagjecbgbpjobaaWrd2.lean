/- What the methods of a Reader do, the rest: signed numbers, truth values, lists, strings; and a new reader. -/
import Derived.Test.YtagjecbgbpjobaaWrd
namespace Go.Proofs.Ytagjecbgbpjobaa
open Go.RowKit Hb Wm

theorem Rr.cell1 {W : World} {p : Nat} {Q : Nat → Prop} {s : St} (h : Rr W p Q s) : W.cell? ⟨p, 1, none⟩ = some (.int .i64 (s.1 : Int)) := by obtain ⟨_, _, _, _, _, hb, _⟩ := h; exact hb.cell1
theorem Rr.err {W : World} {p : Nat} {Q : Nat → Prop} {s : St} (h : Rr W p Q s) (he : s.1 ≠ 0) : s = (s.1, []) := Prod.ext rfl (h.2.1 he)
theorem ru_err_n (cs : List UInt8) (i : Nat) (h : (ru i cs).1 ≠ 0) : (ru i cs).2.1 = 0 ∧ (ru i cs).2.2 = [] := by
  have := ru_err cs i h
  exact ⟨by rw [this], by rw [this]⟩
theorem rU_lt (s : St) : (rU s).1 < 18446744073709551616 := by
  unfold rU
  split
  · by_cases h : (ru 0 s.2).1 = 0
    · exact (ru_one0 h).2
    · rw [(ru_err_n _ _ h).1]; decide
  · simp
theorem rU_err (s : St) (h : (rU s).2.1 ≠ 0) : (rU s).1 = 0 ∧ (rU s).2.2 = [] := by
  unfold rU at h ⊢
  split
  · rename_i h0; rw [if_pos h0] at h; exact ru_err_n _ _ h
  · exact ⟨rfl, rfl⟩
theorem rU_len (s : St) : (rU s).2.2.length ≤ s.2.length := by
  unfold rU
  split
  · by_cases h : (ru 0 s.2).1 = 0
    · exact Nat.le_of_lt (ru_len h)
    · simp only; rw [(ru_err_n _ _ h).2]; simp
  · simp

theorem r_uint (p : Nat) (Q : Nat → Prop) (s : St) (w : World) (h : Rr w p Q s) :
    Calls Try.prog 66 #[.pointer (some ⟨p, 0, none⟩)] w fun x W => x = .returned (.int .u64 ((rU s).1 : Nat)) ∧ Rr W p Q (rU s).2 ∧ w.grownBy W (some p) := by
  by_cases h0 : s.1 = 0
  · obtain ⟨e, bs⟩ := s
    obtain rfl : e = 0 := h0
    refine (r_uint_ok p Q bs w h).mono ?_
    rintro x W ⟨rfl, hR, hG⟩
    exact ⟨rfl, hR, hG⟩
  · have hs := h.err h0
    obtain ⟨e, bs⟩ := s
    obtain rfl : bs = [] := by simpa using congrArg Prod.snd hs
    refine (r_uint_no p Q e h0 w h).mono ?_
    rintro x W ⟨rfl, rfl⟩
    have : rU (e, []) = (0, e, []) := by unfold rU; rw [if_neg h0]
    rw [this]
    exact ⟨rfl, h, grown_refl _ _⟩

theorem bits_and1 (z : Nat) (hz : z < 18446744073709551616) : bits .and .u64 (z : Int) 1 = ((z % 2 : Nat) : Int) := by
  unfold bits
  simp only []
  rw [Hm.wrapU]
  show Hm.UI (Hm.BI (Hm.UI (Hm.BI (z : Int) &&& Hm.BI 1))) = _
  rw [Hm.BI_UI]
  unfold Hm.UI
  rw [BitVec.toNat_and, BI_toNat _ hz, show (Hm.BI 1).toNat = 1 from by decide, Nat.and_one_is_mod]
theorem unzz_walk (z : Nat) (hz : z < 18446744073709551616) : bits .xor .i64 ((z : Int) / 2) (wrap64 (-wrap64 (bits .and .u64 (z : Int) 1))) = unzz z := by
  rw [bits_and1 z hz]
  have hx : ((z : Int) / 2) = ((z / 2 : Nat) : Int) := by omega
  rw [hx]
  unfold unzz
  by_cases h : z % 2 = 1
  · rw [if_pos h, h, show wrap64 (-wrap64 ((1 : Nat) : Int)) = -1 from by unfold wrap64; omega]
    unfold bits
    simp only []
    show IntKind.i64.wrap (((Hm.BI ((z / 2 : Nat) : Int)) ^^^ (Hm.BI (-1))).toNat : Int) = _
    rw [minus_one, BitVec.xor_allOnes, BitVec.toNat_not, BI_toNat _ (by omega)]
    rw [IntKind.wrap_i64]
    omega
  · rw [if_neg h, show z % 2 = 0 from by omega, show wrap64 (-wrap64 ((0 : Nat) : Int)) = 0 from by unfold wrap64; omega]
    unfold bits
    simp only []
    show IntKind.i64.wrap (((Hm.BI ((z / 2 : Nat) : Int)) ^^^ (Hm.BI 0)).toNat : Int) = _
    rw [show Hm.BI 0 = 0#64 from by decide, BitVec.xor_zero, BI_toNat _ (by omega)]
    rw [IntKind.wrap_i64]
    omega

set_option maxRecDepth 100000 in
set_option maxHeartbeats 1000000 in
theorem r_int (p : Nat) (Q : Nat → Prop) (s : St) (w : World) (h : Rr w p Q s) :
    Calls Try.prog 47 #[.pointer (some ⟨p, 0, none⟩)] w fun x W => x = .returned (.int .i64 (rI s).1) ∧ Rr W p Q (rI s).2 ∧ w.grownBy W (some p) := by
  have hz := rU_lt s
  have hu := unzz_walk _ hz
  have e1 : (rI s).1 = unzz (rU s).1 := rfl
  have e2 : (rI s).2 = (rU s).2 := rfl
  rw [e1, e2]
  clear e1 e2
  have HU := Lib.hid hu
  clear hu
  go_enter Try.func47, Try.ntmps47
  go_wp2_with fail
  refine (r_uint p Q s w h).mono ?_
  rintro e W ⟨rfl, hR, hG⟩
  go_wp2_with fail
  go_ret
  exact ⟨ret_int HU.out, hR, hG⟩

set_option maxRecDepth 100000 in
set_option maxHeartbeats 1000000 in
theorem r_end (p : Nat) (Q : Nat → Prop) (s : St) (w : World) (h : Rr w p Q s) :
    Calls Try.prog 48 #[.pointer (some ⟨p, 0, none⟩)] w fun x W => x = .returned (.int .i64 (endOf s : Nat)) ∧ w = W := by
  obtain ⟨h1, h2, A, n, c, hb, hr, h3, h4⟩ := h
  have hl : s.2.length = n := by simpa using hr.1
  have c0 := hb.cell0
  have c1 := hb.cell1
  have hlt := hb.lt
  unfold maxLen at h4
  by_cases h0 : s.1 = 0
  · by_cases hn : 0 < n
    · have e : endOf s = 2 := by unfold endOf; rw [if_pos ⟨h0, by omega⟩]
      rw [e]
      rw [h0] at c1
      clear e h2 hl hb hr h0
      go_enter Try.func48, Try.ntmps48
      go_wp2
      go_ret
      exact ⟨rfl, rfl⟩
    · have e : endOf s = 0 := by unfold endOf; rw [if_neg (by omega), h0]
      rw [e]
      rw [h0] at c1
      clear e h2 hl hb hr h0
      go_enter Try.func48, Try.ntmps48
      go_wp2
      go_ret
      exact ⟨rfl, rfl⟩
  · have e : endOf s = s.1 := by unfold endOf; rw [if_neg (by omega)]
    rw [e]
    have hd : (((s.1 : Nat) : Int) == 0) = false := by simp; omega
    clear e h2 hl hb hr h0
    go_enter Try.func48, Try.ntmps48
    go_wp2
    go_ret
    exact ⟨rfl, rfl⟩

theorem rR_big (s : St) (h0 : (rU s).2.1 = 0) (h : (rU s).2.2.length < (rU s).1) : rR s = ([], 3, []) := by
  have e : rLen s = (0, 3, []) := by unfold rLen; rw [if_pos h0, if_pos h]
  unfold rR
  rw [e, if_neg (by decide)]
theorem rR_ok (s : St) (h : ¬ (rU s).2.2.length < (rU s).1) : rR s = ((rU s).2.2.take (rU s).1, (rU s).2.1, (rU s).2.2.drop (rU s).1) := by
  by_cases h0 : (rU s).2.1 = 0
  · have e : rLen s = rU s := by unfold rLen; rw [if_pos h0, if_neg h]
    unfold rR
    rw [e, if_pos h0, h0]
  · obtain ⟨e1, e2⟩ := rU_err s h0
    have e : rLen s = (0, (rU s).2.1, []) := by unfold rLen; rw [if_neg h0]
    unfold rR
    rw [e, if_neg h0, e1, e2]
    rfl
theorem _root_.Go.World.grownBy.mono_row {W W' : World} (h : W.grownBy W' none) {r : Option Nat} : W.grownBy W' r := ⟨h.os, h.tape, h.output, h.size, fun k hk _ => h.block k hk (by simp)⟩
theorem own_stored {W : World} {base g n j : Nat} {e : TypeId} {xs : List Value} {u : Value} (h : W.ownsRow base e 1 (.slice (some ⟨g, 0, none⟩) n n) n xs) :
    (W.setCell ⟨g, j, none⟩ u).ownsRow base e 1 (.slice (some ⟨g, 0, none⟩) n n) n (xs.set j u) := (h.stored j u).1
theorem get_mid (a : List Value) (z : Value) (k m : Nat) (ha : a.length = k) : (a ++ List.replicate (m + 1) z)[k]? = some z := by
  subst ha
  rw [List.getElem?_append_right (Nat.le_refl _), Nat.sub_self, List.replicate_succ]
  rfl
theorem set_mid (a : List Value) (z u : Value) (k m : Nat) (ha : a.length = k) : (a ++ List.replicate (m + 1) z).set k u = (a ++ [u]) ++ List.replicate m z := by
  subst ha
  rw [List.set_append_right _ _ (Nat.le_refl _), Nat.sub_self, List.replicate_succ, List.set_cons_zero, List.append_assoc]
  rfl

set_option maxRecDepth 100000 in
set_option maxHeartbeats 2000000 in
theorem r_list_b (p : Nat) (Q : Nat → Prop) (s : St) (hlen : s.2.length ≤ 1000000) (w : World) (h : Rr w p Q s) :
    Calls Try.prog 64 #[.pointer (some ⟨p, 0, none⟩), .func (.func 65) #[.pointer (some ⟨p, 0, none⟩)] #[]] w fun x W =>
      ∃ v, x = .returned v ∧ W.ownsRow w.heap.size 5 1 v (rR s).1.length ((rR s).1.map bv) ∧ Rr W p Q (rR s).2 ∧ w.grownBy W (some p) := by
  obtain ⟨i0, hi, hz0, hz1, hz2⟩ := info_parts infoU8
  have hV := rU_lt s
  have hl1 := rU_len s
  have herr := rU_err s
  obtain ⟨⟨V, s1⟩, hVs⟩ : ∃ r, r = rU s := ⟨_, rfl⟩
  have HV := Lib.hid hVs
  have hu := r_uint p Q s w h
  rw [← hVs] at hV hl1 herr hu
  simp only at hV hl1 herr hu
  clear hVs
  go_enter Try.func64, Try.ntmps64
  go_wp2_with fail
  refine hu.mono ?_
  rintro e w1 ⟨rfl, hR, hG⟩
  obtain ⟨h1, h2, A, n, c, hb, hr, h3, h4⟩ := hR
  have hn : s1.2.length = n := by simpa using hr.1
  have c0 := hb.cell0
  have hplt := hb.lt
  unfold maxLen at h4
  by_cases hlt : n < V
  · have hs0 : s1.1 = 0 := by
      by_cases h : s1.1 = 0
      · exact h
      · have := (herr h).1; omega
    have hRr : rR s = ([], 3, []) := rR_big s (by rw [← HV.out]; exact hs0) (by rw [← HV.out]; simp only; omega)
    have hR0 : Rr w1 p Q (0, s1.2) := ⟨h1, fun h => absurd rfl h, A, n, c, by rw [hs0] at hb; exact hb, hr, h3, by unfold maxLen; omega⟩
    have HRR := Lib.hid hRr
    clear herr hRr hb hr h1 h2 hs0 hn
    go_wp2_with fail
    refine (r_fail p Q _ 3 _ rfl w1 hR0).mono ?_
    rintro e w2 ⟨rfl, hR2, hG2⟩
    go_wp2_with fail
    go_ret
    rw [HRR.out]
    exact ⟨_, rfl, World.ownsRow_nil _ _ _ _, hR2, grown_trans hG hG2⟩
  · have hRr : rR s = (s1.2.take V, s1.1, s1.2.drop V) := by rw [rR_ok s (by rw [← HV.out]; simp only; omega), ← HV.out]
    have htl : (s1.2.take V).length = V := by simp; omega
    have HRR := Lib.hid hRr
    have HERR := Lib.hid herr
    have HTL := Lib.hid htl
    have HNL := Lib.hid hn
    have hR0 : Rr w1 p Q s1 := ⟨h1, h2, A, n, c, hb, hr, h3, by unfold maxLen; omega⟩
    clear herr hRr hb hr h2 htl
    have hVn : V ≤ 1000000 := by omega
    clear hn
    go_wp2_with (at_make; refine wpList_make_full _ rfl _ _ 22 rfl w.heap.size 5 i0 (.int .u8 0) 1 Try.underlying22 hi hz0 hz1 .u64 .u64 _ _ V rfl rfl rfl rfl (by rw [hz2]; omega) (by unfold maxLen; omega) hG.size ?_; intro w2 hown hgrow)
    go_loopw [24] (fun iv wr => ∃ k : Nat, k ≤ V ∧ iv = .int .i64 k ∧ Rr wr p Q (s1.1, s1.2.drop k) ∧ wr.ownsRow w.heap.size 5 1 (.slice (some ⟨w1.heap.size, 0, none⟩) V V) V ((s1.2.take k).map bv ++ List.replicate (V - k) (.int .u8 0)) ∧ w1.grownBy wr (some p)) (fun iv _ => V - (intOf iv).toNat)
    case atStart =>
      refine ⟨0, Nat.zero_le _, rfl, ?_, own_cast hown rfl ?_, ?_⟩
      · rw [List.drop_zero]
        exact hR0.grown (p := p) (q := w1.heap.size) (hgrow.mono_row) (fun k hk => by have := (h1 k hk).1; omega) (by omega)
      · show (madeCells #[Value.int .u8 0] (V * 1)).toList = _
        rw [Nat.mul_one, toList_madeCells_one]; simp
      · exact hgrow.mono_row
    case round =>
      obtain ⟨k, hk, rfl, hRk, hok, hGk⟩ := hrel
      by_cases hkV : k < V
      · have hs0 : s1.1 = 0 := by
          by_cases h : s1.1 = 0
          · exact h
          · have := (HERR.out h).1; omega
        have hkn : k < s1.2.length := by rw [HNL.out]; omega
        have hdr : s1.2.drop k = s1.2[k] :: s1.2.drop (k + 1) := List.drop_eq_getElem_cons hkn
        rw [hs0, hdr] at hRk
        have HS0 := Lib.hid hs0
        obtain ⟨m, hm⟩ : ∃ m, V - k = m + 1 := ⟨V - k - 1, by omega⟩
        clear hdr hs0
        go_wp2_with fail
        refine (r_next p Q _ _ wr hRk).mono ?_
        rintro e w3 ⟨rfl, hR3, hG3⟩
        have ho3 := hok.kept hG3 (.inr (by simp [Value.ownBlock]; omega))
        have hfz := ho3.frozenAt k
        have hcl : w3.cell? ⟨w1.heap.size, k, none⟩ = some (.int .u8 0) := by
          rw [ho3.cellAt k (by omega), hm, get_mid _ _ _ _ (by simp; omega)]
        have hR4 : Rr (w3.setCell ⟨w1.heap.size, k, none⟩ (.int .u8 (s1.2[k].toNat : Int))) p Q (0, s1.2.drop (k + 1)) := hR3.grown (grown_set _ _ _ _) (fun k' hk' => by have := (h1 k' hk').1; omega) (by omega)
        have c1 := hR4.cell1
        have ho4 := (ho3.stored k (.int .u8 (s1.2[k].toNat : Int))).1
        rw [hm, set_mid _ _ _ _ _ (by simp; omega)] at ho4
        have hG4 := grown_fresh (grown_trans hGk hG3) (grown_set w3 w1.heap.size k (.int .u8 (s1.2[k].toNat : Int))) (Nat.le_refl _)
        go_wp2_with fail
        go_roundw
        case rel =>
          refine ⟨k + 1, by omega, by go_num, by rw [HS0.out]; exact hR4, own_cast ho4 rfl ?_, hG4⟩
          rw [List.take_succ_eq_append_getElem hkn, List.map_append, show V - (k + 1) = m from by omega]
          rfl
        case measure => simp [intOf]; omega
      · obtain rfl : k = V := by omega
        go_wp2_with fail
        go_ret
        rw [HRR.out]
        simp only [HTL.out]
        exact ⟨_, rfl, own_cast hok rfl (by simp), hRk, grown_trans hG hGk⟩
end Go.Proofs.Ytagjecbgbpjobaa
