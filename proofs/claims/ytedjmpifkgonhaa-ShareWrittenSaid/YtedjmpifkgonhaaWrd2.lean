/- What the methods of a Reader do, the rest: signed numbers, truth values, lists, strings; and a new reader. -/
import Derived.Test.YtedjmpifkgonhaaWrd
namespace Go.Proofs.Ytedjmpifkgonhaa
open Go.RowKit Hb Wm

theorem Rr.cell1 {W : World} {p : Nat} {Q : Nat → Prop} {s : St} (h : Rr W p Q s) : W.cell? ⟨p, 1, none⟩ = some (.int .i64 (s.1 : Int)) := by obtain ⟨_, _, _, _, _, hb, _⟩ := h; exact hb.cell1
theorem Rr.err {W : World} {p : Nat} {Q : Nat → Prop} {s : St} (h : Rr W p Q s) (he : s.1 ≠ 0) : s = (s.1, []) := Prod.ext rfl (h.2.1 he)
theorem ru_err_n (cs : List UInt8) (i : Nat) (h : (ru i cs).1 ≠ 0) : (ru i cs).2.1 = 0 ∧ (ru i cs).2.2 = [] := by
  have := ru_err cs i h
  exact ⟨by rw [this], by rw [this]⟩
theorem rU_lt (s : St) : (rU s).1 < 18446744073709551616 := by
  unfold rU
  split
  · by_cases h : (ru 0 s.2).1 = 0
    · exact (ru_one0 h).2
    · rw [(ru_err_n _ _ h).1]; decide
  · simp
theorem rU_err (s : St) (h : (rU s).2.1 ≠ 0) : (rU s).1 = 0 ∧ (rU s).2.2 = [] := by
  unfold rU at h ⊢
  split
  · rename_i h0; rw [if_pos h0] at h; exact ru_err_n _ _ h
  · exact ⟨rfl, rfl⟩
theorem rU_len (s : St) : (rU s).2.2.length ≤ s.2.length := by
  unfold rU
  split
  · by_cases h : (ru 0 s.2).1 = 0
    · exact Nat.le_of_lt (ru_len h)
    · simp only; rw [(ru_err_n _ _ h).2]; simp
  · simp

theorem r_uint (p : Nat) (Q : Nat → Prop) (s : St) (w : World) (h : Rr w p Q s) :
    Calls Try.prog 59 #[.pointer (some ⟨p, 0, none⟩)] w fun x W => x = .returned (.int .u64 ((rU s).1 : Nat)) ∧ Rr W p Q (rU s).2 ∧ w.grownBy W (some p) := by
  by_cases h0 : s.1 = 0
  · obtain ⟨e, bs⟩ := s
    obtain rfl : e = 0 := h0
    refine (r_uint_ok p Q bs w h).mono ?_
    rintro x W ⟨rfl, hR, hG⟩
    exact ⟨rfl, hR, hG⟩
  · have hs := h.err h0
    obtain ⟨e, bs⟩ := s
    obtain rfl : bs = [] := by simpa using congrArg Prod.snd hs
    refine (r_uint_no p Q e h0 w h).mono ?_
    rintro x W ⟨rfl, rfl⟩
    have : rU (e, []) = (0, e, []) := by unfold rU; rw [if_neg h0]
    rw [this]
    exact ⟨rfl, h, grown_refl _ _⟩

theorem bits_and1 (z : Nat) (hz : z < 18446744073709551616) : bits .and .u64 (z : Int) 1 = ((z % 2 : Nat) : Int) := by
  unfold bits
  simp only []
  rw [Hm.wrapU]
  show Hm.UI (Hm.BI (Hm.UI (Hm.BI (z : Int) &&& Hm.BI 1))) = _
  rw [Hm.BI_UI]
  unfold Hm.UI
  rw [BitVec.toNat_and, BI_toNat _ hz, show (Hm.BI 1).toNat = 1 from by decide, Nat.and_one_is_mod]
theorem unzz_walk (z : Nat) (hz : z < 18446744073709551616) : bits .xor .i64 ((z : Int) / 2) (wrap64 (-wrap64 (bits .and .u64 (z : Int) 1))) = unzz z := by
  rw [bits_and1 z hz]
  have hx : ((z : Int) / 2) = ((z / 2 : Nat) : Int) := by omega
  rw [hx]
  unfold unzz
  by_cases h : z % 2 = 1
  · rw [if_pos h, h, show wrap64 (-wrap64 ((1 : Nat) : Int)) = -1 from by unfold wrap64; omega]
    unfold bits
    simp only []
    show IntKind.i64.wrap (((Hm.BI ((z / 2 : Nat) : Int)) ^^^ (Hm.BI (-1))).toNat : Int) = _
    rw [minus_one, BitVec.xor_allOnes, BitVec.toNat_not, BI_toNat _ (by omega)]
    rw [IntKind.wrap_i64]
    omega
  · rw [if_neg h, show z % 2 = 0 from by omega, show wrap64 (-wrap64 ((0 : Nat) : Int)) = 0 from by unfold wrap64; omega]
    unfold bits
    simp only []
    show IntKind.i64.wrap (((Hm.BI ((z / 2 : Nat) : Int)) ^^^ (Hm.BI 0)).toNat : Int) = _
    rw [show Hm.BI 0 = 0#64 from by decide, BitVec.xor_zero, BI_toNat _ (by omega)]
    rw [IntKind.wrap_i64]
    omega

set_option maxRecDepth 100000 in
set_option maxHeartbeats 1000000 in
theorem r_int (p : Nat) (Q : Nat → Prop) (s : St) (w : World) (h : Rr w p Q s) :
    Calls Try.prog 49 #[.pointer (some ⟨p, 0, none⟩)] w fun x W => x = .returned (.int .i64 (rI s).1) ∧ Rr W p Q (rI s).2 ∧ w.grownBy W (some p) := by
  have hz := rU_lt s
  have hu := unzz_walk _ hz
  have e1 : (rI s).1 = unzz (rU s).1 := rfl
  have e2 : (rI s).2 = (rU s).2 := rfl
  rw [e1, e2]
  clear e1 e2
  have HU := Lib.hid hu
  clear hu
  go_enter Try.func49, Try.ntmps49
  go_wp2_with fail
  refine (r_uint p Q s w h).mono ?_
  rintro e W ⟨rfl, hR, hG⟩
  go_wp2_with fail
  go_ret
  exact ⟨ret_int HU.out, hR, hG⟩

set_option maxRecDepth 100000 in
set_option maxHeartbeats 1000000 in
theorem r_end (p : Nat) (Q : Nat → Prop) (s : St) (w : World) (h : Rr w p Q s) :
    Calls Try.prog 30 #[.pointer (some ⟨p, 0, none⟩)] w fun x W => x = .returned (.int .i64 (endOf s : Nat)) ∧ w = W := by
  obtain ⟨h1, h2, A, n, c, hb, hr, h3, h4⟩ := h
  have hl : s.2.length = n := by simpa using hr.1
  have c0 := hb.cell0
  have c1 := hb.cell1
  have hlt := hb.lt
  unfold maxLen at h4
  by_cases h0 : s.1 = 0
  · by_cases hn : 0 < n
    · have e : endOf s = 2 := by unfold endOf; rw [if_pos ⟨h0, by omega⟩]
      rw [e]
      rw [h0] at c1
      clear e h2 hl hb hr h0
      go_enter Try.func30, Try.ntmps30
      go_wp2
      go_ret
      exact ⟨rfl, rfl⟩
    · have e : endOf s = 0 := by unfold endOf; rw [if_neg (by omega), h0]
      rw [e]
      rw [h0] at c1
      clear e h2 hl hb hr h0
      go_enter Try.func30, Try.ntmps30
      go_wp2
      go_ret
      exact ⟨rfl, rfl⟩
  · have e : endOf s = s.1 := by unfold endOf; rw [if_neg (by omega)]
    rw [e]
    have hd : (((s.1 : Nat) : Int) == 0) = false := by simp; omega
    clear e h2 hl hb hr h0
    go_enter Try.func30, Try.ntmps30
    go_wp2
    go_ret
    exact ⟨rfl, rfl⟩

theorem rR_big (s : St) (h0 : (rU s).2.1 = 0) (h : (rU s).2.2.length < (rU s).1) : rR s = ([], 3, []) := by
  have e : rLen s = (0, 3, []) := by unfold rLen; rw [if_pos h0, if_pos h]
  unfold rR
  rw [e, if_neg (by decide)]
theorem rR_ok (s : St) (h : ¬ (rU s).2.2.length < (rU s).1) : rR s = ((rU s).2.2.take (rU s).1, (rU s).2.1, (rU s).2.2.drop (rU s).1) := by
  by_cases h0 : (rU s).2.1 = 0
  · have e : rLen s = rU s := by unfold rLen; rw [if_pos h0, if_neg h]
    unfold rR
    rw [e, if_pos h0, h0]
  · obtain ⟨e1, e2⟩ := rU_err s h0
    have e : rLen s = (0, (rU s).2.1, []) := by unfold rLen; rw [if_neg h0]
    unfold rR
    rw [e, if_neg h0, e1, e2]
    rfl
theorem _root_.Go.World.grownBy.mono_row {W W' : World} (h : W.grownBy W' none) {r : Option Nat} : W.grownBy W' r := ⟨h.os, h.tape, h.output, h.size, fun k hk _ => h.block k hk (by simp)⟩
theorem own_stored {W : World} {base g n j : Nat} {e : TypeId} {xs : List Value} {u : Value} (h : W.ownsRow base e 1 (.slice (some ⟨g, 0, none⟩) n n) n xs) :
    (W.setCell ⟨g, j, none⟩ u).ownsRow base e 1 (.slice (some ⟨g, 0, none⟩) n n) n (xs.set j u) := (h.stored j u).1
theorem get_mid (a : List Value) (z : Value) (k m : Nat) (ha : a.length = k) : (a ++ List.replicate (m + 1) z)[k]? = some z := by
  subst ha
  rw [List.getElem?_append_right (Nat.le_refl _), Nat.sub_self, List.replicate_succ]
  rfl
theorem set_mid (a : List Value) (z u : Value) (k m : Nat) (ha : a.length = k) : (a ++ List.replicate (m + 1) z).set k u = (a ++ [u]) ++ List.replicate m z := by
  subst ha
  rw [List.set_append_right _ _ (Nat.le_refl _), Nat.sub_self, List.replicate_succ, List.set_cons_zero, List.append_assoc]
  rfl

end Go.Proofs.Ytedjmpifkgonhaa
