/- What the methods of a Reader do: lists of numbers, strings; and a new reader. -/
import Derived.Test.YtedjmpifkgonhaaWrd2
namespace Go.Proofs.Ytedjmpifkgonhaa
open Go.RowKit Hb Wm

theorem rN_err : ∀ (m : Nat) (bs : List UInt8), (rN m bs).2.1 ≠ 0 → rN m bs = ([], (rN m bs).2.1, [])
  | 0, bs, h => by simp [rN] at h
  | m + 1, bs, h => by
    rw [rN] at h ⊢
    by_cases h1 : (ru 0 bs).1 = 0
    · rw [if_pos h1] at h ⊢
      by_cases h2 : (rN m (ru 0 bs).2.2).2.1 = 0
      · rw [if_pos h2] at h; exact absurd h2 h
      · rw [if_neg h2]
    · rw [if_neg h1]
def LinkN (V : Nat) (bs0 : List UInt8) (m : Nat) (pre : List Int) (bs : List UInt8) : Prop := rN V bs0 = if (rN m bs).2.1 = 0 then (pre ++ (rN m bs).1, (rN m bs).2) else ([], (rN m bs).2.1, [])
theorem LinkN.start (V : Nat) (bs : List UInt8) : LinkN V bs V [] bs := by
  unfold LinkN
  by_cases h : (rN V bs).2.1 = 0
  · rw [if_pos h]; rfl
  · rw [if_neg h]; exact rN_err V bs h
theorem LinkN.ok {V m : Nat} {bs0 bs : List UInt8} {pre : List Int} (h : LinkN V bs0 (m + 1) pre bs) (he : (ru 0 bs).1 = 0) : LinkN V bs0 m (pre ++ [(rI (0, bs)).1]) (ru 0 bs).2.2 := by
  unfold LinkN at h ⊢
  rw [rN, if_pos he] at h
  rw [h]
  by_cases h2 : (rN m (ru 0 bs).2.2).2.1 = 0
  · simp only [if_pos h2, List.append_assoc]
    rfl
  · simp only [if_neg h2]
theorem LinkN.err {V m : Nat} {bs0 bs : List UInt8} {pre : List Int} (h : LinkN V bs0 (m + 1) pre bs) (he : (ru 0 bs).1 ≠ 0) : rN V bs0 = ([], (ru 0 bs).1, []) := by
  unfold LinkN at h
  rw [rN, if_neg he] at h
  rw [h, if_neg he]
theorem LinkN.fin {V : Nat} {bs0 bs : List UInt8} {pre : List Int} (h : LinkN V bs0 0 pre bs) : rN V bs0 = (pre, 0, bs) := by
  unfold LinkN at h
  rw [h]
  simp [rN]
theorem rL_big (s : St) (h0 : (rU s).2.1 = 0) (h : (rU s).2.2.length < (rU s).1) : rL s = ([], 3, []) := by
  have e : rLen s = (0, 3, []) := by unfold rLen; rw [if_pos h0, if_pos h]
  unfold rL
  rw [e, if_neg (by decide)]
theorem rL_ok (s : St) (h : ¬ (rU s).2.2.length < (rU s).1) : rL s = if (rU s).2.1 = 0 then rN (rU s).1 (rU s).2.2 else ([], (rU s).2.1, []) := by
  by_cases h0 : (rU s).2.1 = 0
  · have e : rLen s = rU s := by unfold rLen; rw [if_pos h0, if_neg h]
    unfold rL
    rw [e]
  · have e : rLen s = (0, (rU s).2.1, []) := by unfold rLen; rw [if_neg h0]
    unfold rL
    rw [e, if_neg h0, if_neg h0]

set_option maxRecDepth 100000 in
set_option maxHeartbeats 2000000 in
theorem r_list_i (p : Nat) (Q : Nat → Prop) (s : St) (hlen : s.2.length ≤ 1000000) (w : World) (h : Rr w p Q s) :
    Calls Try.prog 48 #[.pointer (some ⟨p, 0, none⟩), .func (.func 49) #[.pointer (some ⟨p, 0, none⟩)] #[]] w fun x W =>
      ∃ v, x = .returned v ∧ W.ownsRow w.heap.size 3 1 v (rL s).1.length ((rL s).1.map iv) ∧ Rr W p Q (rL s).2 ∧ w.grownBy W (some p) := by
  obtain ⟨i0, hi, hz0, hz1, hz2⟩ := info_parts infoI
  have hV := rU_lt s
  have hl1 := rU_len s
  have herr := rU_err s
  obtain ⟨⟨V, s1⟩, hVs⟩ : ∃ r, r = rU s := ⟨_, rfl⟩
  have HV := Lib.hid hVs
  have hu := r_uint p Q s w h
  rw [← hVs] at hV hl1 herr hu
  simp only at hV hl1 herr hu
  clear hVs
  go_enter Try.func48, Try.ntmps48
  go_wp2_with fail
  refine hu.mono ?_
  rintro e w1 ⟨rfl, hR, hG⟩
  obtain ⟨h1, h2, A, n, c, hb, hr, h3, h4⟩ := hR
  have hn : s1.2.length = n := by simpa using hr.1
  have c0 := hb.cell0
  have hplt := hb.lt
  unfold maxLen at h4
  by_cases hlt : n < V
  · have hs0 : s1.1 = 0 := by
      by_cases h : s1.1 = 0
      · exact h
      · have := (herr h).1; omega
    have hRr : rL s = ([], 3, []) := rL_big s (by rw [← HV.out]; exact hs0) (by rw [← HV.out]; simp only; omega)
    have hR0 : Rr w1 p Q (0, s1.2) := ⟨h1, fun h => absurd rfl h, A, n, c, by rw [hs0] at hb; exact hb, hr, h3, by unfold maxLen; omega⟩
    have HRR := Lib.hid hRr
    clear herr hRr hb hr h1 h2 hs0 hn
    go_wp2_with fail
    refine (r_fail p Q _ 3 _ rfl w1 hR0).mono ?_
    rintro e w2 ⟨rfl, hR2, hG2⟩
    go_wp2_with fail
    go_ret
    rw [HRR.out]
    exact ⟨_, rfl, World.ownsRow_nil _ _ _ _, hR2, grown_trans hG hG2⟩
  · have hRl : rL s = if s1.1 = 0 then rN V s1.2 else ([], s1.1, []) := by rw [rL_ok s (by rw [← HV.out]; simp only; omega), ← HV.out]
    have HRR := Lib.hid hRl
    have HERR := Lib.hid herr
    have HNL := Lib.hid hn
    have hR0 : Rr w1 p Q s1 := ⟨h1, h2, A, n, c, hb, hr, h3, by unfold maxLen; omega⟩
    clear herr hRl hb hr h2
    have hVn : V ≤ 1000000 := by omega
    clear hn
    go_wp2_with (at_make; refine wpList_make_full _ rfl _ _ 23 rfl w.heap.size 3 i0 (.int .i64 0) 1 Try.underlying23 hi hz0 hz1 .u64 .u64 _ _ V rfl rfl rfl rfl (by rw [hz2]; omega) (by unfold maxLen; omega) hG.size ?_; intro w2 hown hgrow)
    go_loopw [24] (fun ix wr => ∃ (k m : Nat) (pre : List Int) (bs : List UInt8), V = k + m ∧ pre.length = k ∧ ix = .int .i64 k ∧ LinkN V s1.2 m pre bs ∧ Rr wr p Q (s1.1, bs) ∧ wr.ownsRow w.heap.size 3 1 (.slice (some ⟨w1.heap.size, 0, none⟩) V V) V (pre.map iv ++ List.replicate m (.int .i64 0)) ∧ w1.grownBy wr (some p)) (fun ix _ => V - (intOf ix).toNat)
    case atStart =>
      refine ⟨0, V, [], s1.2, by omega, rfl, rfl, LinkN.start _ _, ?_, own_cast hown rfl ?_, hgrow.mono_row⟩
      · exact hR0.grown (p := p) (q := w1.heap.size) (hgrow.mono_row) (fun k hk => by have := (h1 k hk).1; omega) (by omega)
      · show (madeCells #[Value.int .i64 0] (V * 1)).toList = _
        rw [Nat.mul_one, toList_madeCells_one]; simp
    case round =>
      obtain ⟨k, m, pre, bs, hkm, hpl, rfl, hL, hRk, hok, hGk⟩ := hrel
      have HPL := Lib.hid hpl
      clear hpl
      cases m with
      | succ m =>
        have hs0 : s1.1 = 0 := by
          by_cases h : s1.1 = 0
          · exact h
          · have := (HERR.out h).1; omega
        rw [hs0] at hRk
        have HS0 := Lib.hid hs0
        have HKM := Lib.hid hkm
        have hkV : k < V := by omega
        clear hs0 hkm
        have er : (rI (0, bs)).2 = ((ru 0 bs).1, (ru 0 bs).2.2) := rfl
        obtain ⟨u, hu⟩ : ∃ u, u = (rI (0, bs)).1 := ⟨_, rfl⟩
        have hint := r_int p Q (0, bs) wr hRk
        rw [er, ← hu] at hint
        have HU := Lib.hid hu
        clear er hu
        by_cases he : (ru 0 bs).1 = 0
        · rw [he] at hint
          have HL := Lib.hid (hL.ok he)
          clear he
          go_wp2_with fail
          refine hint.mono ?_
          rintro e w3 ⟨rfl, hR3, hG3⟩
          have ho3 := hok.kept hG3 (.inr (by simp [Value.ownBlock]; omega))
          have hfz := ho3.frozenAt k
          have hcl : w3.cell? ⟨w1.heap.size, k, none⟩ = some (.int .i64 0) := by
            rw [ho3.cellAt k (by omega), get_mid _ _ _ _ (by rw [List.length_map, HPL.out])]
          have hR4 : Rr (w3.setCell ⟨w1.heap.size, k, none⟩ (.int .i64 u)) p Q (0, (ru 0 bs).2.2) := hR3.grown (grown_set _ _ _ _) (fun k' hk' => by have := (h1 k' hk').1; omega) (by omega)
          have c1 := hR4.cell1
          have ho4 := (ho3.stored k (.int .i64 u)).1
          rw [set_mid _ _ _ _ _ (by rw [List.length_map, HPL.out])] at ho4
          have hG4 := grown_fresh (grown_trans hGk hG3) (grown_set w3 w1.heap.size k (.int .i64 u)) (Nat.le_refl _)
          go_wp2_with fail
          go_roundw
          case rel =>
            refine ⟨k + 1, m, pre ++ [u], _, by rw [HKM.out]; omega, by rw [List.length_append, HPL.out]; rfl, by go_num, by rw [HU.out]; exact HL.out, by rw [HS0.out]; exact hR4, own_cast ho4 rfl ?_, hG4⟩
            rw [List.map_append]
            rfl
          case measure => simp [intOf]; omega
        · have HL := Lib.hid (hL.err he)
          have HE := Lib.hid he
          have hd : ((((ru 0 bs).1 : Nat) : Int) != 0) = true := by simp; omega
          have hr0 : (ru 0 bs).2.2 = [] := (ru_err_n bs 0 he).2
          rw [hr0] at hint
          clear he hr0
          go_wp2_with fail
          refine hint.mono ?_
          rintro e w3 ⟨rfl, hR3, hG3⟩
          have ho3 := hok.kept hG3 (.inr (by simp [Value.ownBlock]; omega))
          have hfz := ho3.frozenAt k
          have hcl : w3.cell? ⟨w1.heap.size, k, none⟩ = some (.int .i64 0) := by
            rw [ho3.cellAt k (by omega), get_mid _ _ _ _ (by rw [List.length_map, HPL.out])]
          have hR4 : Rr (w3.setCell ⟨w1.heap.size, k, none⟩ (.int .i64 u)) p Q ((ru 0 bs).1, []) := hR3.grown (grown_set _ _ _ _) (fun k' hk' => by have := (h1 k' hk').1; omega) (by omega)
          have c1 := hR4.cell1
          have hG4 := grown_fresh (grown_trans hGk hG3) (grown_set w3 w1.heap.size k (.int .i64 u)) (Nat.le_refl _)
          go_wp2_with fail
          go_ret
          rw [HRR.out, if_pos HS0.out, HL.out]
          exact ⟨_, rfl, World.ownsRow_nil _ _ _ _, hR4, grown_trans hG hG4⟩
      | zero =>
        obtain rfl : V = k := by omega
        have HL := Lib.hid hL.fin
        clear hL hkm
        go_wp2_with fail
        go_ret
        rw [HRR.out]
        by_cases hs0 : s1.1 = 0
        · rw [if_pos hs0, HL.out]
          rw [hs0] at hRk
          exact ⟨_, rfl, own_cast hok HPL.out.symm (by simp), hRk, grown_trans hG hGk⟩
        · rw [if_neg hs0]
          have h0 : V = 0 := (HERR.out hs0).1
          subst h0
          have hbs := hRk.err hs0
          have hb0 : bs = [] := congrArg Prod.snd hbs
          have hp0 : pre = [] := List.eq_nil_of_length_eq_zero HPL.out
          subst hb0 hp0
          exact ⟨_, rfl, own_cast hok rfl (by simp), hRk, grown_trans hG hGk⟩

end Go.Proofs.Ytedjmpifkgonhaa
