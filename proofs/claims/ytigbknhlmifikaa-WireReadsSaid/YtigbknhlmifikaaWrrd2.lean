/- What the reader of the reference model does, the rest. -/
import Derived.Test.YtigbknhlmifikaaWrrd
import Derived.Test.YtigbknhlmifikaaWone
namespace Go.Proofs.Ytigbknhlmifikaa
open Go.RowKit Hb Wm

theorem Mr.cell1 {W : World} {p : Nat} {Q : Nat → Prop} {s : St} (h : Mr W p Q s) : W.cell? ⟨p, 1, none⟩ = some (.int .i64 (s.1 : Int)) := by obtain ⟨_, _, _, _, _, hb, _⟩ := h; exact hb.cell1
theorem grown_row {a b c : World} {r row : Option Nat} (h : a.grownBy b r) (k : b.grownBy c row) (hg : ∀ k, row = some k → a.heap.size ≤ k) : a.grownBy c r :=
  ⟨k.os.trans h.os, k.tape.trans h.tape, k.output.trans h.output, Nat.le_trans h.size k.size, fun i hi hr => (k.block i (Nat.lt_of_lt_of_le hi h.size) (fun e => by have := hg i e.symm; omega)).trans (h.block i hi hr)⟩
theorem Mr.row {W W' : World} {p : Nat} {Q : Nat → Prop} {s : St} {row : Option Nat} (h : Mr W p Q s) (hg : W.grownBy W' row) (hr : ∀ k, row = some k → ¬ Q k ∧ k ≠ p) : Mr W' p Q s := by
  cases row with
  | none => exact h.below ⟨hg.os, hg.tape, hg.output, hg.size, fun k hk => hg.block k hk (by simp)⟩ (Nat.le_refl _)
  | some q => exact h.grown hg (fun k hk e => (hr q rfl).1 (e ▸ hk)) (fun e => (hr q rfl).2 e.symm)

set_option maxRecDepth 100000 in
set_option maxHeartbeats 1000000 in
theorem m_uint_no (q : Nat) (Q : Nat → Prop) (e : Nat) (he : e ≠ 0) (w : World) (h : Mr w q Q (e, [])) :
    Calls Try.prog 49 #[.pointer (some ⟨q, 0, none⟩)] w fun x W => x = .returned (.int .u64 0) ∧ w = W := by
  have d1 := h.cell1
  have hlt := h.lt
  have hd : (((e : Nat) : Int) == 0) = false := beq_eq_false_iff_ne.2 (by omega)
  simp only at d1
  go_enter Try.func49, Try.ntmps49
  go_wp2_with fail
  go_loop [3, 4, 5] (fun nv uv ix => nv = .int .u64 0 ∧ uv = .int .u64 1 ∧ ix = .int .i64 0) (fun _ _ _ => 0)
  case atStart => exact ⟨rfl, rfl, rfl⟩
  case round =>
    obtain ⟨rfl, rfl, rfl⟩ := hrel
    go_wp2_with fail
    go_ret
    exact ⟨rfl, rfl⟩
theorem m_uint (q : Nat) (Q : Nat → Prop) (s : St) (hlen : s.2.length ≤ 100000000) (w : World) (h : Mr w q Q s) :
    Calls Try.prog 49 #[.pointer (some ⟨q, 0, none⟩)] w fun x W => x = .returned (.int .u64 ((rU s).1 : Nat)) ∧ Mr W q Q (rU s).2 ∧ w.grownBy W (some q) := by
  by_cases h0 : s.1 = 0
  · obtain ⟨e, bs⟩ := s
    obtain rfl : e = 0 := h0
    exact m_uint_ok q Q bs hlen w h
  · have hs := h.err h0
    obtain ⟨e, bs⟩ := s
    obtain rfl : bs = [] := by simpa using congrArg Prod.snd hs
    refine (m_uint_no q Q e h0 w h).mono ?_
    rintro x W ⟨rfl, rfl⟩
    have : rU (e, []) = (0, e, []) := by unfold rU; rw [if_neg h0]
    rw [this]
    exact ⟨rfl, h, grown_refl _ _⟩

set_option maxRecDepth 100000 in
set_option maxHeartbeats 1000000 in
theorem m_int (q : Nat) (Q : Nat → Prop) (s : St) (hlen : s.2.length ≤ 100000000) (w : World) (h : Mr w q Q s) :
    Calls Try.prog 50 #[.pointer (some ⟨q, 0, none⟩)] w fun x W => x = .returned (.int .i64 (rI s).1) ∧ Mr W q Q (rI s).2 ∧ w.grownBy W (some q) := by
  have hz := rU_lt s
  have e1 : (rI s).1 = unzz (rU s).1 := rfl
  have e2 : (rI s).2 = (rU s).2 := rfl
  rw [e1, e2]
  clear e1 e2
  go_enter Try.func50, Try.ntmps50
  go_wp2_with fail
  refine (m_uint q Q s hlen w h).mono ?_
  rintro e W ⟨rfl, hR, hG⟩
  go_wp2_with fail
  refine (rback_any _ hz W).mono ?_
  rintro e W2 ⟨rfl, rfl⟩
  go_wp2_with fail
  go_ret
  exact ⟨rfl, hR, hG⟩

set_option maxRecDepth 100000 in
set_option maxHeartbeats 1000000 in
theorem m_bool (q : Nat) (Q : Nat → Prop) (s : St) (w : World) (h : Mr w q Q s) :
    Calls Try.prog 51 #[.pointer (some ⟨q, 0, none⟩)] w fun x W => x = .returned (.bool (rB s).1) ∧ Mr W q Q (rB s).2 ∧ w.grownBy W (some q) := by
  have hM := h
  by_cases h0 : s.1 = 0
  · obtain ⟨e, bs⟩ := s
    obtain rfl : e = 0 := h0
    obtain ⟨h1, h2, A, n, c, hb, hn, hc, hr⟩ := h
    have hr0 := hr rfl
    have d0 := hb.cell0
    have d1 : w.cell? ⟨q, 1, none⟩ = some (.int .i64 0) := hb.cell1
    have f0 := hb.fz0
    have f1 := hb.fz1
    have hlt := hb.lt
    unfold maxLen at hc
    clear hr h2
    cases bs with
    | nil =>
      obtain rfl : n = 0 := by simpa using hr0.1.symm
      have c1' : (w.setCell ⟨q, 1, none⟩ (.int .i64 3)).cell? ⟨q, 1, none⟩ = some (.int .i64 3) := (hb.set1 _).cell1
      clear hr0
      go_enter Try.func51, Try.ntmps51
      go_wp2_with fail
      go_ret
      exact ⟨rfl, hM.seterr 3 (by decide), grown_set _ _ _ _⟩
    | cons ch cs =>
      obtain ⟨m, rfl⟩ : ∃ m, n = m + 1 := ⟨cs.length, by simpa using hr0.1.symm⟩
      obtain ⟨a, rfl, ha⟩ := Rq.head (x := bv ch) (xs := cs.map bv) hr0
      unfold bv at ha
      have HR0 := Lib.hid hr0
      clear hr0
      have hpos : 0 < m + 1 := by omega
      by_cases hc1 : 1 < ch.toNat
      · have e : rB (0, ch :: cs) = (false, 2, []) := by unfold rB; simp [hc1]
        rw [e]
        clear e
        have c1' : (w.setCell ⟨q, 1, none⟩ (.int .i64 2)).cell? ⟨q, 1, none⟩ = some (.int .i64 2) := (hb.set1 _).cell1
        go_enter Try.func51, Try.ntmps51
        go_wp2_with fail
        go_ret
        exact ⟨rfl, hM.seterr 2 (by decide), grown_set _ _ _ _⟩
      · have e : rB (0, ch :: cs) = (decide (ch.toNat = 1), 0, cs) := by unfold rB; simp [hc1]
        rw [e]
        clear e
        have hne : ((ch.toNat : Int) == 1) = decide (ch.toNat = 1) := by
          rw [Bool.eq_iff_iff]; simp; omega
        have HN := Lib.hid hne
        have hqs := fun A' hA' => Mr.setrest (A := some a) h1 hb HR0.out hn (by unfold maxLen; omega) 1 (by omega) A' hA'
        have HQS := Lib.hid hqs
        clear hne hqs
        by_cases hci : c = 1
        · subst hci
          go_enter Try.func51, Try.ntmps51
          go_wp2_with fail
          go_ret
          refine ⟨ret_bool HN.out, ?_, grown_set _ _ _ _⟩
          have := HQS.out (some a) (.inr (by omega))
          obtain rfl : m = 0 := by omega
          exact this
        · go_enter Try.func51, Try.ntmps51
          go_wp2_with fail
          go_ret
          exact ⟨ret_bool HN.out, HQS.out _ (.inl rfl), grown_set _ _ _ _⟩
  · have hs := h.err h0
    obtain ⟨e, bs⟩ := s
    obtain rfl : bs = [] := by simpa using congrArg Prod.snd hs
    have h0' : e ≠ 0 := h0
    have e1 : rB (e, []) = (false, e, []) := by unfold rB; simp [h0']
    rw [e1]
    have d1 := h.cell1
    have hlt := h.lt
    have hd : (((e : Nat) : Int) == 0) = false := beq_eq_false_iff_ne.2 (by omega)
    simp only at d1
    clear e1 hs
    go_enter Try.func51, Try.ntmps51
    go_wp2_with fail
    go_ret
    exact ⟨rfl, hM, grown_refl _ _⟩

set_option maxRecDepth 100000 in
set_option maxHeartbeats 1000000 in
theorem m_len (q : Nat) (Q : Nat → Prop) (s : St) (hlen : s.2.length ≤ 100000000) (w : World) (h : Mr w q Q s) :
    Calls Try.prog 62 #[.pointer (some ⟨q, 0, none⟩)] w fun x W => x = .returned (.int .i64 ((rLen s).1 : Nat)) ∧ Mr W q Q (rLen s).2 ∧ w.grownBy W (some q) := by
  have hV := rU_lt s
  have hl1 := rU_len s
  have herr := rU_err s
  have hdef0 : rLen s = if (rU s).2.1 = 0 then (if (rU s).2.2.length < (rU s).1 then (0, 3, []) else rU s) else (0, (rU s).2.1, []) := rfl
  have HRL := Lib.hid hdef0
  clear hdef0
  have hu := m_uint q Q s hlen w h
  obtain ⟨L, hL⟩ : ∃ L, L = rLen s := ⟨_, rfl⟩
  rw [← hL]
  obtain ⟨⟨V, s1⟩, hVs⟩ : ∃ r, r = rU s := ⟨_, rfl⟩
  have HRL2 := HRL.out
  rw [← hVs, ← hL] at HRL2
  rw [← hVs] at hV hl1 herr hu
  simp only at hV hl1 herr hu HRL2
  have HHL := Lib.hid HRL2
  clear hVs hL HRL HRL2
  by_cases h0 : s1.1 = 0
  · by_cases hlt : s1.2.length < V
    · have e := HHL.out
      rw [if_pos h0, if_pos hlt] at e
      rw [e]
      clear e
      obtain ⟨e1, bs⟩ := s1
      obtain rfl : e1 = 0 := h0
      simp only at *
      clear herr
      go_enter Try.func62, Try.ntmps62
      go_wp2_with fail
      refine hu.mono ?_
      rintro e W ⟨rfl, hM, hG⟩
      have hM2 := hM
      obtain ⟨h1, h2, A, n, c, hb, hn, hc, hr⟩ := hM
      have hnl : bs.length = n := by simpa using (hr rfl).1
      have d0 := hb.cell0
      have d1 : W.cell? ⟨q, 1, none⟩ = some (.int .i64 0) := hb.cell1
      have f1 := hb.fz1
      have hql := hb.lt
      have hnV : n < V := by omega
      have hn8 : n ≤ 100000000 := by omega
      have c1' : (W.setCell ⟨q, 1, none⟩ (.int .i64 3)).cell? ⟨q, 1, none⟩ = some (.int .i64 3) := (hb.set1 _).cell1
      clear hr h2 hnl hlt
      go_wp2_with fail
      go_ret
      exact ⟨rfl, hM2.seterr 3 (by decide), grown_trans hG (grown_set _ _ _ _)⟩
    · have e := HHL.out
      rw [if_pos h0, if_neg hlt] at e
      rw [e]
      clear e
      obtain ⟨e1, bs⟩ := s1
      obtain rfl : e1 = 0 := h0
      simp only at *
      clear herr
      go_enter Try.func62, Try.ntmps62
      go_wp2_with fail
      refine hu.mono ?_
      rintro e W ⟨rfl, hM, hG⟩
      have hM2 := hM
      obtain ⟨h1, h2, A, n, c, hb, hn, hc, hr⟩ := hM
      have hnl : bs.length = n := by simpa using (hr rfl).1
      have d0 := hb.cell0
      have d1 : W.cell? ⟨q, 1, none⟩ = some (.int .i64 0) := hb.cell1
      have hql := hb.lt
      have hnV : V ≤ n := by omega
      have hn8 : n ≤ 100000000 := by omega
      clear hr h2 hnl hlt
      go_wp2_with fail
      go_ret
      exact ⟨rfl, hM2, hG⟩
  · have e := HHL.out
    rw [if_neg h0] at e
    rw [e]
    clear e
    have hd : (((s1.1 : Nat) : Int) == 0) = false := beq_eq_false_iff_ne.2 (by omega)
    have hd2 : (((s1.1 : Nat) : Int) != 0) = true := bne_iff_ne.2 (by omega)
    have hs1 : s1 = (s1.1, []) := Prod.ext rfl (herr h0).2
    have HS1 := Lib.hid hs1
    clear herr hs1
    go_enter Try.func62, Try.ntmps62
    go_wp2_with fail
    refine hu.mono ?_
    rintro e W ⟨rfl, hM, hG⟩
    have d1 := hM.cell1
    have hql := hM.lt
    go_wp2_with fail
    go_ret
    exact ⟨rfl, by rw [← HS1.out]; exact hM, hG⟩

theorem Hb.Rq.taken {w : World} {Q : Nat → Prop} {A : Option Addr} {n : Nat} {xs : List Value} (h : Rq w Q A n xs) (k : Nat) (hk : k ≤ n) : Rq w Q A k (xs.take k) := by
  refine ⟨by simp [h.1]; omega, fun h0 => ?_⟩
  obtain ⟨a, e, hb, hc⟩ := h.2 (by omega)
  refine ⟨a, e, hb, fun j u hu => ?_⟩
  rw [List.getElem?_take] at hu
  split at hu
  · exact hc j u hu
  · cases hu

set_option maxRecDepth 100000 in
set_option maxHeartbeats 2000000 in
theorem m_raw (q : Nat) (Q : Nat → Prop) (s : St) (hlen : s.2.length ≤ 100000000) (w : World) (h : Mr w q Q s) :
    Calls Try.prog 52 #[.pointer (some ⟨q, 0, none⟩)] w fun x W => ∃ A' c', x = .returned (.slice A' (rR s).1.length c') ∧ Rq W Q A' (rR s).1.length ((rR s).1.map bv) ∧ (rR s).1.length ≤ c' ∧ c' ≤ maxLen ∧ Mr W q Q (rR s).2 ∧ w.grownBy W (some q) := by
  have hle := rLen_le s
  have hdef0 : rR s = if (rLen s).2.1 = 0 then ((rLen s).2.2.take (rLen s).1, 0, (rLen s).2.2.drop (rLen s).1) else ([], (rLen s).2.1, []) := rfl
  have HRR := Lib.hid hdef0
  clear hdef0
  have hu := m_len q Q s hlen w h
  have hl1 : (rLen s).2.2.length ≤ s.2.length := by
    have := rU_len s
    unfold rLen
    split
    · split
      · simp
      · exact this
    · simp
  obtain ⟨L, hL⟩ : ∃ L, L = rR s := ⟨_, rfl⟩
  rw [← hL]
  obtain ⟨⟨V, s1⟩, hVs⟩ : ∃ r, r = rLen s := ⟨_, rfl⟩
  have HRR2 := HRR.out
  rw [← hVs, ← hL] at HRR2
  rw [← hVs] at hle hu hl1
  simp only at hle hu HRR2 hl1
  have HHL := Lib.hid HRR2
  clear hVs hL HRR HRR2
  by_cases h0 : s1.1 = 0
  · have e := HHL.out
    rw [if_pos h0] at e
    rw [e]
    clear e
    have hVl := hle h0
    obtain ⟨e1, bs⟩ := s1
    obtain rfl : e1 = 0 := h0
    simp only at *
    have htl : (bs.take V).length = V := by rw [List.length_take]; omega
    rw [htl]
    have hV8 : V ≤ 100000000 := by omega
    clear hle htl
    go_enter Try.func52, Try.ntmps52
    go_wp2_with fail
    refine hu.mono ?_
    rintro e W ⟨rfl, hM, hG⟩
    obtain ⟨h1, h2, A, n, c, hb, hn, hc, hr⟩ := hM
    have hr0 := hr rfl
    have hnl : bs.length = n := by simpa using hr0.1
    have d0 := hb.cell0
    have d1 : W.cell? ⟨q, 1, none⟩ = some (.int .i64 0) := hb.cell1
    have f0 := hb.fz0
    have hql := hb.lt
    have hVn : V ≤ n := by omega
    have hn8 : n ≤ 100000000 := by omega
    have HT := Lib.hid (hr0.taken V hVn)
    have hqs := fun A' hA' => Mr.setrest (A := A) h1 hb hr0 hn hc V hVn A' hA'
    have HQS := Lib.hid hqs
    have H1 := Lib.hid h1
    have HNL := Lib.hid hnl
    have hVc : V ≤ c := by omega
    unfold maxLen at hc
    clear hr h2 hnl hqs hr0 h1 hVl hl1
    by_cases hci : c = V
    · subst hci
      obtain rfl : n = c := by omega
      go_wp2_with fail
      go_ret
      refine ⟨A, n, rfl, ?_, Nat.le_refl _, by unfold maxLen; omega, ?_, grown_trans hG (grown_set _ _ _ _)⟩
      · have := HT.out.grown (grown_set W q 0 (.slice A 0 0)) H1.out
        rwa [← List.map_take] at this
      · have := HQS.out A (.inr (by omega))
        simpa using this
    · go_wp2_with fail
      go_ret
      refine ⟨A, c, rfl, ?_, hVc, by unfold maxLen; omega, HQS.out _ (.inl rfl), grown_trans hG (grown_set _ _ _ _)⟩
      have := HT.out.grown (grown_set W q 0 (.slice (A.map (·.add V)) (n - V) (c - V))) H1.out
      rwa [← List.map_take] at this
  · have e := HHL.out
    rw [if_neg h0] at e
    rw [e]
    clear e
    have hd2 : (((s1.1 : Nat) : Int) != 0) = true := bne_iff_ne.2 (by omega)
    clear hle hl1
    go_enter Try.func52, Try.ntmps52
    go_wp2_with fail
    refine hu.mono ?_
    rintro e W ⟨rfl, hM, hG⟩
    have d1 := hM.cell1
    have hql := hM.lt
    have HS1 := Lib.hid (hM.err h0)
    go_wp2_with fail
    go_ret
    exact ⟨none, 0, rfl, Rq.nil _ _ _, Nat.le_refl _, Nat.zero_le _, by rw [← HS1.out]; exact hM, hG⟩

set_option maxRecDepth 100000 in
set_option maxHeartbeats 2000000 in
theorem m_ints (q : Nat) (Q : Nat → Prop) (s : St) (hlen : s.2.length ≤ 1000000) (w : World) (h : Mr w q Q s) :
    Calls Try.prog 53 #[.pointer (some ⟨q, 0, none⟩)] w fun x W => ∃ v, x = .returned v ∧ W.ownsRow w.heap.size 3 1 v (rL s).1.length ((rL s).1.map iv) ∧ Mr W q Q (rL s).2 ∧ w.grownBy W (some q) := by
  obtain ⟨i0, hi, hz0, hz1, hz2⟩ := info_parts infoI
  have hQ0 := fun k hk => (h.1 k hk).1
  have hql := h.lt
  have hle := rLen_le s
  have hdef0 : rL s = if (rLen s).2.1 = 0 then rN (rLen s).1 (rLen s).2.2 else ([], (rLen s).2.1, []) := rfl
  have HRR := Lib.hid hdef0
  clear hdef0
  have hu := m_len q Q s (by omega) w h
  have hl1 : (rLen s).2.2.length ≤ s.2.length := by
    have := rU_len s
    unfold rLen
    split
    · split
      · simp
      · exact this
    · simp
  have hV0 : (rLen s).2.1 ≠ 0 → (rLen s).1 = 0 := by
    unfold rLen
    by_cases a : (rU s).2.1 = 0
    · rw [if_pos a]
      by_cases b : (rU s).2.2.length < (rU s).1
      · rw [if_pos b]; exact fun _ => rfl
      · rw [if_neg b]; exact fun hx => absurd a hx
    · rw [if_neg a]; exact fun _ => rfl
  obtain ⟨L, hL⟩ : ∃ L, L = rL s := ⟨_, rfl⟩
  rw [← hL]
  obtain ⟨⟨V, s1⟩, hVs⟩ : ∃ r, r = rLen s := ⟨_, rfl⟩
  have HRR2 := HRR.out
  rw [← hVs, ← hL] at HRR2
  rw [← hVs] at hle hu hl1 hV0
  simp only at hle hu HRR2 hl1 hV0
  have HHL := Lib.hid HRR2
  have HQ0 := Lib.hid hQ0
  have hV6 : V ≤ 1000000 := by
    by_cases hx : s1.1 = 0
    · have := hle hx; omega
    · have := hV0 hx; omega
  have HV0 := Lib.hid hV0
  clear hVs hL HRR HRR2 hle hQ0 hV0
  go_enter Try.func53, Try.ntmps53
  go_wp2_with fail
  refine hu.mono ?_
  rintro e w1 ⟨rfl, hM, hG⟩
  go_wp2_with fail
  go_loopw [4, 5] (fun v ix wr => ∃ (k : Nat) (pre : List Int) (st : St), k ≤ V ∧ ix = .int .i64 k ∧ pre.length = k ∧ wr.ownsRow w.heap.size 3 1 v k (pre.map iv) ∧ Mr wr q Q st ∧ w.grownBy wr (some q) ∧ st.2.length ≤ 1000000 ∧
    ((st.1 = 0 ∧ s1.1 = 0 ∧ LinkN V s1.2 (V - k) pre st.2) ∨ (st.1 ≠ 0 ∧ L = ([], st.1, [])))) (fun _ ix _ => V - (intOf ix).toNat)
  case atStart =>
    refine ⟨0, [], s1, Nat.zero_le _, rfl, rfl, World.ownsRow_nil _ _ _ _, hM, hG, by omega, ?_⟩
    by_cases hx : s1.1 = 0
    · exact .inl ⟨hx, hx, LinkN.start _ _⟩
    · exact .inr ⟨hx, by rw [HHL.out, if_neg hx]⟩
  case round =>
    obtain ⟨k, pre, st, hk, rfl, hpl, hown, hMr, hGr, hstl, hlink⟩ := hrel
    have HPL := Lib.hid hpl
    have HLK := Lib.hid hlink
    have d1 := hMr.cell1
    have hqr := hMr.lt
    have hsz := hGr.size
    clear hpl hlink
    by_cases hkV : k < V
    · by_cases hx : st.1 = 0
      · have hlk : s1.1 = 0 ∧ LinkN V s1.2 (V - k) pre st.2 := by
          rcases HLK.out with ⟨_, h⟩ | ⟨h, _⟩
          · exact h
          · exact absurd hx h
        obtain ⟨hs10, hlk⟩ := hlk
        obtain ⟨e1, bs⟩ := st
        obtain rfl : e1 = 0 := hx
        simp only at hlk hstl
        obtain ⟨m, hm⟩ : ∃ m, V - k = m + 1 := ⟨V - k - 1, by omega⟩
        rw [hm] at hlk
        have HM := Lib.hid hm
        have hd1 : wr.cell? ⟨q, 1, none⟩ = some (.int .i64 0) := d1
        have hint := m_int q Q (0, bs) (by simp only; omega) wr hMr
        have er : (rI (0, bs)).2 = ((ru 0 bs).1, (ru 0 bs).2.2) := rfl
        rw [er] at hint
        obtain ⟨u, hu1⟩ : ∃ u, u = (rI (0, bs)).1 := ⟨_, rfl⟩
        rw [← hu1] at hint
        have hrl : (ru 0 bs).2.2.length ≤ 1000000 := by
          have := rU_len (0, bs)
          have e5 : (rU (0, bs)).2.2 = (ru 0 bs).2.2 := rfl
          rw [e5] at this
          simp only at this
          omega
        have hnew : ((ru 0 bs).1 = 0 ∧ s1.1 = 0 ∧ LinkN V s1.2 (V - (k + 1)) (pre ++ [u]) (ru 0 bs).2.2) ∨ ((ru 0 bs).1 ≠ 0 ∧ L = ([], (ru 0 bs).1, [])) := by
          by_cases hy : (ru 0 bs).1 = 0
          · refine .inl ⟨hy, hs10, ?_⟩
            rw [show V - (k + 1) = m from by omega, hu1]
            exact hlk.ok hy
          · refine .inr ⟨hy, ?_⟩
            rw [HHL.out, if_pos hs10]
            exact hlk.err hy
        have HNEW := Lib.hid hnew
        have HINT := Lib.hid hint
        clear hm hu1 er hlk hnew hint d1 hs10
        obtain ⟨A, c, rfl⟩ := own_form hown
        go_wp2_with fail
        refine HINT.out.mono ?_
        rintro e w3 ⟨rfl, hM3, hG3⟩
        have hown3 := hown.kept hG3 (.inr (fun e => by have := (hown.lt q e).1; omega))
        have hG13 := grown_trans hGr hG3
        have z3 := hG13.size
        go_wp2_with (at_builtin; refine wpList_append_own _ rfl _ _ 22 rfl w.heap.size 3 i0 (.int .i64 0) 1 8 Try.underlying22 hi hz0 hz1 hz2 rfl (by decide) (.slice A k c) k _ rfl (hown3.alloc _) ⟨w3.heap.size, 0, none⟩ 1 1 [.int .i64 u] rfl rfl (cell_one_new _ _ _) (by simp [Value.oneCell']) (by unfold maxLen; omega) (by omega) (by simp; omega) ?_; intro v' w4 hown' hgrow _)
        have hal := (Below.refl w3.heap.size w3).alloc (Nat.le_refl _) (.cells #[.int .i64 u] 3)
        have hrowlt : ∀ k', (Value.slice A k c).ownBlock = some k' → w.heap.size ≤ k' := fun k' hk' => (hown3.lt k' hk').1
        have hM4 := (hM3.below hal (Nat.le_refl _)).row hgrow (fun k' hk' => by
          have := hrowlt k' hk'
          exact ⟨fun hq => by have := HQ0.out k' hq; omega, by omega⟩)
        have hG4 := grown_row (grown_trans hG13 (grown_of_below hal _)) hgrow hrowlt
        go_roundw
        case rel => exact ⟨k + 1, pre ++ [u], _, by omega, by go_num, by rw [List.length_append, HPL.out]; rfl, own_cast hown' rfl (by rw [List.map_append]; rfl), hM4, hG4, hrl, HNEW.out⟩
        case measure => simp [intOf]; omega
      · have hd : (((st.1 : Nat) : Int) == 0) = false := beq_eq_false_iff_ne.2 (by omega)
        have hd2 : (((st.1 : Nat) : Int) != 0) = true := bne_iff_ne.2 (by omega)
        have HL := Lib.hid (show L = ([], st.1, []) from by
          rcases HLK.out with ⟨h, _⟩ | ⟨_, h⟩
          · exact absurd h hx
          · exact h)
        have HS1 := Lib.hid (hMr.err hx)
        go_wp2_with fail
        go_ret
        rw [HL.out]
        exact ⟨_, rfl, World.ownsRow_nil _ _ _ _, by rw [← HS1.out]; exact hMr, hGr⟩
    · obtain rfl : k = V := by omega
      by_cases hx : st.1 = 0
      · have hlk : s1.1 = 0 ∧ LinkN k s1.2 (k - k) pre st.2 := by
          rcases HLK.out with ⟨_, h⟩ | ⟨h, _⟩
          · exact h
          · exact absurd hx h
        obtain ⟨hs10, hlk⟩ := hlk
        rw [Nat.sub_self] at hlk
        have HL := Lib.hid (show L = (pre, 0, st.2) from by rw [HHL.out, if_pos hs10]; exact hlk.fin)
        obtain ⟨e1, bs⟩ := st
        obtain rfl : e1 = 0 := hx
        have hd1 : wr.cell? ⟨q, 1, none⟩ = some (.int .i64 0) := d1
        clear hlk hs10 d1
        go_wp2_with fail
        go_ret
        rw [HL.out]
        exact ⟨_, rfl, own_cast hown HPL.out.symm rfl, hMr, hGr⟩
      · have hd2 : (((st.1 : Nat) : Int) != 0) = true := bne_iff_ne.2 (by omega)
        have HL := Lib.hid (show L = ([], st.1, []) from by
          rcases HLK.out with ⟨h, _⟩ | ⟨_, h⟩
          · exact absurd h hx
          · exact h)
        have HS1 := Lib.hid (hMr.err hx)
        go_wp2_with fail
        go_ret
        rw [HL.out]
        exact ⟨_, rfl, World.ownsRow_nil _ _ _ _, by rw [← HS1.out]; exact hMr, hGr⟩

set_option maxRecDepth 100000 in
set_option maxHeartbeats 1000000 in
theorem m_end (p : Nat) (Q : Nat → Prop) (s : St) (w : World) (h : Mr w p Q s) :
    Calls Try.prog 25 #[.pointer (some ⟨p, 0, none⟩)] w fun x W => x = .returned (.int .i64 (endOf s : Nat)) ∧ w = W := by
  obtain ⟨h1, h2, A, n, c, hb, hn, hc, hr⟩ := h
  have c0 := hb.cell0
  have c1 := hb.cell1
  have hlt := hb.lt
  unfold maxLen at hc
  by_cases h0 : s.1 = 0
  · have hl : s.2.length = n := by simpa using (hr h0).1
    by_cases hn0 : 0 < n
    · have e : endOf s = 2 := by unfold endOf; rw [if_pos ⟨h0, by omega⟩]
      rw [e]
      rw [h0] at c1
      clear e h2 hl hb hr h0
      go_enter Try.func25, Try.ntmps25
      go_wp2
      go_ret
      exact ⟨rfl, rfl⟩
    · have e : endOf s = 0 := by unfold endOf; rw [if_neg (by omega), h0]
      rw [e]
      rw [h0] at c1
      clear e h2 hl hb hr h0
      go_enter Try.func25, Try.ntmps25
      go_wp2
      go_ret
      exact ⟨rfl, rfl⟩
  · have e : endOf s = s.1 := by unfold endOf; rw [if_neg (by omega)]
    rw [e]
    have hd : (((s.1 : Nat) : Int) == 0) = false := beq_eq_false_iff_ne.2 (by omega)
    clear e h2 hb hr h0
    go_enter Try.func25, Try.ntmps25
    go_wp2
    go_ret
    exact ⟨rfl, rfl⟩

end Go.Proofs.Ytigbknhlmifikaa
