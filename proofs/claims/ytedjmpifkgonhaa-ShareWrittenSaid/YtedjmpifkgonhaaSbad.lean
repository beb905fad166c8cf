/- Split of what is no total or no weights: an error, in the program and in the reference. -/
import Derived.Test.YtedjmpifkgonhaaSwts
namespace Go.Proofs.Ytedjmpifkgonhaa
open Go.RowKit Hb Sm Sx

def okSplit (t : Int) (l : List Int) : Bool := l.all isAm && decide (l.sum ≠ 0) && isAm t
theorem sum_range (l : List Int) (h : l.all isAm = true) : 0 ≤ l.sum ∧ l.sum ≤ l.length * 1099511627776 := by
  induction l with
  | nil => simp
  | cons x r ih =>
    simp only [List.all_cons, Bool.and_eq_true] at h
    have h1 := isAm_t h.1
    have h2 := ih h.2
    simp only [List.sum_cons, List.length_cons]
    omega
set_option maxHeartbeats 1000000 in
theorem split_bad (t : Int) (l : List Int) (n c : Nat) (A : Option Addr) (hn : n ≤ 8) (hbad : okSplit t l = false) (B : Nat) (w : World) (hr : Rd w B A n (l.map iv)) :
    Calls Try.prog 19 #[.int .i64 t, .slice A n c] w fun e w' => e = .returned (.tuple #[.slice none 0 0, .int .i64 1]) ∧ w = w' := by
  have cs := sum_of l n c A hn B w hr
  have ca := samount t w
  unfold okSplit at hbad
  cases hall : l.all isAm with
  | false =>
    rw [sumRes_f hall] at cs
    clear hbad hall hr
    go_enter Try.func19, Try.ntmps19
    go_wp2_with fail
    refine cs.mono ?_
    rintro e W ⟨rfl, rfl⟩
    go_wp2_with fail
    go_ret2
    exact ⟨rfl, rfl⟩
  | true =>
    rw [sumRes_t hall] at cs
    rw [hall] at hbad
    obtain ⟨S, hS⟩ : ∃ S, S = l.sum := ⟨_, rfl⟩
    rw [← hS] at cs hbad
    clear hall hr hS
    by_cases h0 : S = 0
    · subst h0
      clear hbad
      go_enter Try.func19, Try.ntmps19
      go_wp2_with fail
      refine cs.mono ?_
      rintro e W ⟨rfl, rfl⟩
      go_wp2_with fail
      go_ret2
      exact ⟨rfl, rfl⟩
    · have ht : isAm t = false := by simpa [h0] using hbad
      rw [ht] at ca
      have d1 : (S == 0) = false := by simpa using h0
      clear hbad h0 ht
      go_enter Try.func19, Try.ntmps19
      go_wp2_with fail
      refine cs.mono ?_
      rintro e W ⟨rfl, rfl⟩
      go_wp2_with fail
      refine ca.mono ?_
      rintro e W ⟨rfl, rfl⟩
      go_wp2_with fail
      go_ret2
      exact ⟨rfl, rfl⟩
set_option maxRecDepth 100000 in
set_option maxHeartbeats 1000000 in
theorem rsplit_bad (t : Int) (l : List Int) (n c : Nat) (A : Option Addr) (hn : n ≤ 8) (hbad : okSplit t l = false) (B : Nat) (w : World) (hr : Rd w B A n (l.map iv)) :
    Calls Try.prog 20 #[.int .i64 t, .slice A n c] w fun e w' => e = .returned (.tuple #[.slice none 0 0, .int .i64 1]) ∧ w = w' := by
  have ca := ramount t w
  have hl : l.length = n := by simpa using hr.1
  have HL := Lib.hid hl
  have HBAD := Lib.hid hbad
  clear hl hbad
  go_enter Try.func20, Try.ntmps20
  go_wp2
  go_loop [6, 7, 8] (fun sv ix _ => ∃ (k : Nat) (s : Int), k ≤ n ∧ sv = .int .i64 s ∧ ix = .int .i64 k ∧ 0 ≤ s ∧ s ≤ k * 1099511627776 ∧ Hid (s = (l.take k).sum ∧ (l.take k).all isAm = true)) (fun _ ix _ => n - (intOf ix).toNat)
  case atStart => exact ⟨0, 0, Nat.zero_le _, rfl, rfl, by omega, by omega, ⟨rfl, rfl⟩⟩
  case round =>
    obtain ⟨k, s, hk, rfl, rfl, hs0, hs1, H⟩ := hrel
    by_cases hlt : k < n
    · obtain ⟨a, rfl, hab, hc⟩ := Rd.int hr k hlt
      obtain ⟨x, hx⟩ : ∃ x, x = l.getD k 0 := ⟨_, rfl⟩
      rw [← hx] at hc
      have cc := ramount x w
      obtain ⟨b, hb⟩ : ∃ b, b = isAm x := ⟨_, rfl⟩
      rw [← hb] at cc
      have hn' : k < l.length := by rw [HL.out]; exact hlt
      have d2 : decide (s > 1152921504606846976) = false := decide_eq_false (by omega)
      cases b with
      | false =>
        clear hx hb ca
        go_wp2_with fail
        refine cc.mono ?_
        rintro e W ⟨rfl, rfl⟩
        go_wp2_with fail
        go_ret2
        exact ⟨rfl, rfl⟩
      | true =>
        have hx2 := isAm_t hb.symm
        have H2 := Lib.hid (show s + x = (l.take (k + 1)).sum ∧ (l.take (k + 1)).all isAm = true from by
          rw [take_snoc l 0 k hn', ← hx, sum_snoc, all_snoc, ← hb, H.out.2, ← H.out.1]
          exact ⟨rfl, rfl⟩)
        clear hx hb
        go_wp2_with fail
        refine cc.mono ?_
        rintro e W ⟨rfl, rfl⟩
        go_wp2_with fail
        go_round
        case rel => exact ⟨k + 1, s + x, by omega, by go_num, by go_num, by omega, by omega, H2⟩
        case measure => simp [intOf]; omega
    · have h2 : l.all isAm = true ∧ s = l.sum := by
        have h1 := H.out
        rw [List.take_of_length_le (by rw [HL.out]; omega)] at h1
        exact ⟨h1.2, h1.1⟩
      have hb := HBAD.out
      unfold okSplit at hb
      rw [h2.1, ← h2.2] at hb
      clear h2
      have d2 : decide (s > 1152921504606846976) = false := decide_eq_false (by omega)
      obtain ⟨b, hbt⟩ : ∃ b, b = isAm t := ⟨_, rfl⟩
      rw [← hbt] at ca hb
      cases b with
      | false =>
        clear hb hbt
        go_wp2_with fail
        refine ca.mono ?_
        rintro e W ⟨rfl, rfl⟩
        go_wp2_with fail
        go_ret2
        exact ⟨rfl, rfl⟩
      | true =>
        obtain rfl : s = 0 := by simpa using hb
        clear hb hbt
        go_wp2_with fail
        refine ca.mono ?_
        rintro e W ⟨rfl, rfl⟩
        go_wp2_with fail
        go_ret2
        exact ⟨rfl, rfl⟩
end Go.Proofs.Ytedjmpifkgonhaa
