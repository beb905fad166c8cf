/- The reference's Weights. -/
import Derived.Test.YtedjmpifkgonhaaSsplit
namespace Go.Proofs.Ytedjmpifkgonhaa
open Go.RowKit Hb Sm Sx

set_option maxRecDepth 100000 in
set_option maxHeartbeats 4000000 in
theorem weights_any (l : List Int) (n c : Nat) (A : Option Addr) (hz : ∀ y ∈ l, -9223372036854775808 ≤ y ∧ y ≤ 9223372036854775807) (w : World) (hr : Rd w w.heap.size A n (l.map iv)) :
    Calls Try.prog 18 #[.slice A n c] w fun e w' => ∃ (ws : List Nat) (m : Nat) (A' : Option Addr) (c' : Nat), e = .returned (.slice A' m c') ∧ m ≤ 7 ∧ m ≤ c' ∧ c' ≤ maxLen ∧ (∀ x ∈ ws, x ≤ 1099511627776) ∧ 0 < ws.sum ∧ Rd w' w'.heap.size A' m (ws.map nv) ∧ Below w.heap.size w w' := by
  obtain ⟨i0, hi, hz0, hz1, hz2⟩ := info_parts infoI
  have hl : l.length = n := by simpa using hr.1

  have HL := Lib.hid hl
  have HZ := Lib.hid hz
  clear hl hz
  go_enter Try.func18, Try.ntmps18
  go_wp2
  go_loopw [3, 4, 5] (fun ov ix _ wr => ∃ (k : Nat) (ws : List Nat) (A1 : Option Addr) (c1 : Nat), k ≤ n ∧ k ≤ 6 ∧ ix = .int .i64 k ∧ ov = .slice A1 k c1 ∧ wr.ownsRow w.heap.size 3 1 (.slice A1 k c1) k (ws.map nv) ∧ Hid (∀ x ∈ ws, x ≤ 1099511627776) ∧ Below w.heap.size w wr) (fun _ ix _ _ => 7 - (intOf ix).toNat)
  case atStart => exact ⟨0, [], none, 0, Nat.zero_le _, by omega, rfl, rfl, World.ownsRow_nil _ _ _ _, fun x hx => by simp at hx, Below.refl _ _⟩
  case round =>
    obtain ⟨k, ws, A1, c1, hkn, hk6, rfl, rfl, ho, HA, hB⟩ := hrel
    by_cases hlt : k < n ∧ k < 6
    · obtain ⟨h1, h2⟩ := hlt
      obtain ⟨a, rfl, hab, hcl⟩ := Rd.int (hr.below hB) k h1
      obtain ⟨x, hx⟩ : ∃ x, x = l.getD k 0 := ⟨_, rfl⟩
      rw [← hx] at hcl
      have hxb : -9223372036854775808 ≤ x ∧ x ≤ 9223372036854775807 := by
        refine HZ.out x ?_
        rw [hx, List.getD_eq_getElem?_getD, List.getElem?_eq_getElem (by rw [HL.out]; exact h1)]
        exact List.getElem_mem _
      clear hx
      have d1 : decide ((k : Int) < (n : Int)) = true := decide_eq_true (by omega)
      have d2 : decide ((k : Int) < 6) = true := decide_eq_true (by omega)
      have hs := hB.size
      have HO := Lib.hid ho
      have HB := Lib.hid hB
      clear ho hB
      go_wp2_with fail
      refine (around3 x 1099511627777 _ rfl hxb (by omega) wr).mono ?_
      rintro e W ⟨⟨y, rfl, hy, -⟩, rfl⟩
      by_cases h3 : y % 3 = 0
      · have d3 : ((y : Int) % 3 == 0) = true := by simp; omega
        obtain ⟨z, hzy⟩ : ∃ z, z = y / 3 % 5 := ⟨_, rfl⟩
        have d4 : (y : Int) / 3 % 5 = (z : Int) := by omega
        have hz5 : z ≤ 4 := by omega
        have HA2 := Lib.hid (show ∀ x ∈ ws ++ [z], x ≤ 1099511627776 from fun x hx => by
          rcases List.mem_append.1 hx with h | h
          · exact HA.out x h
          · rw [List.mem_singleton.1 h]; omega)
        have ho := HO.out
        have hB := HB.out
        clear h3 hzy
        go_wp2_with (at_builtin; refine wpList_append_rd _ rfl _ _ 23 rfl w.heap.size 3 i0 (.int .i64 0) 8 Try.underlying23 hi hz0 hz1 hz2 rfl (.slice A1 k c1) k _ rfl (ho.alloc _) (wr.heap.size + 1) (some ⟨wr.heap.size, 0, none⟩) 1 1 [nv z] rfl (boxed_rd wr (nv z) 3) (fun u hu => by rw [List.mem_singleton.1 hu]; rfl) (by unfold maxLen; omega) (by omega) (by simp; omega) ?_; intro A2 c2 w2 hown hg _)
        go_roundw
        case rel => exact ⟨k + 1, ws ++ [z], _, _, by omega, by omega, by go_num, rfl, own_cast hown rfl (by rw [List.map_append]; rfl), HA2, own_grown (hB.alloc hs _) (ho.alloc _) hg (by simp; omega)⟩
        case measure => simp [intOf]; omega
      · have d3 : ((y : Int) % 3 == 0) = false := by simp; omega
        have HA2 := Lib.hid (show ∀ x ∈ ws ++ [y], x ≤ 1099511627776 from fun x hx => by
          rcases List.mem_append.1 hx with h | h
          · exact HA.out x h
          · rw [List.mem_singleton.1 h]; omega)
        have ho := HO.out
        have hB := HB.out
        clear h3
        go_wp2_with (at_builtin; refine wpList_append_rd _ rfl _ _ 23 rfl w.heap.size 3 i0 (.int .i64 0) 8 Try.underlying23 hi hz0 hz1 hz2 rfl (.slice A1 k c1) k _ rfl (ho.alloc _) (wr.heap.size + 1) (some ⟨wr.heap.size, 0, none⟩) 1 1 [nv y] rfl (boxed_rd wr (nv y) 3) (fun u hu => by rw [List.mem_singleton.1 hu]; rfl) (by unfold maxLen; omega) (by omega) (by simp; omega) ?_; intro A2 c2 w2 hown hg _)
        go_roundw
        case rel => exact ⟨k + 1, ws ++ [y], _, _, by omega, by omega, by go_num, rfl, own_cast hown rfl (by rw [List.map_append]; rfl), HA2, own_grown (hB.alloc hs _) (ho.alloc _) hg (by simp; omega)⟩
        case measure => simp [intOf]; omega
    · have hlw : ws.length = k := by simpa using ho.1
      have HLW := Lib.hid hlw
      obtain ⟨S, hS⟩ : ∃ S, S = ws.sum := ⟨_, rfl⟩
      have hS8 : S ≤ 4611686018427387904 := by
        have : ∀ l : List Nat, (∀ x ∈ l, x ≤ 1099511627776) → l.sum ≤ l.length * 1099511627776 := by
          intro l
          induction l with
          | nil => intro _; simp
          | cons x r ih => intro h; have := h x (List.mem_cons_self ..); have := ih fun y hy => h y (List.mem_cons_of_mem _ hy); simp only [List.sum_cons, List.length_cons]; omega
        have := this ws HA.out
        rw [hlw, ← hS] at this
        omega
      have cs := rsum ws S hS k c1 A1 (by omega) hS8 _ wr (Rd.of_own ho)
      have HS := Lib.hid hS
      have hcap := own_le ho
      have hcap2 := own_cap ho
      have hs := hB.size
      clear hlw hS
      have hdec : (k < n ∧ ¬ k < 6) ∨ ¬ k < n := by omega
      clear hlt
      rcases hdec with ⟨h1, h2⟩ | h1
      · have d1 : decide ((k : Int) < (n : Int)) = true := decide_eq_true (by omega)
        have d2 : decide ((k : Int) < 6) = false := decide_eq_false (by omega)
        rcases Nat.eq_zero_or_pos S with hS0 | hS0
        · subst hS0
          have HA2 := Lib.hid (show (∀ x ∈ ws ++ [1], x ≤ 1099511627776) ∧ 0 < (ws ++ [1]).sum from ⟨fun x hx => by
            rcases List.mem_append.1 hx with h | h
            · exact HA.out x h
            · rw [List.mem_singleton.1 h]; omega, by simp⟩)
          go_wp2_with fail
          refine cs.mono ?_
          rintro e W ⟨rfl, rfl⟩
          go_wp2_with (at_builtin; refine wpList_append_rd _ rfl _ _ 23 rfl w.heap.size 3 i0 (.int .i64 0) 8 Try.underlying23 hi hz0 hz1 hz2 rfl (.slice A1 k c1) k _ rfl (ho.alloc _) (wr.heap.size + 1) (some ⟨wr.heap.size, 0, none⟩) 1 1 [nv 1] rfl (boxed_rd wr (nv 1) 3) (fun u hu => by rw [List.mem_singleton.1 hu]; rfl) (by unfold maxLen; omega) (by omega) (by simp; omega) ?_; intro A2 c2 w2 hown hg _)
          go_ret
          have hB2 := own_grown (hB.alloc hs _) (ho.alloc _) hg (by simp; omega)
          exact ⟨ws ++ [1], _, _, _, rfl, by omega, own_le hown, own_cap hown, HA2.out.1, HA2.out.2, (Rd.of_own hown).cast rfl (by rw [List.map_append]; rfl), hB2⟩
        · have d3 : ((S : Int) == 0) = false := by simp; omega
          go_wp2_with fail
          refine cs.mono ?_
          rintro e W ⟨rfl, rfl⟩
          go_wp2_with fail
          go_ret
          exact ⟨ws, _, _, _, rfl, by omega, hcap, hcap2, HA.out, by rw [← HS.out]; exact hS0, Rd.of_own ho, hB⟩
      · have d1 : decide ((k : Int) < (n : Int)) = false := decide_eq_false (by omega)
        rcases Nat.eq_zero_or_pos S with hS0 | hS0
        · subst hS0
          have HA2 := Lib.hid (show (∀ x ∈ ws ++ [1], x ≤ 1099511627776) ∧ 0 < (ws ++ [1]).sum from ⟨fun x hx => by
            rcases List.mem_append.1 hx with h | h
            · exact HA.out x h
            · rw [List.mem_singleton.1 h]; omega, by simp⟩)
          go_wp2_with fail
          refine cs.mono ?_
          rintro e W ⟨rfl, rfl⟩
          go_wp2_with (at_builtin; refine wpList_append_rd _ rfl _ _ 23 rfl w.heap.size 3 i0 (.int .i64 0) 8 Try.underlying23 hi hz0 hz1 hz2 rfl (.slice A1 k c1) k _ rfl (ho.alloc _) (wr.heap.size + 1) (some ⟨wr.heap.size, 0, none⟩) 1 1 [nv 1] rfl (boxed_rd wr (nv 1) 3) (fun u hu => by rw [List.mem_singleton.1 hu]; rfl) (by unfold maxLen; omega) (by omega) (by simp; omega) ?_; intro A2 c2 w2 hown hg _)
          go_ret
          have hB2 := own_grown (hB.alloc hs _) (ho.alloc _) hg (by simp; omega)
          exact ⟨ws ++ [1], _, _, _, rfl, by omega, own_le hown, own_cap hown, HA2.out.1, HA2.out.2, (Rd.of_own hown).cast rfl (by rw [List.map_append]; rfl), hB2⟩
        · have d3 : ((S : Int) == 0) = false := by simp; omega
          go_wp2_with fail
          refine cs.mono ?_
          rintro e W ⟨rfl, rfl⟩
          go_wp2_with fail
          go_ret
          exact ⟨ws, _, _, _, rfl, by omega, hcap, hcap2, HA.out, by rw [← HS.out]; exact hS0, Rd.of_own ho, hB⟩
end Go.Proofs.Ytedjmpifkgonhaa
